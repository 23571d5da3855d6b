/-
  Own texts put together: LrWait. Own work.
-/
import Derived.Test.YtiloagmkkhlfjaaGreatG35
import Derived.Test.YtiloagmkkhlfjaaGreatG13
import Derived.Lib.MinMax
namespace Go.Proofs.YtiloagmkkhlfjaaGreat
section
open Go.RowKit Go.Maps Classical
theorem src_set {α : Type} {enc : α → List Value} {K : Nat} (hl : ∀ x, (enc x).length = K) {w : World} {b c n : Nat} {xs : List α} (h : bI enc w (.slice (some ⟨b, 0, none⟩) n c) xs) {i : Nat} (hi : i < xs.length) (y : α) (ht : w.there b (i * K) (enc y).length) :
  bI enc (w.setCells b (i * K) (enc y)) (.slice (some ⟨b, 0, none⟩) n c) (xs.set i y) := by
 obtain ⟨ao, c', e, h1, h2, h3, h4⟩ := h
 cases e
 refine ⟨_, c, by rw [List.length_set], by rw [List.length_set]; exact h1, h2, fun e => (by cases e), fun _ => ?_⟩
 obtain ⟨b', o', e, hb, hc⟩ := h4 (fun e => by rw [e] at hi; simp at hi)
 cases e
 have hsz : ∀ (vs : List Value) (o : Nat) (w : World), (w.setCells b o vs).heap.size = w.heap.size := by
  intro vs
  induction vs with
  | nil => intro o w; rfl
  | cons v vs ih => intro o w; show ((w.setCell _ v).setCells b (o + 1) vs).heap.size = _; rw [ih]; simp
 refine ⟨b, 0, rfl, by rw [hsz]; exact hb, fun j u hu => ?_⟩
 have hlen := gY hl (xs.set i y)
 have hj := (List.getElem?_eq_some_iff.1 hu).1
 rw [hlen, List.length_set] at hj
 have hK : 0 < K := by
  rcases Nat.eq_zero_or_pos K with h | h
  ·subst h; simp at hj
  ·exact h
 have hq : j / K < xs.length := Nat.div_lt_of_lt_mul (by rw [Nat.mul_comm]; exact hj)
 have hr : j % K < K := Nat.mod_lt _ hK
 have hjq : j = j / K * K + j % K := by rw [Nat.mul_comm]; exact (Nat.div_add_mod j K).symm
 have hu2 : (bR enc (xs.set i y))[j / K * K + j % K]? = some u := by rw [← hjq]; exact hu
 rw [jO hl (by rw [List.length_set]; exact hq) hr, List.getElem_set] at hu2
 by_cases e : i = j / K
 ·rw [if_pos e] at hu2
  have hin := World.rangeAt_setCells_same w b (i * K) (enc y) ht (j % K) u hu2
  rw [hjq, ← e, Nat.zero_add]
  exact hin
 ·rw [if_neg e] at hu2
  have hout := World.cell?_setCells_out b (enc y) (i * K) w ⟨b, 0 + j, none⟩ (fun _ _ => by
   rw [hl]
   show 0 + j < i * K ∨ i * K + K ≤ 0 + j
   rcases Nat.lt_or_gt_of_ne e with h | h
   ·right
    have := Nat.mul_le_mul_right K (Nat.succ_le_of_lt h)
    rw [Nat.succ_mul] at this
    omega
   ·left
    have := Nat.mul_le_mul_right K (Nat.succ_le_of_lt h)
    rw [Nat.succ_mul] at this
    omega)
  rw [hout]
  refine hc j u ?_
  rw [hjq, jO hl hq hr]
  exact hu2
theorem row_some {base n : Nat} {w : World} {v : Value} {xs : List Value} {e K : Nat} (h : w.ownsRow base e K v n xs) (hn : 0 < n) : ∃ g c, v = .slice (some ⟨g, 0, none⟩) n c ∧ base ≤ g := by
 rcases h.2 with ⟨_, e0⟩ | ⟨g, c, _, e0, hb, _⟩
 ·omega
 ·exact ⟨g, c, e0, hb⟩
theorem row_lt {α : Type} {enc : α → List Value} {w : World} {b n c : Nat} {xs : List α} (h : bI enc w (.slice (some ⟨b, 0, none⟩) n c) xs) (hn : 0 < xs.length) : b < w.heap.size := by
 obtain ⟨b', o', c', e, hb, _⟩ := h.block (fun e => by rw [e] at hn; simp at hn)
 cases e
 exact hb
theorem there_own {base n g c i : Nat} {w : World} {xs : List Value} {e K : Nat} (h : w.ownsRow base e K (.slice (some ⟨g, 0, none⟩) n c) n xs) (hi : i < n) : w.there g (i * K) K := by
 obtain ⟨_, ⟨e1, _⟩ | ⟨g', cap, cur, e1, _, hh, hc, _, hs, _⟩⟩ := h
 ·cases e1
 ·cases e1
  intro j hj
  have h1 : i * K + j < cur.size := by
   rw [hs]
   have := Nat.mul_le_mul_right K (Nat.succ_le_of_lt (Nat.lt_of_lt_of_le hi hc))
   rw [Nat.succ_mul] at this
   omega
  have hb : bZ w g cur e := hh
  exact ⟨by rw [hb.cell (i * K + j) cur[i * K + j] (by simp [h1])]; rfl, hb.frozen _⟩
theorem iU.put2' {w wf : World} {r : Nat} {vL vH vW : Value} {L : List UsR} {H W : List (cD KeyT)} (h : iU w r vL vH vW L H W) (hB : Below w.heap.size w wf) {v : Value} {W' : List (cD KeyT)} (hs : bI gtE wf v W') (hv : ∀ g, v.ownBlock = some g → w.heap.size ≤ g ∧ g < wf.heap.size) : dC w (wf.setCell ⟨r, 2, none⟩ v) r vL vH vW vL vH v L H W' := by
 have hks : aC (fun k => k = r) wf (wf.setCell ⟨r, 2, none⟩ v) := (aC.refl (fun k => k = r) wf).setCell (p := ⟨r, 2, none⟩) (.inl rfl) _
 have hpw := h.box.lt
 have hf := h.below hB
 have hn : ∀ g, dQ vL vH vW g → g ≠ r := fun g e => (h.far g e).2
 refine ⟨⟨(h.box.belowI hB).set (i := 2) (v := v), hf.sL.keep hks (fun g e e2 => hn g (.inl e) e2), hf.sH.keep hks (fun g e e2 => hn g (.inr (.inl e)) e2), hs.keep hks (fun g e e2 => by have := (hv g e).1; omega), ?_⟩, (aC.of_below (fun k => k = r) hB).trans hks (fun _ _ h => h), ?_⟩
 ·rintro k (e | e | e)
  ·have h1 := hf.far k (.inl e)
   exact ⟨by simpa using h1.1, h1.2⟩
  ·have h1 := hf.far k (.inr (.inl e))
   exact ⟨by simpa using h1.1, h1.2⟩
  ·have h1 := hv k e
   exact ⟨by simpa using h1.2, by omega⟩
 ·rintro k (e | e | e)
  ·exact .inl (.inl e)
  ·exact .inl (.inr (.inl e))
  ·exact .inr (hv k e).1
theorem dC.later {w w1 w2 : World} {r : Nat} {vL vH vW vL' vH' vW' : Value} {L : List UsR} {H W : List (cD KeyT)} {S : Nat → Prop} (h : dC w w1 r vL vH vW vL' vH' vW' L H W) (hk : aC S w1 w2) (h1 : ∀ j, j = r ∨ dQ vL' vH' vW' j → ¬ S j) (h2 : ∀ j, S j → w.heap.size ≤ j) : dC w w2 r vL vH vW vL' vH' vW' L H W :=
 ⟨h.t.keep hk h1, h.k.trans hk (fun k hk e => absurd (h2 k e) (by omega)), h.u⟩
theorem dC.fin {w w8 w9 : World} {r p4 : Nat} {vL vH vW v : Value} {L : List UsR} {H W W' : List (cD KeyT)} (h0 : iU w r vL vH vW L H W) (hF : dC w w8 r vL vH vW vL vH v L H W') (hk : aC (fun j => j = p4) w8 w9) (hp : w.heap.size ≤ p4) (ha : ∀ q, v.ownBlock = some q → q ≠ p4) : dC w w9 r vL vH vW vL vH v L H W' :=
 hF.later hk (fun j hj e => by
  subst e
  rcases hj with e | e | e | e
  ·have := h0.box.lt; omega
  ·have := (h0.far _ (.inl e)).1; omega
  ·have := (h0.far _ (.inr (.inl e))).1; omega
  ·exact ha _ e rfl) (fun j e => by rw [e]; exact hp)
theorem app_run1 {α : Type} {t e : TypeId} {K : Nat} {enc : α → List Value} (R : Rec t e K enc) (W : World) (vx : Value) (xs : List α) (y : α) (cs : Array Value) (hcs : cs.toList = enc y) (t' : TypeId) (hx : bI enc W vx xs) (h1 : ∀ x, ∀ u ∈ enc x, u.oneCell' = true) (hb : xs.length ≤ 900000) :
  ∃ a1 n1 c1 wA a2 n2 c2 wB, (∀ ty, (appH #[t, t] ty #[.slice none 0 0, vx]).run Tryz.prog W.drew = .ok (.slice a1 n1 c1) wA) ∧ (∀ ty, (appH #[t, t] ty #[.slice a1 n1 c1, .slice (some ⟨wA.heap.size, 0, none⟩) 1 1]).run Tryz.prog (wA.alloc (.cells cs t')) = .ok (.slice a2 n2 c2) wB) ∧
   n2 = (xs ++ [y]).length ∧ wB.ownsRow W.heap.size e K (.slice a2 n2 c2) n2 (bR enc (xs ++ [y])) ∧ Below W.heap.size W wA ∧ Below W.heap.size W wB := by
 have hBd : Below W.heap.size W W.drew := (Below.refl _ _).drew
 obtain ⟨v1, wA', r1, o1, g1, _⟩ := dV R W.drew W.heap.size (.slice none 0 0) vx [] xs (World.ownsRow_nil _ _ _ _) (hx.below hBd) (fun x _ => h1 x) (by simp; omega) (Nat.le_refl _)
 rw [List.nil_append] at o1
 have hBA : Below W.heap.size W wA' := hBd.grown g1 (Nat.le_refl _) (fun k hk => by cases hk)
 have hAL := aE wA' (.cells cs t')
 have hB' := hBA.trans (hAL.mono hBA.size)
 obtain ⟨v2, wB', r2, o2, g2, _⟩ := dV R (wA'.alloc (.cells cs t')) W.heap.size v1 (.slice (some ⟨wA'.heap.size, 0, none⟩) 1 1) xs [y] (aJ o1 (aC.of_below (fun _ => False) hAL) (fun _ _ h => h)) (dK (enc := enc) wA' y cs hcs t') (fun x _ => h1 x) (by simp; omega) hB'.size
 have hBB : Below W.heap.size W wB' := hB'.grown g2 hB'.size (fun j hj => (o1.lt j hj).1)
 obtain ⟨b1, d1, e1, _⟩ := aQ o1
 obtain ⟨b2, d2, e2, _⟩ := aQ o2
 subst e1 e2
 exact ⟨b1, _, d1, wA', b2, _, d2, wB', r1, r2, rfl, o2, hBA, hBB⟩
theorem app_run2 {α : Type} {t e : TypeId} {K : Nat} {enc : α → List Value} (R : Rec t e K enc) (W : World) (vx : Value) (xs : List α) (y : α) (cs : Array Value) (hcs : cs.toList = enc y) (t' : TypeId) (hx : bI enc W vx xs) (h1 : ∀ x, ∀ u ∈ enc x, u.oneCell' = true) (hb : xs.length ≤ 900000) :
  ∃ a1 n1 c1 wA a2 n2 c2 wB, (∀ ty, (appH #[t, t] ty #[.slice none 0 0, vx]).run Tryz.prog (W.alloc (.cells cs t')).drew = .ok (.slice a1 n1 c1) wA) ∧ (∀ ty, (appH #[t, t] ty #[.slice a1 n1 c1, .slice (some ⟨W.heap.size, 0, none⟩) 1 1]).run Tryz.prog wA = .ok (.slice a2 n2 c2) wB) ∧
   n2 = (xs ++ [y]).length ∧ wB.ownsRow W.heap.size e K (.slice a2 n2 c2) n2 (bR enc (xs ++ [y])) ∧ Below W.heap.size W wA ∧ Below W.heap.size W wB := by
 have hAL := aE W (.cells cs t')
 have hBd : Below W.heap.size W (W.alloc (.cells cs t')).drew := hAL.drew
 have hy : bI enc (W.alloc (.cells cs t')).drew (.slice (some ⟨W.heap.size, 0, none⟩) 1 1) [y] := (dK (enc := enc) W y cs hcs t').below (aG _)
 obtain ⟨v1, wA, r1, o1, g1, _⟩ := dV R (W.alloc (.cells cs t')).drew (W.alloc (.cells cs t')).drew.heap.size (.slice none 0 0) vx [] xs (World.ownsRow_nil _ _ _ _) (hx.below hBd) (fun x _ => h1 x) (by simp; omega) (Nat.le_refl _)
 rw [List.nil_append] at o1
 have hBA : Below W.heap.size W wA := hBd.grown g1 hBd.size (fun k hk => by cases hk)
 have hA2 : Below (W.alloc (.cells cs t')).drew.heap.size (W.alloc (.cells cs t')).drew wA := (Below.refl _ _).grown g1 (Nat.le_refl _) (fun k hk => by cases hk)
 have o1' := bQ o1 hBd.size
 obtain ⟨v2, wB, r2, o2, g2, _⟩ := dV R wA (W.alloc (.cells cs t')).drew.heap.size v1 (.slice (some ⟨W.heap.size, 0, none⟩) 1 1) xs [y] o1 (hy.below hA2) (fun x _ => h1 x) (by simp; omega) hA2.size
 have hBB : Below W.heap.size W wB := hBA.grown g2 hBA.size (fun j hj => (o1'.lt j hj).1)
 obtain ⟨a1, c1, e1, _⟩ := aQ o1
 obtain ⟨a2, c2, e2, _⟩ := aQ o2
 subst e1 e2
 exact ⟨a1, _, c1, wA, a2, _, c2, wB, r1, r2, rfl, bQ o2 hBd.size, hBA, hBB⟩
attribute [local go_sem ↓] iW
set_option maxRecDepth 100000 in
set_option maxHeartbeats 6400000 in
theorem rwait_any15 (r : Nat) (vL vH vW : Value) (L : List UsR) (H W : List (cD KeyT)) (g : cD KeyT) (w : World) (h : iU w r vL vH vW L H W) (hfew : W.length ≤ 10000) :
  Calls Tryz.prog 59 #[.pointer (some ⟨r, 0, none⟩), .agg (bW g)] w fun e w' => ∃ g' W' vW', e = .returned (.agg (bW g')) ∧ dC w w' r vL vH vW vL vH vW' L H W' ∧ ((∃ i, ∃ hi : i < W.length, W[i].tx = g.tx ∧ W[i].key = g.key ∧ g' = ⟨g.tx, g.key, max g.mode W[i].mode⟩ ∧ W' = W.set i g') ∨ ((∀ x ∈ W, ¬ (x.tx = g.tx ∧ x.key = g.key)) ∧ g' = g ∧ W' = W ++ [g])) := by
 have hA0 := aE w (.cells (bW g) 62)
 have hA1 := aE (w.alloc (.cells (bW g) 62)) (.cells #[.int .u8 0, .int .u32 0, .int .u32 0, .int .u8 0, .int .u8 0, .int .u8 0, .int .u8 0, .int .u8 0, .int .u8 0, .int .u8 0, .int .u8 0, .int .u8 0] 62)
 have hB0 := hA0
 have hB1 := hB0.trans (hA1.mono hB0.size)
 have HXp3 : Hid (bZ ((w.alloc (.cells (bW g) 62)).alloc (.cells #[.int .u8 0, .int .u32 0, .int .u32 0, .int .u8 0, .int .u8 0, .int .u8 0, .int .u8 0, .int .u8 0, .int .u8 0, .int .u8 0, .int .u8 0, .int .u8 0] 62)) (w.heap.size) (bW g) 62) := aA ((aN w (bW g) 62).belowI hA1)
 have HXp4 : Hid (bZ ((w.alloc (.cells (bW g) 62)).alloc (.cells #[.int .u8 0, .int .u32 0, .int .u32 0, .int .u8 0, .int .u8 0, .int .u8 0, .int .u8 0, .int .u8 0, .int .u8 0, .int .u8 0, .int .u8 0, .int .u8 0] 62)) (w.heap.size + 1) #[.int .u8 0, .int .u32 0, .int .u32 0, .int .u8 0, .int .u8 0, .int .u8 0, .int .u8 0, .int .u8 0, .int .u8 0, .int .u8 0, .int .u8 0, .int .u8 0] 62) := aA (by have := aN (w.alloc (.cells (bW g) 62)) #[.int .u8 0, .int .u32 0, .int .u32 0, .int .u8 0, .int .u8 0, .int .u8 0, .int .u8 0, .int .u8 0, .int .u8 0, .int .u8 0, .int .u8 0, .int .u8 0] 62; simpa using this)
 obtain ⟨W1, hw1⟩ : ∃ W1, W1 = ((w.alloc (.cells (bW g) 62)).alloc (.cells #[.int .u8 0, .int .u32 0, .int .u32 0, .int .u8 0, .int .u8 0, .int .u8 0, .int .u8 0, .int .u8 0, .int .u8 0, .int .u8 0, .int .u8 0, .int .u8 0] 62)) := ⟨_, rfl⟩
 obtain ⟨p3, hp3⟩ : ∃ p3, p3 = w.heap.size := ⟨_, rfl⟩
 obtain ⟨p4, hp4⟩ : ∃ p4, p4 = w.heap.size + 1 := ⟨_, rfl⟩
 rw [← hw1] at HXp3 HXp4 hB1
 rw [← hp3] at HXp3
 rw [← hp4] at HXp4
 have HW1 := aA hw1
 have HEp3 := aA hp3
 have HEp4 := aA hp4
 have HB := aA hB1
 have HNp3 : Hid (w.heap.size ≤ p3 ∧ p3 < W1.heap.size) := aA ⟨by omega, HXp3.out.lt⟩
 have HNp4 : Hid (w.heap.size ≤ p4 ∧ p4 < W1.heap.size) := aA ⟨by omega, HXp4.out.lt⟩
 clear hw1 hA0 hB0 hA1 hB1 hp3 hp4
 have HR0 := aA h
 have HR := aA (h.below HB.out)
 obtain ⟨ao, cap, hvb, hcap, hcm⟩ := HR.out.sW.shape
 subst hvb
 obtain ⟨N, hN⟩ : ∃ N, N = W.length := ⟨_, rfl⟩
 have HL := aA hN
 have HS : Hid (∀ V, Below w.heap.size w V → bI gtE V (.slice ao N cap) W) := aA (fun V hV => by rw [hN]; exact (HR0.out.below hV).sW)
 have HC : Hid (∀ V, Below w.heap.size w V → V.cell? ⟨r, 2, none⟩ = some (.slice ao N cap) ∧ V.frozen? ⟨r, 2, none⟩ = false ∧ r < V.heap.size) := aA (fun V hV => by rw [hN]; exact ⟨(HR0.out.below hV).c2, (HR0.out.below hV).box.frozen 2, (HR0.out.below hV).box.lt⟩)
 rw [← hN] at hfew
 have HLT : Hid (r < w.heap.size) := aA HR0.out.box.lt
 have HPN : Hid (p3 ≠ p4) := aA (by have h3 := HEp3.out; have h4 := HEp4.out; omega)
 clear h hN hcap hcm
 go_enter Tryz.func59, Tryz.ntmps59
 go_wp2_with fail
 rw [← HW1.out, ← HEp4.out, ← HEp3.out]
 go_loopw [5] (fun i wr => ∃ k : Nat, k ≤ N ∧ i = .int .i64 k ∧ Hid (∀ j (hj : j < W.length), j < k → ¬ (W[j].tx = g.tx ∧ W[j].key = g.key)) ∧ ∃ nd, wr = W1.drewN nd) (fun i _ => N - (intOf i).toNat)
 case atStart => exact ⟨0, Nat.zero_le _, rfl, aA (fun j _ hj => by omega), 0, rfl⟩
 case round =>
  obtain ⟨k, hk, rfl, HNO, nd, rfl⟩ := hrel
  have HBr := aA (fun m => HB.out.trans ((aU W1 m).mono HB.out.size))
  obtain ⟨m1, mf, ml⟩ := HC.out _ HB.out
  by_cases hlt : k < N
  ·have hkn : k < W.length := by rw [← HL.out]; exact hlt
   obtain ⟨en, b, off, hao, hbl, hc⟩ := (HS.out _ HB.out).at dJ.len hkn
   cases hao
   have r0 := hc 0 _ rfl
   have r1 := hc 1 _ rfl
   have r2 := hc 2 _ rfl
   have r3 := hc 3 _ rfl
   have r4 := hc 4 _ rfl
   have r5 := hc 5 _ rfl
   have r6 := hc 6 _ rfl
   have r7 := hc 7 _ rfl
   have r8 := hc 8 _ rfl
   have r9 := hc 9 _ rfl
   have r10 := hc 10 _ rfl
   have r11 := hc 11 _ rfl
   rw [Nat.add_zero] at r0
   have hq := fun V => eql_txR W[k].tx g.tx V
   have hq2 := fun V => kG W[k].key g.key V
   have hltI : (k : Int) < (N : Int) := by omega
   have HX3 := HXp3.out
   have x0 := HX3.cell 0 _ rfl
   have x1 := HX3.cell 1 _ rfl
   have x2 := HX3.cell 2 _ rfl
   have x3 := HX3.cell 3 _ rfl
   have x4 := HX3.cell 4 _ rfl
   have x5 := HX3.cell 5 _ rfl
   have x6 := HX3.cell 6 _ rfl
   have x7 := HX3.cell 7 _ rfl
   have x8 := HX3.cell 8 _ rfl
   have x9 := HX3.cell 9 _ rfl
   have x10 := HX3.cell 10 _ rfl
   have x11 := HX3.cell 11 _ rfl
   have HXT : Hid (¬ (W[k].tx = g.tx ∧ W[k].key = g.key) → ∀ j (hj : j < W.length), j < k + 1 → ¬ (W[j].tx = g.tx ∧ W[j].key = g.key)) := aA (fun e j hj hjk => by
    by_cases ej : j = k
    ·subst ej; exact e
    ·exact HNO.out j hj (by omega))
   have HYK : Hid (∀ V : Nat, (V : Int) = max (g.mode : Int) (W[k].mode : Int) → W[k].tx = g.tx → W[k].key = g.key → ∀ W' g', g' = ⟨g.tx, g.key, V⟩ → W' = W.set k g' → ∃ i, ∃ hi : i < W.length, W[i].tx = g.tx ∧ W[i].key = g.key ∧ g' = ⟨g.tx, g.key, max g.mode W[i].mode⟩ ∧ W' = W.set i g') := aA (fun V hV e1 e2 W' g' e3 e4 => ⟨k, hkn, e1, e2, by rw [e3]; congr 1; omega, e4⟩)
   have HRG : Hid (∀ m, (W1.drewN m).cell? ⟨b, off + k * 12 + 11, none⟩ = some (.int .u8 (W[k].mode : Int))) := aA (fun m => by
    exact ((aU W1 m).cell (p := ⟨b, off + k * 12 + 11, none⟩) hbl).trans (hc 11 _ rfl))
   have HBB := aA hbl
   clear en hbl
   generalize W[k] = y at *
   by_cases e : y.tx = g.tx
   ·by_cases e2 : y.key = g.key
    ·rw [decide_eq_true e] at hq
     rw [decide_eq_true e2] at hq2
     obtain ⟨V, hV⟩ : ∃ V : Nat, (V : Int) = max (g.mode : Int) (y.mode : Int) := ⟨max g.mode y.mode, by omega⟩
     obtain ⟨g', hg'⟩ : ∃ g' : cD KeyT, g' = ⟨g.tx, g.key, V⟩ := ⟨_, rfl⟩
     have HYY := aA (HYK.out V hV e e2 _ g' hg' rfl)
     have hmx := hV.symm
     have HG' := aA hg'
     clear hc e e2 HXT HYK hV hg'
     go_wp2_with fail
     go_quiet (fail)
     have hWq := (aU W1 nd).trans (aU (W1.drewN nd) nq)
     have HBq := aA (HB.out.trans (hWq.mono HB.out.size))
     have hm11 : ((W1.drewN nd).drewN nq).cell? ⟨b, off + k * 12 + 11, none⟩ = some (.int .u8 (y.mode : Int)) := by simpa using HRG.out (nd + nq)
     have HX3q := HXp3.out.belowI hWq
     have x11q := HX3q.cell 11 _ rfl
     have x11f := HX3q.frozen 11
     have x11l := HX3q.lt
     obtain ⟨m1q, mfq, mlq⟩ := HC.out _ HBq.out
     have HX3q := aA HX3q
     have HX4q := aA (HXp4.out.belowI hWq)
     clear hWq r0 r1 r2 r3 r4 r5 r6 r7 r8 r9 r10 r11 x0 x1 x2 x3 x4 x5 x6 x7 x8 x9 x10 x11 m1 mf ml HRG HX3
     generalize (W1.drewN nd).drewN nq = wq at *
     go_wp2_with fail
     go_region
     obtain ⟨w5, hw5⟩ : ∃ w5, w5 = (wq.setCell ⟨p3, 11, none⟩ (.int .u8 (V : Int))).drew := ⟨_, rfl⟩
     rw [← hw5]
     have hkq := (aC.refl (fun j => j = p3) wq).setCell (p := ⟨p3, 11, none⟩) (.inl rfl) (.int .u8 (V : Int))
     have HB5 : Hid (Below w.heap.size w w5) := aA (by rw [hw5]; exact (HBq.out.trans (hkq.below HBq.out.size (fun j e => by rw [e]; exact HNp3.out.1))).drew)
     have HX35 : Hid (bZ w5 p3 (bW g') 62) := aA (by rw [hw5, HG'.out]; exact (HX3q.out.set (i := 11) (v := .int .u8 (V : Int))).belowI (aG _))
     have HX45 : Hid (bZ w5 p4 #[.int .u8 0, .int .u32 0, .int .u32 0, .int .u8 0, .int .u8 0, .int .u8 0, .int .u8 0, .int .u8 0, .int .u8 0, .int .u8 0, .int .u8 0, .int .u8 0] 62) := aA (by rw [hw5]; exact (HX4q.out.keep hkq (fun e => HPN.out e.symm)).belowI (aG _))
     clear hkq
     clear hm11 x11q x11f x11l m1q mfq mlq HX3q HX4q HBq hw5
     obtain ⟨m1, mf, ml⟩ := HC.out _ HB5.out
     have HS5 := aA (HS.out _ HB5.out)
     clear hq hq2 hmx
     generalize y.mode = ym at *
     go_wp2_with (first
      | (at_builtin; refine dS dJ _ rfl _ _ rfl w5.heap.size (.slice none 0 0) _ [] W rfl (World.ownsRow_nil _ _ _ _) rfl HS5.out (fun z _ => gS _) (by rw [← HL.out]; simp; omega) (Nat.le_refl _) ?_; intro v6 w6 ho6 hg6 _; rw [List.nil_append] at ho6; have HR6 := aA (bI.of_own ho6); rw [← HL.out] at ho6; have HO6 := aA ho6; have HBA : Hid (Below w5.heap.size w5 w6) := aA ((Below.refl _ _).grown hg6 (Nat.le_refl _) (fun j hj => by cases hj)); clear ho6 hg6; obtain ⟨gb, cb, hv6, hgb⟩ := row_some HO6.out (by omega); subst hv6; have HGB := aA hgb; have HX36 := aA (HX35.out.belowI HBA.out); have HX46 := aA (HX45.out.belowI HBA.out); clear hgb)
      | (refine aO rfl _ (t := 62) rfl (p3) (0) rfl (gtE g') (bE HX36.out) Tryz.underlying62 rfl bS ?_)
      | (refine wpList_store_mid rfl 62 _ _ rfl gb (k * 12) (gtE g').toArray rfl rfl (there_own (i := k) HO6.out hlt) bS (all_oneCell_toArray (gS g')) ?_; obtain ⟨w7, hw7⟩ : ∃ w7, w7 = w6.setCells gb (k * 12) (gtE g').toArray.toList := ⟨_, rfl⟩; rw [← hw7]; have hk7 : aC (fun j => j = gb) w6 w7 := (by rw [hw7]; exact aC.setCells _ _ _ _ (aC.refl _ _) (.inl rfl)); have HB57 : Hid (Below w5.heap.size w5 w7) := aA (HBA.out.trans (hk7.below HBA.out.size (fun j e => by rw [e]; exact HGB.out))); have HS7 : Hid (bI gtE w7 (.slice (some ⟨gb, 0, none⟩) N cb) (W.set k g')) := aA (by rw [hw7]; exact src_set dJ.len HR6.out (by rw [← HL.out]; exact hlt) g' (there_own (i := k) HO6.out hlt)); have HB7 := aA (HB5.out.trans (HB57.out.mono HB5.out.size)); obtain ⟨n1, nf, nl⟩ := HC.out _ HB7.out; have HX37 := aA (HX35.out.belowI HB57.out); have HX47 := aA (HX45.out.belowI HB57.out); have hks := (aC.refl (fun j => j = r) w7).setCell (p := ⟨r, 2, none⟩) (.inl rfl) (.slice (some ⟨gb, 0, none⟩) N cb); have HX36 := aA (HX37.out.keep hks (fun e => by have h1 := HNp3.out.1; have h2 := HLT.out; omega)); have HX48 := aA (HX47.out.keep hks (fun e => by have h1 := HNp4.out.1; have h2 := HLT.out; omega)); clear hk7 hw7 hks)
      | (refine aP rfl rfl _ _ rfl p4 rfl (cs' := bW g') rfl HX48.out rfl bS (by simp [Value.oneCell']) ?_; intro w9 hb9 hk9; have HX9 := aA hb9; have HK9 := aA hk9; clear hb9 hk9))
     have hgb4 : gb ≠ p4 := by have h1 := HGB.out; have h2 := HX45.out.lt; omega
     have HP8 := aA ((HR0.out.put2' HB7.out HS7.out (fun q e => by cases e; exact ⟨Nat.le_trans HB5.out.size HGB.out, row_lt HS7.out (by rw [List.length_set, ← HL.out]; omega)⟩)).later HK9.out (fun j hj e => by
      subst e
      have h1 := HNp4.out.1
      have h2 := HLT.out
      rcases hj with e | e | e | e
      ·omega
      ·have := (HR0.out.far _ (.inl e)).1; omega
      ·have := (HR0.out.far _ (.inr (.inl e))).1; omega
      ·cases e; exact hgb4 rfl) (fun j e => by rw [e]; exact HNp4.out.1))
     (try simp only [Exit.inBlock, Exit.then])
     exact bodyPost_ret (v := .agg (bW g')) (eL Tryz.results59 _ _ p4 rfl HX9.out Tryz.underlying62 rfl bS) rfl ⟨g', W.set k g', _, rfl, by first | exact HP8.out | (rw [← HL.out]; exact HP8.out), .inl HYY.out⟩
    ·have HNO2 := aA (HXT.out (fun h => e2 h.2))
     rw [decide_eq_true e] at hq
     rw [decide_eq_false e2] at hq2
     clear hc e e2 HXT HYK
     go_wp2_with fail
     go_quiet (fail)
     go_wp2_with fail
     go_roundw
     case rel => exact ⟨k + 1, by omega, by go_num, HNO2, nd + nq, by simp⟩
     case measure => simp [intOf]; omega
   ·have HNO2 := aA (HXT.out (fun h => e h.1))
    rw [decide_eq_false e] at hq
    clear hc e HXT HYK
    go_wp2_with fail
    go_quiet (fail)
    go_wp2_with fail
    go_roundw
    case rel => exact ⟨k + 1, by omega, by go_num, HNO2, nd + nq, by simp⟩
    case measure => simp [intOf]; omega
  ·have hkE : k = N := by omega
   have HNN : Hid (∀ x ∈ W, ¬ (x.tx = g.tx ∧ x.key = g.key)) := aA (fun x hx => by
    obtain ⟨j, hj, rfl⟩ := List.getElem_of_mem hx
    exact HNO.out j hj (by have := HL.out; omega))
   have hltF : ¬ ((k : Int) < (N : Int)) := by omega
   have hw1 := aU W1 nd
   have HBd := aA (HBr.out nd)
   have HX3d := aA (HXp3.out.belowI hw1)
   have HX4d := aA (HXp4.out.belowI hw1)
   clear hkE hw1 m1 mf ml HBr
   generalize W1.drewN nd = wd at *
   obtain ⟨a1, n1, c1, wA, a2, n2, c2, wB, e1, e2, hn2, hown, b1, b2⟩ := app_run1 dJ wd _ _ g (bW g) rfl 62 (HS.out _ HBd.out) gS (by rw [← HL.out]; omega)
   obtain ⟨a1', n1', c1', wA', a2', n2', c2', wB', f1, f2, hn2', hown', d1, d2⟩ := app_run2 dJ wd _ _ g (bW g) rfl 62 (HS.out _ HBd.out) gS (by rw [← HL.out]; omega)
   rw [hn2] at hown
   rw [hn2'] at hown'
   have HRd := HR0.out.below HBd.out
   have HF1 := aA ((HRd.put2 b2 hown).before HBd.out)
   have HF2 := aA ((HRd.put2 d2 hown').before HBd.out)
   rw [← hn2] at HF1
   rw [← hn2'] at HF2
   have hks1 := (aC.refl (fun j => j = r) wB).setCell (p := ⟨r, 2, none⟩) (.inl rfl) (.slice a2 n2 c2)
   have hks2 := (aC.refl (fun j => j = r) wB').setCell (p := ⟨r, 2, none⟩) (.inl rfl) (.slice a2' n2' c2')
   have hr3 : p3 ≠ r := by have h1 := HNp3.out.1; have h2 := HLT.out; omega
   have hr4 : p4 ≠ r := by have h1 := HNp4.out.1; have h2 := HLT.out; omega
   have HRP4 := aA hr4
   have HX31 := aA ((HX3d.out.belowI b2).keep hks1 hr3)
   have HX32 := aA ((HX3d.out.belowI d2).keep hks2 hr3)
   have HX41 := aA ((HX4d.out.belowI b2).keep hks1 hr4)
   have HX42 := aA ((HX4d.out.belowI d2).keep hks2 hr4)
   have HA1 := aA (fun q (e : (Value.slice a2 n2 c2).ownBlock = some q) => Nat.ne_of_gt (Nat.lt_of_lt_of_le HX4d.out.lt (hown.lt q (by rw [← hn2]; exact e)).1))
   have HA2 := aA (fun q (e : (Value.slice a2' n2' c2').ownBlock = some q) => Nat.ne_of_gt (Nat.lt_of_lt_of_le HX4d.out.lt (hown'.lt q (by rw [← hn2']; exact e)).1))
   have HCE : Hid (∀ V, Below wd.heap.size wd V → V.cell? ⟨r, 2, none⟩ = some (.slice ao N cap) ∧ V.frozen? ⟨r, 2, none⟩ = false ∧ r < V.heap.size) := aA (fun V hV => HC.out V (HBd.out.trans (hV.mono HBd.out.size)))
   obtain ⟨x00, x01, x02⟩ := HCE.out wd (Below.refl _ _)
   obtain ⟨x10, x11, x12⟩ := HCE.out wA b1
   obtain ⟨x20, x21, x22⟩ := HCE.out wB b2
   obtain ⟨y10, y11, y12⟩ := HCE.out wA' d1
   obtain ⟨y20, y21, y22⟩ := HCE.out wB' d2
   have hX := HX3d.out
   have u0 := hX.cell 0 _ rfl
   have u1 := hX.cell 1 _ rfl
   have u2 := hX.cell 2 _ rfl
   have u3 := hX.cell 3 _ rfl
   have u4 := hX.cell 4 _ rfl
   have u5 := hX.cell 5 _ rfl
   have u6 := hX.cell 6 _ rfl
   have u7 := hX.cell 7 _ rfl
   have u8 := hX.cell 8 _ rfl
   have u9 := hX.cell 9 _ rfl
   have u10 := hX.cell 10 _ rfl
   have u11 := hX.cell 11 _ rfl
   have hX2 := hX.belowI b1
   have v0 := hX2.cell 0 _ rfl
   have v1 := hX2.cell 1 _ rfl
   have v2 := hX2.cell 2 _ rfl
   have v3 := hX2.cell 3 _ rfl
   have v4 := hX2.cell 4 _ rfl
   have v5 := hX2.cell 5 _ rfl
   have v6 := hX2.cell 6 _ rfl
   have v7 := hX2.cell 7 _ rfl
   have v8 := hX2.cell 8 _ rfl
   have v9 := hX2.cell 9 _ rfl
   have v10 := hX2.cell 10 _ rfl
   have v11 := hX2.cell 11 _ rfl
   clear hown hown' hn2 hn2' HRd hks1 hks2 b1 b2 d1 d2 hX hX2
   go_wp2_with fail
   go_region
   all_goals
    go_wp2_with (first
     | (refine aO rfl _ (t := 62) rfl (p3) (0) rfl (gtE g) (bE (by first | exact HX31.out | exact HX32.out)) Tryz.underlying62 rfl bS ?_)
     | (refine aP rfl rfl _ _ rfl p4 rfl (cs' := bW g) rfl HX41.out rfl bS (by simp [Value.oneCell']) ?_; intro w9 hb9 hk9; have HX9 := aA hb9; have HK9 := aA hk9; clear hb9 hk9)
     | (refine aP rfl rfl _ _ rfl p4 rfl (cs' := bW g) rfl HX42.out rfl bS (by simp [Value.oneCell']) ?_; intro w9 hb9 hk9; have HX9 := aA hb9; have HK9 := aA hk9; clear hb9 hk9))
    (try simp only [Exit.inBlock, Exit.then])
    first
    | exact bodyPost_ret (v := .agg (bW g)) (eL Tryz.results59 _ _ p4 rfl HX9.out Tryz.underlying62 rfl bS) rfl ⟨g, W ++ [g], _, rfl, (by have h := dC.fin HR0.out HF1.out HK9.out HNp4.out.1 HA1.out; first | exact h | (rw [← HL.out]; exact h)), .inr ⟨HNN.out, rfl, rfl⟩⟩
    | exact bodyPost_ret (v := .agg (bW g)) (eL Tryz.results59 _ _ p4 rfl HX9.out Tryz.underlying62 rfl bS) rfl ⟨g, W ++ [g], _, rfl, (by have h := dC.fin HR0.out HF2.out HK9.out HNp4.out.1 HA2.out; first | exact h | (rw [← HL.out]; exact h)), .inr ⟨HNN.out, rfl, rfl⟩⟩
end
end Go.Proofs.YtiloagmkkhlfjaaGreat
