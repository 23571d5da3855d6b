/-
  Own texts put together: LrPut, LrHold. Own work.
-/
import Derived.Test.YtiloagmkkhlfjaaGreatG33
import Derived.Test.YtiloagmkkhlfjaaGreatG34
namespace Go.Proofs.YtiloagmkkhlfjaaGreat
set_option maxRecDepth 100000
section
open Go.RowKit Go.Maps Classical
theorem en_txsR : ∀ args w, (callFunc 84 args).run Tryz.prog w = .ok (.enter 84 args) w := enters_of Tryz.func84 (by kernel_rfl) rfl
section
variable {w wf : World} {r : Nat} {vL vH vW : Value} {L : List UsR} {H W : List (cD KeyT)}
structure dC (w w' : World) (r : Nat) (vL vH vW vL' vH' vW' : Value) (L : List UsR) (H W : List (cD KeyT)) : Prop where
 t : iU w' r vL' vH' vW' L H W
 k : aC (fun j => j = r) w w'
 u : ∀ j, dQ vL' vH' vW' j → dQ vL vH vW j ∨ w.heap.size ≤ j
theorem dC.before {w1 w' : World} {vL' vH' vW' : Value} (hB : Below w.heap.size w w1) (h : dC w1 w' r vL vH vW vL' vH' vW' L H W) : dC w w' r vL vH vW vL' vH' vW' L H W :=
 ⟨h.t, (aC.of_below (fun k => k = r) hB).trans h.k (fun _ _ h => h), fun j hj => (h.u j hj).imp id (fun h => Nat.le_trans hB.size h)⟩
theorem dC.after {w1 w' : World} {vL' vH' vW' : Value} (h : dC w w1 r vL vH vW vL' vH' vW' L H W) (hB : Below w1.heap.size w1 w') : dC w w' r vL vH vW vL' vH' vW' L H W :=
 ⟨h.t.below hB, h.k.trans (aC.of_below (fun k => k = r) hB) (fun _ _ h => h), h.u⟩
theorem iU.put0 (h : iU w r vL vH vW L H W) (hB : Below w.heap.size w wf) {v : Value} {L' : List UsR} (ho : wf.ownsRow w.heap.size 83 5 v L'.length (bR urE L')) : dC w (wf.setCell ⟨r, 0, none⟩ v) r vL vH vW v vH vW L' H W := by
 have hks : aC (fun k => k = r) wf (wf.setCell ⟨r, 0, none⟩ v) := (aC.refl (fun k => k = r) wf).setCell (p := ⟨r, 0, none⟩) (.inl rfl) _
 have hpw := h.box.lt
 have hf := h.below hB
 have hn : ∀ g, dQ vL vH vW g → g ≠ r := fun g e => (h.far g e).2
 refine ⟨⟨(h.box.belowI hB).set (i := 0) (v := v), (bI.of_own ho).keep hks (fun g e e2 => by have := (ho.lt g e).1; omega), hf.sH.keep hks (fun g e e2 => hn g (.inr (.inl e)) e2), hf.sW.keep hks (fun g e e2 => hn g (.inr (.inr e)) e2), ?_⟩, (aC.of_below (fun k => k = r) hB).trans hks (fun _ _ h => h), ?_⟩
 ·rintro k (e | e)
  ·have h1 := ho.lt k e
   exact ⟨by simpa using h1.2, by omega⟩
  ·have h1 := hf.far k (.inr e)
   exact ⟨by simpa using h1.1, h1.2⟩
 ·rintro k (e | e)
  ·exact .inr (ho.lt k e).1
  ·exact .inl (.inr e)
theorem iU.put1 (h : iU w r vL vH vW L H W) (hB : Below w.heap.size w wf) {v : Value} {H' : List (cD KeyT)} (ho : wf.ownsRow w.heap.size 62 12 v H'.length (bR gtE H')) : dC w (wf.setCell ⟨r, 1, none⟩ v) r vL vH vW vL v vW L H' W := by
 have hks : aC (fun k => k = r) wf (wf.setCell ⟨r, 1, none⟩ v) := (aC.refl (fun k => k = r) wf).setCell (p := ⟨r, 1, none⟩) (.inl rfl) _
 have hpw := h.box.lt
 have hf := h.below hB
 have hn : ∀ g, dQ vL vH vW g → g ≠ r := fun g e => (h.far g e).2
 refine ⟨⟨(h.box.belowI hB).set (i := 1) (v := v), hf.sL.keep hks (fun g e e2 => hn g (.inl e) e2), (bI.of_own ho).keep hks (fun g e e2 => by have := (ho.lt g e).1; omega), hf.sW.keep hks (fun g e e2 => hn g (.inr (.inr e)) e2), ?_⟩, (aC.of_below (fun k => k = r) hB).trans hks (fun _ _ h => h), ?_⟩
 ·rintro k (e | e | e)
  ·have h1 := hf.far k (.inl e)
   exact ⟨by simpa using h1.1, h1.2⟩
  ·have h1 := ho.lt k e
   exact ⟨by simpa using h1.2, by omega⟩
  ·have h1 := hf.far k (.inr (.inr e))
   exact ⟨by simpa using h1.1, h1.2⟩
 ·rintro k (e | e | e)
  ·exact .inl (.inl e)
  ·exact .inr (ho.lt k e).1
  ·exact .inl (.inr (.inr e))
theorem iU.put2 (h : iU w r vL vH vW L H W) (hB : Below w.heap.size w wf) {v : Value} {W' : List (cD KeyT)} (ho : wf.ownsRow w.heap.size 62 12 v W'.length (bR gtE W')) : dC w (wf.setCell ⟨r, 2, none⟩ v) r vL vH vW vL vH v L H W' := by
 have hks : aC (fun k => k = r) wf (wf.setCell ⟨r, 2, none⟩ v) := (aC.refl (fun k => k = r) wf).setCell (p := ⟨r, 2, none⟩) (.inl rfl) _
 have hpw := h.box.lt
 have hf := h.below hB
 have hn : ∀ g, dQ vL vH vW g → g ≠ r := fun g e => (h.far g e).2
 refine ⟨⟨(h.box.belowI hB).set (i := 2) (v := v), hf.sL.keep hks (fun g e e2 => hn g (.inl e) e2), hf.sH.keep hks (fun g e e2 => hn g (.inr (.inl e)) e2), (bI.of_own ho).keep hks (fun g e e2 => by have := (ho.lt g e).1; omega), ?_⟩, (aC.of_below (fun k => k = r) hB).trans hks (fun _ _ h => h), ?_⟩
 ·rintro k (e | e | e)
  ·have h1 := hf.far k (.inl e)
   exact ⟨by simpa using h1.1, h1.2⟩
  ·have h1 := hf.far k (.inr (.inl e))
   exact ⟨by simpa using h1.1, h1.2⟩
  ·have h1 := ho.lt k e
   exact ⟨by simpa using h1.2, by omega⟩
 ·rintro k (e | e | e)
  ·exact .inl (.inl e)
  ·exact .inl (.inr (.inl e))
  ·exact .inr (ho.lt k e).1
end
theorem take_whileR {α : Type} {f : α → Bool} : ∀ {l : List α} {j : Nat}, j ≤ l.length → (∀ x ∈ l.take j, f x = true) → (∀ h : j < l.length, f l[j] = false) → l.takeWhile f = l.take j ∧ l.dropWhile f = l.drop j
 | [], j, _, _, _ => by simp
 | x :: l, 0, _, _, h2 => by
  have hx : f x = false := h2 (by simp)
  rw [List.takeWhile_cons, List.dropWhile_cons]
  simp [hx]
 | x :: l, j + 1, hj, h, h2 => by
  have hx : f x = true := h x (by simp)
  have := take_whileR (l := l) (j := j) (by simpa using hj) (fun y hy => h y (by rw [List.take_succ_cons]; exact List.mem_cons_of_mem _ hy)) (fun hlt => h2 (by simpa using hlt))
  rw [List.takeWhile_cons, List.dropWhile_cons]
  simp [hx, this.1, this.2]
def inU (L : List UsR) (x : UsR) : List UsR := L.takeWhile (fun y => decide (jZ y.tx x.tx < 0)) ++ [x] ++ L.dropWhile (fun y => decide (jZ y.tx x.tx < 0))
theorem inU_at {L : List UsR} {x : UsR} {j : Nat} (hj : j ≤ L.length) (h : ∀ m (hm : m < L.length), m < j → jZ L[m].tx x.tx < 0) (h2 : ∀ h : j < L.length, ¬ jZ L[j].tx x.tx < 0) : inU L x = L.take j ++ [x] ++ L.drop j := by
 obtain ⟨e1, e2⟩ := take_whileR (f := fun y : UsR => decide (jZ y.tx x.tx < 0)) (l := L) (j := j) hj (fun y hy => by
  obtain ⟨m, hm, rfl⟩ := List.getElem_of_mem hy
  rw [List.length_take] at hm
  rw [List.getElem_take]
  simpa using h m (by omega) (by omega)) (fun hlt => by simpa using h2 hlt)
 unfold inU
 rw [e1, e2]
theorem inU_ins (l : List (aS KeyT)) (x : aS KeyT) : inU (l.map usR) (usR x) = (dH l x).map usR := by
 unfold inU dH
 rw [List.takeWhile_map, List.dropWhile_map, List.map_append, List.map_cons, List.append_assoc]
 rfl
attribute [local go_sem ↓] iW
set_option maxHeartbeats 6400000 in
theorem radd_any15 (r : Nat) (vL vH vW : Value) (L : List UsR) (H W : List (cD KeyT)) (x : UsR) (w : World) (h : iU w r vL vH vW L H W) (hfew : L.length ≤ 100) (hx : x.tx.1 < 256) (hok : ∀ y ∈ L, y.tx.1 < 256) :
  Calls Tryz.prog 56 #[.pointer (some ⟨r, 0, none⟩), .agg (urA x)] w fun e w' => e = .returned (.tuple #[]) ∧ ∃ vL', dC w w' r vL vH vW vL' vH vW (inU L x) H W := by
 have hA0 := aE w (.cells (urA x) 83)
 have hB0 := hA0
 have HXp3 : Hid (bZ (w.alloc (.cells (urA x) 83)) (w.heap.size) (urA x) 83) := aA (by have := aN w (urA x) 83; simpa using this)
 obtain ⟨W1, hw1⟩ : ∃ W1, W1 = (w.alloc (.cells (urA x) 83)) := ⟨_, rfl⟩
 obtain ⟨p3, hp3⟩ : ∃ p3, p3 = w.heap.size := ⟨_, rfl⟩
 rw [← hw1] at HXp3 hB0
 rw [← hp3] at HXp3
 have HW1 := aA hw1
 have HEp3 := aA hp3
 have HB := aA hB0
 have HNp3 : Hid (w.heap.size ≤ p3 ∧ p3 < W1.heap.size) := aA ⟨by omega, HXp3.out.lt⟩
 clear hw1 hA0 hB0 hp3
 have HR := aA (h.below HB.out)
 have HRP : Hid (∀ V, Below W1.heap.size W1 V → V.rangeAt p3 1 (txE3 x.tx)) := aA (fun V hV j v hv => by
  refine (HXp3.out.belowI hV).cell (1 + j) v ?_
  match j, hv with
  | 0, hv => exact hv
  | 1, hv => exact hv
  | 2, hv => exact hv
  | j + 3, hv => simp at hv)
 obtain ⟨N, hN⟩ : ∃ N, N = L.length := ⟨_, rfl⟩
 have HL := aA hN
 rw [← hN] at hfew
 have HOK := aA hok
 have HRP0 := HRP
 clear h hN hok
 go_enter Tryz.func56, Tryz.ntmps56
 go_wp2_with fail
 rw [← HW1.out, ← HEp3.out]
 go_loopw [4] (fun i wr => ∃ k : Nat, k ≤ N ∧ i = .int .i64 k ∧ Hid (∀ m (hm : m < L.length), m < k → jZ L[m].tx x.tx < 0) ∧ Hid (Below W1.heap.size W1 wr)) (fun i _ => N - (intOf i).toNat)
 case atStart => exact ⟨0, Nat.zero_le _, rfl, aA (fun j _ hj => by omega), aA (Below.refl _ _)⟩
 case round =>
  obtain ⟨k, hk, rfl, HUP, HBr⟩ := hrel
  have HRP : Hid (∀ V, Below wr.heap.size wr V → V.rangeAt p3 1 (txE3 x.tx)) := aA (fun V hV => HRP0.out V (HBr.out.trans (hV.mono HBr.out.size)))
  obtain ⟨ao, cap, hvb, hcap0, hcm0⟩ := HR.out.sL.shape
  by_cases hkN : k < N
  ·have hkn : k < L.length := by rw [← HL.out]; exact hkN
   have hlt := fH (k : Int) (N : Int) true (decide_eq_true (by omega))
   have hRr := HR.out.below HBr.out
   rw [hvb] at hRr
   obtain ⟨en, b, off, hao, hbl, hc⟩ := hRr.sL.at eJ.len hkn
   cases hao
   have HC : Hid (∀ V, Below wr.heap.size wr V → V.cell? ⟨r, 0, none⟩ = some (.slice (some ⟨b, off, none⟩) N cap)) := aA (fun V hV => by rw [HL.out]; exact (hRr.below hV).c0)
   have HRX : Hid (∀ V, Below wr.heap.size wr V → V.rangeAt b (off + k * 5 + 1) (txE3 L[k].tx)) := aA (fun V hV j v hv => by
    rw [Nat.add_assoc, hV.cell (p := ⟨b, off + k * 5 + (1 + j), none⟩) hbl]
    refine hc (1 + j) v ?_
    match j, hv with
    | 0, hv => exact hv
    | 1, hv => exact hv
    | 2, hv => exact hv
    | j + 3, hv => simp at hv)
   have HUX : Hid (jZ L[k].tx x.tx < 0 → ∀ m (hm : m < L.length), m < k + 1 → jZ L[m].tx x.tx < 0) := aA (fun e m hm hmk => by
    by_cases ej : m = k
    ·subst ej; exact e
    ·exact HUP.out m hm (by omega))
   have HIX : Hid (¬ jZ L[k].tx x.tx < 0 → inU L x = L.take k ++ [x] ++ L.drop k) := aA (fun e => inU_at (by omega) HUP.out (fun _ => e))
   have hyo := HOK.out _ (List.getElem_mem hkn)
   generalize L[k] = y at *
   obtain ⟨Z, hZ⟩ : ∃ Z, Z = jZ y.tx x.tx := ⟨_, rfl⟩
   have CT : Hid (∀ V, Calls Tryz.prog 84 #[aV y.tx, aV x.tx] V fun e w' => e = .returned (.int .i64 Z) ∧ Below V.heap.size V w') := aA (fun V => by
    have := rtxs_any (y.tx.1 : Int) (y.tx.2.1 : Int) (y.tx.2.2 : Int) (x.tx.1 : Int) (x.tx.2.1 : Int) (x.tx.2.2 : Int) V (by omega) (by omega) (by omega) (by omega)
    rw [hZ]
    exact this)
   rw [← hZ] at HUX HIX
   clear hRr hc en hbl hcap0 hcm0 hZ hyo
   by_cases ez : Z < 0
   ·have hltz := fH Z 0 true (decide_eq_true ez)
    have HUP2 := aA (HUX.out ez)
    clear HUX HIX ez
    go_wp2_with fail
    refine bD (by kernel_rfl) [(5, .int .i64 (k : Int)), (6, .pointer (some ⟨r, 0, none⟩)), (7, .pointer (some ⟨r, 0, none⟩)), (8, .pointer (some ⟨r, 0, none⟩)), (9, .slice (some ⟨b, off, none⟩) N cap), (10, .int .i64 (N : Int)), (11, .bool true), (12, .bool true), (13, .pointer (some ⟨r, 0, none⟩)), (14, .pointer (some ⟨r, 0, none⟩)), (15, .pointer (some ⟨r, 0, none⟩)), (16, .slice (some ⟨b, off, none⟩) N cap), (17, .int .i64 (k : Int)), (18, .pointer (some ⟨b, off + k * 5, none⟩)), (19, .pointer (some ⟨b, off + k * 5, none⟩)), (20, .pointer (some ⟨b, off + k * 5 + 1, none⟩)), (21, aV y.tx), (22, .pointer (some ⟨p3, 0, none⟩)), (23, .pointer (some ⟨p3, 1, none⟩)), (24, aV x.tx), (25, .int .i64 Z), (26, .bool true), (27, .bool true)] (by kernel_rfl) rfl ?_ ?_
    ·intro i o hi A w1 hB hold hdeps
     have hlt : i < 23 := (Array.getElem?_eq_some_iff.1 hi).1
     have hc : i = 0 ∨ i = 1 ∨ i = 2 ∨ i = 3 ∨ i = 4 ∨ i = 5 ∨ i = 6 ∨ i = 7 ∨ i = 8 ∨ i = 9 ∨ i = 10 ∨ i = 11 ∨ i = 12 ∨ i = 13 ∨ i = 14 ∨ i = 15 ∨ i = 16 ∨ i = 17 ∨ i = 18 ∨ i = 19 ∨ i = 20 ∨ i = 21 ∨ i = 22 := by omega
     clear hlt
     rcases hc with rfl|rfl|rfl|rfl|rfl|rfl|rfl|rfl|rfl|rfl|rfl|rfl|rfl|rfl|rfl|rfl|rfl|rfl|rfl|rfl|rfl|rfl|rfl <;> obtain rfl := Option.some.inj hi
     ·have s4 : A.tmps.getD 4 undef = .int .i64 (k : Int) := hold 4 (by kernel_rfl)
      exact aD hi rfl rfl (aR _ s4)
     ·have s0 : A.tmps.getD 0 undef = .pointer (some ⟨r, 0, none⟩) := hold 0 (by kernel_rfl)
      exact aD hi rfl rfl (aR _ s0)
     ·have s6 : A.tmps.getD 6 undef = .pointer (some ⟨r, 0, none⟩) := aB hdeps 1 (by kernel_rfl)
      exact aD hi rfl rfl (dY _ s6)
     ·have s7 : A.tmps.getD 7 undef = .pointer (some ⟨r, 0, none⟩) := aB hdeps 2 (by kernel_rfl)
      exact aD hi rfl rfl (gV _ s7)
     ·have s8 : A.tmps.getD 8 undef = .pointer (some ⟨r, 0, none⟩) := aB hdeps 3 (by kernel_rfl)
      exact aD hi rfl rfl (eY _ s8 (HC.out w1 hB))
     ·have s9 : A.tmps.getD 9 undef = .slice (some ⟨b, off, none⟩) N cap := aB hdeps 4 (by kernel_rfl)
      exact aD hi rfl rfl (y_len _ _ s9 Tryz.underlying25)
     ·have s5 : A.tmps.getD 5 undef = .int .i64 (k : Int) := aB hdeps 0 (by kernel_rfl)
      have s10 : A.tmps.getD 10 undef = .int .i64 (N : Int) := aB hdeps 5 (by kernel_rfl)
      exact aD hi rfl rfl (eE _ _ _ _ _ s5 s10 (hlt w1) (by kernel_rfl))
     ·have s11 : A.tmps.getD 11 undef = .bool true := aB hdeps 6 (by kernel_rfl)
      exact aD hi rfl rfl (aR _ s11)
     ·have g8 : A.tmps.getD 12 undef = .bool true := aB hdeps 7 (by kernel_rfl)
      have s0 : A.tmps.getD 0 undef = .pointer (some ⟨r, 0, none⟩) := hold 0 (by kernel_rfl)
      exact aD hi (aM rfl rfl g8) rfl (aR _ s0)
     ·have g9 : A.tmps.getD 12 undef = .bool true := aB hdeps 7 (by kernel_rfl)
      have s13 : A.tmps.getD 13 undef = .pointer (some ⟨r, 0, none⟩) := aB hdeps 8 (by kernel_rfl)
      exact aD hi (aM rfl rfl g9) rfl (dY _ s13)
     ·have g10 : A.tmps.getD 12 undef = .bool true := aB hdeps 7 (by kernel_rfl)
      have s14 : A.tmps.getD 14 undef = .pointer (some ⟨r, 0, none⟩) := aB hdeps 9 (by kernel_rfl)
      exact aD hi (aM rfl rfl g10) rfl (gV _ s14)
     ·have g11 : A.tmps.getD 12 undef = .bool true := aB hdeps 7 (by kernel_rfl)
      have s15 : A.tmps.getD 15 undef = .pointer (some ⟨r, 0, none⟩) := aB hdeps 10 (by kernel_rfl)
      exact aD hi (aM rfl rfl g11) rfl (eY _ s15 (HC.out w1 hB))
     ·have g12 : A.tmps.getD 12 undef = .bool true := aB hdeps 7 (by kernel_rfl)
      have s4 : A.tmps.getD 4 undef = .int .i64 (k : Int) := hold 4 (by kernel_rfl)
      exact aD hi (aM rfl rfl g12) rfl (aR _ s4)
     ·have g13 : A.tmps.getD 12 undef = .bool true := aB hdeps 7 (by kernel_rfl)
      have s16 : A.tmps.getD 16 undef = .slice (some ⟨b, off, none⟩) N cap := aB hdeps 11 (by kernel_rfl)
      have s17 : A.tmps.getD 17 undef = .int .i64 (k : Int) := aB hdeps 12 (by kernel_rfl)
      exact aD hi (aM rfl rfl g13) rfl (k9 _ _ s16 s17 hkN)
     ·have g14 : A.tmps.getD 12 undef = .bool true := aB hdeps 7 (by kernel_rfl)
      have s18 : A.tmps.getD 18 undef = .pointer (some ⟨b, off + k * 5, none⟩) := aB hdeps 13 (by kernel_rfl)
      exact aD hi (aM rfl rfl g14) rfl (yr_us0 _ s18)
     ·have g15 : A.tmps.getD 12 undef = .bool true := aB hdeps 7 (by kernel_rfl)
      have s19 : A.tmps.getD 19 undef = .pointer (some ⟨b, off + k * 5, none⟩) := aB hdeps 14 (by kernel_rfl)
      exact aD hi (aM rfl rfl g15) rfl (yr_st1 _ s19)
     ·have g16 : A.tmps.getD 12 undef = .bool true := aB hdeps 7 (by kernel_rfl)
      have s20 : A.tmps.getD 20 undef = .pointer (some ⟨b, off + k * 5 + 1, none⟩) := aB hdeps 15 (by kernel_rfl)
      exact aD hi (aM rfl rfl g16) rfl (gG (t := y.tx) _ s20 (HRX.out w1 hB))
     ·have g17 : A.tmps.getD 12 undef = .bool true := aB hdeps 7 (by kernel_rfl)
      have s3 : A.tmps.getD 3 undef = .pointer (some ⟨p3, 0, none⟩) := hold 3 (by kernel_rfl)
      exact aD hi (aM rfl rfl g17) rfl (yr_us0 _ s3)
     ·have g18 : A.tmps.getD 12 undef = .bool true := aB hdeps 7 (by kernel_rfl)
      have s22 : A.tmps.getD 22 undef = .pointer (some ⟨p3, 0, none⟩) := aB hdeps 17 (by kernel_rfl)
      exact aD hi (aM rfl rfl g18) rfl (yr_st1 _ s22)
     ·have g19 : A.tmps.getD 12 undef = .bool true := aB hdeps 7 (by kernel_rfl)
      have s23 : A.tmps.getD 23 undef = .pointer (some ⟨p3, 1, none⟩) := aB hdeps 18 (by kernel_rfl)
      exact aD hi (aM rfl rfl g19) rfl (gG (t := x.tx) _ s23 (HRP.out w1 hB))
     ·have g20 : A.tmps.getD 12 undef = .bool true := aB hdeps 7 (by kernel_rfl)
      have s21 : A.tmps.getD 21 undef = aV y.tx := aB hdeps 16 (by kernel_rfl)
      have s24 : A.tmps.getD 24 undef = aV x.tx := aB hdeps 19 (by kernel_rfl)
      exact cF hi (aM rfl rfl g20) rfl (cC 84 _ #[aV y.tx, aV x.tx] _ rfl (by simp only [List.map_toArray, List.map_cons, List.map_nil, show A.eval (.tmp 21) = aV y.tx from s21, show A.eval (.tmp 24) = aV x.tx from s24]; try rfl) en_txsR) (CT.out w1)
     ·have g21 : A.tmps.getD 12 undef = .bool true := aB hdeps 7 (by kernel_rfl)
      have s25 : A.tmps.getD 25 undef = .int .i64 Z := aB hdeps 20 (by kernel_rfl)
      exact aD hi (aM rfl rfl g21) rfl (eE _ _ _ _ _ s25 rfl (hltz w1) (by kernel_rfl))
     ·have s12 : A.tmps.getD 12 undef = .bool true := aB hdeps 7 (by kernel_rfl)
      have s26 : A.tmps.getD 26 undef = .bool true := aB hdeps 21 (by kernel_rfl)
      exact aD hi rfl rfl (dT _ _ _ s12 s26)
    ·intro w10 hB10
     simp only [cA, Act.put, List.setIfInBounds_toArray, List.set_cons_succ, List.set_cons_zero]
     go_wp2_with fail
     go_roundw
     case rel => exact ⟨k + 1, by omega, by first | rfl | go_num, HUP2, aA (HBr.out.trans (hB10.mono HBr.out.size))⟩
     case measure => simp [intOf]; omega
   ·have hltz := fH Z 0 false (decide_eq_false ez)
    have HIN := aA (HIX.out ez)
    clear HUX HIX ez
    go_wp2_with fail
    refine bD (by kernel_rfl) [(5, .int .i64 (k : Int)), (6, .pointer (some ⟨r, 0, none⟩)), (7, .pointer (some ⟨r, 0, none⟩)), (8, .pointer (some ⟨r, 0, none⟩)), (9, .slice (some ⟨b, off, none⟩) N cap), (10, .int .i64 (N : Int)), (11, .bool true), (12, .bool true), (13, .pointer (some ⟨r, 0, none⟩)), (14, .pointer (some ⟨r, 0, none⟩)), (15, .pointer (some ⟨r, 0, none⟩)), (16, .slice (some ⟨b, off, none⟩) N cap), (17, .int .i64 (k : Int)), (18, .pointer (some ⟨b, off + k * 5, none⟩)), (19, .pointer (some ⟨b, off + k * 5, none⟩)), (20, .pointer (some ⟨b, off + k * 5 + 1, none⟩)), (21, aV y.tx), (22, .pointer (some ⟨p3, 0, none⟩)), (23, .pointer (some ⟨p3, 1, none⟩)), (24, aV x.tx), (25, .int .i64 Z), (26, .bool false), (27, .bool false)] (by kernel_rfl) rfl ?_ ?_
    ·intro i o hi A w1 hB hold hdeps
     have hlt : i < 23 := (Array.getElem?_eq_some_iff.1 hi).1
     have hc : i = 0 ∨ i = 1 ∨ i = 2 ∨ i = 3 ∨ i = 4 ∨ i = 5 ∨ i = 6 ∨ i = 7 ∨ i = 8 ∨ i = 9 ∨ i = 10 ∨ i = 11 ∨ i = 12 ∨ i = 13 ∨ i = 14 ∨ i = 15 ∨ i = 16 ∨ i = 17 ∨ i = 18 ∨ i = 19 ∨ i = 20 ∨ i = 21 ∨ i = 22 := by omega
     clear hlt
     rcases hc with rfl|rfl|rfl|rfl|rfl|rfl|rfl|rfl|rfl|rfl|rfl|rfl|rfl|rfl|rfl|rfl|rfl|rfl|rfl|rfl|rfl|rfl|rfl <;> obtain rfl := Option.some.inj hi
     ·have s4 : A.tmps.getD 4 undef = .int .i64 (k : Int) := hold 4 (by kernel_rfl)
      exact aD hi rfl rfl (aR _ s4)
     ·have s0 : A.tmps.getD 0 undef = .pointer (some ⟨r, 0, none⟩) := hold 0 (by kernel_rfl)
      exact aD hi rfl rfl (aR _ s0)
     ·have s6 : A.tmps.getD 6 undef = .pointer (some ⟨r, 0, none⟩) := aB hdeps 1 (by kernel_rfl)
      exact aD hi rfl rfl (dY _ s6)
     ·have s7 : A.tmps.getD 7 undef = .pointer (some ⟨r, 0, none⟩) := aB hdeps 2 (by kernel_rfl)
      exact aD hi rfl rfl (gV _ s7)
     ·have s8 : A.tmps.getD 8 undef = .pointer (some ⟨r, 0, none⟩) := aB hdeps 3 (by kernel_rfl)
      exact aD hi rfl rfl (eY _ s8 (HC.out w1 hB))
     ·have s9 : A.tmps.getD 9 undef = .slice (some ⟨b, off, none⟩) N cap := aB hdeps 4 (by kernel_rfl)
      exact aD hi rfl rfl (y_len _ _ s9 Tryz.underlying25)
     ·have s5 : A.tmps.getD 5 undef = .int .i64 (k : Int) := aB hdeps 0 (by kernel_rfl)
      have s10 : A.tmps.getD 10 undef = .int .i64 (N : Int) := aB hdeps 5 (by kernel_rfl)
      exact aD hi rfl rfl (eE _ _ _ _ _ s5 s10 (hlt w1) (by kernel_rfl))
     ·have s11 : A.tmps.getD 11 undef = .bool true := aB hdeps 6 (by kernel_rfl)
      exact aD hi rfl rfl (aR _ s11)
     ·have g8 : A.tmps.getD 12 undef = .bool true := aB hdeps 7 (by kernel_rfl)
      have s0 : A.tmps.getD 0 undef = .pointer (some ⟨r, 0, none⟩) := hold 0 (by kernel_rfl)
      exact aD hi (aM rfl rfl g8) rfl (aR _ s0)
     ·have g9 : A.tmps.getD 12 undef = .bool true := aB hdeps 7 (by kernel_rfl)
      have s13 : A.tmps.getD 13 undef = .pointer (some ⟨r, 0, none⟩) := aB hdeps 8 (by kernel_rfl)
      exact aD hi (aM rfl rfl g9) rfl (dY _ s13)
     ·have g10 : A.tmps.getD 12 undef = .bool true := aB hdeps 7 (by kernel_rfl)
      have s14 : A.tmps.getD 14 undef = .pointer (some ⟨r, 0, none⟩) := aB hdeps 9 (by kernel_rfl)
      exact aD hi (aM rfl rfl g10) rfl (gV _ s14)
     ·have g11 : A.tmps.getD 12 undef = .bool true := aB hdeps 7 (by kernel_rfl)
      have s15 : A.tmps.getD 15 undef = .pointer (some ⟨r, 0, none⟩) := aB hdeps 10 (by kernel_rfl)
      exact aD hi (aM rfl rfl g11) rfl (eY _ s15 (HC.out w1 hB))
     ·have g12 : A.tmps.getD 12 undef = .bool true := aB hdeps 7 (by kernel_rfl)
      have s4 : A.tmps.getD 4 undef = .int .i64 (k : Int) := hold 4 (by kernel_rfl)
      exact aD hi (aM rfl rfl g12) rfl (aR _ s4)
     ·have g13 : A.tmps.getD 12 undef = .bool true := aB hdeps 7 (by kernel_rfl)
      have s16 : A.tmps.getD 16 undef = .slice (some ⟨b, off, none⟩) N cap := aB hdeps 11 (by kernel_rfl)
      have s17 : A.tmps.getD 17 undef = .int .i64 (k : Int) := aB hdeps 12 (by kernel_rfl)
      exact aD hi (aM rfl rfl g13) rfl (k9 _ _ s16 s17 hkN)
     ·have g14 : A.tmps.getD 12 undef = .bool true := aB hdeps 7 (by kernel_rfl)
      have s18 : A.tmps.getD 18 undef = .pointer (some ⟨b, off + k * 5, none⟩) := aB hdeps 13 (by kernel_rfl)
      exact aD hi (aM rfl rfl g14) rfl (yr_us0 _ s18)
     ·have g15 : A.tmps.getD 12 undef = .bool true := aB hdeps 7 (by kernel_rfl)
      have s19 : A.tmps.getD 19 undef = .pointer (some ⟨b, off + k * 5, none⟩) := aB hdeps 14 (by kernel_rfl)
      exact aD hi (aM rfl rfl g15) rfl (yr_st1 _ s19)
     ·have g16 : A.tmps.getD 12 undef = .bool true := aB hdeps 7 (by kernel_rfl)
      have s20 : A.tmps.getD 20 undef = .pointer (some ⟨b, off + k * 5 + 1, none⟩) := aB hdeps 15 (by kernel_rfl)
      exact aD hi (aM rfl rfl g16) rfl (gG (t := y.tx) _ s20 (HRX.out w1 hB))
     ·have g17 : A.tmps.getD 12 undef = .bool true := aB hdeps 7 (by kernel_rfl)
      have s3 : A.tmps.getD 3 undef = .pointer (some ⟨p3, 0, none⟩) := hold 3 (by kernel_rfl)
      exact aD hi (aM rfl rfl g17) rfl (yr_us0 _ s3)
     ·have g18 : A.tmps.getD 12 undef = .bool true := aB hdeps 7 (by kernel_rfl)
      have s22 : A.tmps.getD 22 undef = .pointer (some ⟨p3, 0, none⟩) := aB hdeps 17 (by kernel_rfl)
      exact aD hi (aM rfl rfl g18) rfl (yr_st1 _ s22)
     ·have g19 : A.tmps.getD 12 undef = .bool true := aB hdeps 7 (by kernel_rfl)
      have s23 : A.tmps.getD 23 undef = .pointer (some ⟨p3, 1, none⟩) := aB hdeps 18 (by kernel_rfl)
      exact aD hi (aM rfl rfl g19) rfl (gG (t := x.tx) _ s23 (HRP.out w1 hB))
     ·have g20 : A.tmps.getD 12 undef = .bool true := aB hdeps 7 (by kernel_rfl)
      have s21 : A.tmps.getD 21 undef = aV y.tx := aB hdeps 16 (by kernel_rfl)
      have s24 : A.tmps.getD 24 undef = aV x.tx := aB hdeps 19 (by kernel_rfl)
      exact cF hi (aM rfl rfl g20) rfl (cC 84 _ #[aV y.tx, aV x.tx] _ rfl (by simp only [List.map_toArray, List.map_cons, List.map_nil, show A.eval (.tmp 21) = aV y.tx from s21, show A.eval (.tmp 24) = aV x.tx from s24]; try rfl) en_txsR) (CT.out w1)
     ·have g21 : A.tmps.getD 12 undef = .bool true := aB hdeps 7 (by kernel_rfl)
      have s25 : A.tmps.getD 25 undef = .int .i64 Z := aB hdeps 20 (by kernel_rfl)
      exact aD hi (aM rfl rfl g21) rfl (eE _ _ _ _ _ s25 rfl (hltz w1) (by kernel_rfl))
     ·have s12 : A.tmps.getD 12 undef = .bool true := aB hdeps 7 (by kernel_rfl)
      have s26 : A.tmps.getD 26 undef = .bool false := aB hdeps 21 (by kernel_rfl)
      exact aD hi rfl rfl (dT _ _ _ s12 s26)
    ·intro w10 hB10
     simp only [cA, Act.put, List.setIfInBounds_toArray, List.set_cons_succ, List.set_cons_zero]
     replace HBr := aA (HBr.out.trans (hB10.mono HBr.out.size))
     clear hB10 HC HRX CT hlt hltz hvb HRP
     have hRx := HR.out.below HBr.out
     obtain ⟨ao, cap, hvb, hcap, hcm⟩ := hRx.sL.shape
     subst hvb
     have hnb : N = L.length := HL.out
     have hto := fun W => gD eJ W ao N cap k (by omega)
     have hfr := fun W => fK eJ W ao N cap k (by omega)
     obtain ⟨af, haf⟩ : ∃ af, af = if cap = k then ao else ao.map (·.add (k * 5)) := ⟨_, rfl⟩
     rw [← haf] at hfr
     have hs1 := fL hRx.sL eJ.len (i := k) (by omega)
     have hs2 := f7 hRx.sL eJ.len (i := k) (by omega)
     rw [← haf, ← hnb] at hs2
     obtain ⟨l2, hl2⟩ : ∃ l2, l2 = N - k := ⟨_, rfl⟩
     obtain ⟨cc2, hcc2⟩ : ∃ cc2, cc2 = cap - k := ⟨_, rfl⟩
     rw [← hl2, ← hcc2] at hfr hs2
     obtain ⟨a1, n1, c1, wA, a2, n2, c2, wB, a3, n3, c3, wC, q1, hq1, I1⟩ := kH eJ w10 _ _ _ _ x (urA x) rfl 83 hs1 hs2 ur_one (by simp; omega)
     obtain ⟨a1', n1', c1', wA', a2', n2', c2', wB', a3', n3', c3', wC', I2⟩ := kI eJ w10 _ _ _ _ x (urA x) rfl 83 hs1 hs2 ur_one (by simp; omega)
     subst hq1
     have e1 := I1.r1
     have e2 := I1.r2
     have e3 := I1.r3
     have f1 := I2.r1
     have f2 := I2.r2
     have f3 := I2.r3
     have b1 := I1.b1
     have b2 := I1.b2
     have b3 := I1.b3
     have d1 := I2.b1
     have d2 := I2.b2
     have d3 := I2.b3
     have hown := I1.own
     have hown' := I2.own
     have hN3 := I1.n
     have hN3' := I2.n
     rw [hN3] at hown
     rw [hN3'] at hown'
     have HF1 := aA ((dC.before HBr.out (hRx.put0 b3 hown)).before HB.out)
     have HF2 := aA ((dC.before HBr.out (hRx.put0 d3 hown')).before HB.out)
     rw [← hN3] at HF1
     rw [← hN3'] at HF2
     rw [if_pos rfl] at e2
     rw [if_neg (by decide)] at f2
     have HCE : Hid (∀ V, Below w10.heap.size w10 V → V.cell? ⟨r, 0, none⟩ = some (.slice ao N cap) ∧ V.frozen? ⟨r, 0, none⟩ = false ∧ r < V.heap.size ∧ V.cell? ⟨p3, 0, none⟩ = some (.int .u32 (x.tm : Int)) ∧ V.cell? ⟨p3, 1, none⟩ = some (.int .u8 (x.tx.1 : Int)) ∧ V.cell? ⟨p3, 2, none⟩ = some (.int .u32 (x.tx.2.1 : Int)) ∧ V.cell? ⟨p3, 3, none⟩ = some (.int .u32 (x.tx.2.2 : Int)) ∧ V.cell? ⟨p3, 4, none⟩ = some (.bool x.pr)) := aA (fun V hV => by
      have h1 := (hRx.below hV)
      have h2 := h1.c0
      rw [← hnb] at h2
      have h3 := (HXp3.out.belowI HBr.out).belowI hV
      exact ⟨h2, h1.box.frozen 0, h1.box.lt, h3.cell 0 _ rfl, h3.cell 1 _ rfl, h3.cell 2 _ rfl, h3.cell 3 _ rfl, h3.cell 4 _ rfl⟩)
     obtain ⟨x00, x01, x02, x03, x04, x05, x06, x07⟩ := HCE.out w10 (Below.refl _ _)
     obtain ⟨x10, x11, x12, x13, x14, x15, x16, x17⟩ := HCE.out wA b1
     obtain ⟨x20, x21, x22, x23, x24, x25, x26, x27⟩ := HCE.out wB b2
     obtain ⟨x30, x31, x32, x33, x34, x35, x36, x37⟩ := HCE.out wC b3
     obtain ⟨y10, y11, y12, y13, y14, y15, y16, y17⟩ := HCE.out wA' d1
     obtain ⟨y20, y21, y22, y23, y24, y25, y26, y27⟩ := HCE.out wB' d2
     obtain ⟨y30, y31, y32, y33, y34, y35, y36, y37⟩ := HCE.out wC' d3
     clear hnb I1 I2 hown hown' hN3 hN3' hRx hs1 hs2 hl2 hcc2 haf hcap hcm b1 b2 b3 d1 d2 d3
     go_wp2_with fail
     go_region
     all_goals go_wp2_with fail
     all_goals go_end0
     all_goals (refine ⟨rfl, ?_⟩; rw [HIN.out]; first | exact ⟨_, HF1.out⟩ | exact ⟨_, HF2.out⟩)
  ·have hkE : k = N := by omega
   have hlt := fH (k : Int) (N : Int) false (decide_eq_false (by omega))
   have hRr := HR.out.below HBr.out
   rw [hvb] at hRr
   have HC : Hid (∀ V, Below wr.heap.size wr V → V.cell? ⟨r, 0, none⟩ = some (.slice ao N cap)) := aA (fun V hV => by rw [HL.out]; exact (hRr.below hV).c0)
   have HIN : Hid (inU L x = L.take k ++ [x] ++ L.drop k) := aA (inU_at (by rw [← HL.out]; omega) HUP.out (fun h => by rw [← HL.out] at h; omega))
   clear hRr hcap0 hcm0
   go_wp2_with fail
   refine bD (by kernel_rfl) [(5, .int .i64 (k : Int)), (6, .pointer (some ⟨r, 0, none⟩)), (7, .pointer (some ⟨r, 0, none⟩)), (8, .pointer (some ⟨r, 0, none⟩)), (9, .slice ao N cap), (10, .int .i64 (N : Int)), (11, .bool false), (12, .bool false), (13, undef), (14, undef), (15, undef), (16, undef), (17, undef), (18, undef), (19, undef), (20, undef), (21, undef), (22, undef), (23, undef), (24, undef), (25, undef), (26, undef), (27, .bool false)] (by kernel_rfl) rfl ?_ ?_
   ·intro i o hi A w1 hB hold hdeps
    have hlt : i < 23 := (Array.getElem?_eq_some_iff.1 hi).1
    have hc : i = 0 ∨ i = 1 ∨ i = 2 ∨ i = 3 ∨ i = 4 ∨ i = 5 ∨ i = 6 ∨ i = 7 ∨ i = 8 ∨ i = 9 ∨ i = 10 ∨ i = 11 ∨ i = 12 ∨ i = 13 ∨ i = 14 ∨ i = 15 ∨ i = 16 ∨ i = 17 ∨ i = 18 ∨ i = 19 ∨ i = 20 ∨ i = 21 ∨ i = 22 := by omega
    clear hlt
    rcases hc with rfl|rfl|rfl|rfl|rfl|rfl|rfl|rfl|rfl|rfl|rfl|rfl|rfl|rfl|rfl|rfl|rfl|rfl|rfl|rfl|rfl|rfl|rfl <;> obtain rfl := Option.some.inj hi
    ·have s4 : A.tmps.getD 4 undef = .int .i64 (k : Int) := hold 4 (by kernel_rfl)
     exact aD hi rfl rfl (aR _ s4)
    ·have s0 : A.tmps.getD 0 undef = .pointer (some ⟨r, 0, none⟩) := hold 0 (by kernel_rfl)
     exact aD hi rfl rfl (aR _ s0)
    ·have s6 : A.tmps.getD 6 undef = .pointer (some ⟨r, 0, none⟩) := aB hdeps 1 (by kernel_rfl)
     exact aD hi rfl rfl (dY _ s6)
    ·have s7 : A.tmps.getD 7 undef = .pointer (some ⟨r, 0, none⟩) := aB hdeps 2 (by kernel_rfl)
     exact aD hi rfl rfl (gV _ s7)
    ·have s8 : A.tmps.getD 8 undef = .pointer (some ⟨r, 0, none⟩) := aB hdeps 3 (by kernel_rfl)
     exact aD hi rfl rfl (eY _ s8 (HC.out w1 hB))
    ·have s9 : A.tmps.getD 9 undef = .slice ao N cap := aB hdeps 4 (by kernel_rfl)
     exact aD hi rfl rfl (y_len _ _ s9 Tryz.underlying25)
    ·have s5 : A.tmps.getD 5 undef = .int .i64 (k : Int) := aB hdeps 0 (by kernel_rfl)
     have s10 : A.tmps.getD 10 undef = .int .i64 (N : Int) := aB hdeps 5 (by kernel_rfl)
     exact aD hi rfl rfl (eE _ _ _ _ _ s5 s10 (hlt w1) (by kernel_rfl))
    ·have s11 : A.tmps.getD 11 undef = .bool false := aB hdeps 6 (by kernel_rfl)
     exact aD hi rfl rfl (aR _ s11)
    ·have g8 : A.tmps.getD 12 undef = .bool false := aB hdeps 7 (by kernel_rfl)
     exact aI hi rfl rfl (fun e => absurd (g8.symm.trans e) (by simp)) rfl
    ·have g9 : A.tmps.getD 12 undef = .bool false := aB hdeps 7 (by kernel_rfl)
     exact aI hi rfl rfl (fun e => absurd (g9.symm.trans e) (by simp)) rfl
    ·have g10 : A.tmps.getD 12 undef = .bool false := aB hdeps 7 (by kernel_rfl)
     exact aI hi rfl rfl (fun e => absurd (g10.symm.trans e) (by simp)) rfl
    ·have g11 : A.tmps.getD 12 undef = .bool false := aB hdeps 7 (by kernel_rfl)
     exact aI hi rfl rfl (fun e => absurd (g11.symm.trans e) (by simp)) rfl
    ·have g12 : A.tmps.getD 12 undef = .bool false := aB hdeps 7 (by kernel_rfl)
     exact aI hi rfl rfl (fun e => absurd (g12.symm.trans e) (by simp)) rfl
    ·have g13 : A.tmps.getD 12 undef = .bool false := aB hdeps 7 (by kernel_rfl)
     exact aI hi rfl rfl (fun e => absurd (g13.symm.trans e) (by simp)) rfl
    ·have g14 : A.tmps.getD 12 undef = .bool false := aB hdeps 7 (by kernel_rfl)
     exact aI hi rfl rfl (fun e => absurd (g14.symm.trans e) (by simp)) rfl
    ·have g15 : A.tmps.getD 12 undef = .bool false := aB hdeps 7 (by kernel_rfl)
     exact aI hi rfl rfl (fun e => absurd (g15.symm.trans e) (by simp)) rfl
    ·have g16 : A.tmps.getD 12 undef = .bool false := aB hdeps 7 (by kernel_rfl)
     exact aI hi rfl rfl (fun e => absurd (g16.symm.trans e) (by simp)) rfl
    ·have g17 : A.tmps.getD 12 undef = .bool false := aB hdeps 7 (by kernel_rfl)
     exact aI hi rfl rfl (fun e => absurd (g17.symm.trans e) (by simp)) rfl
    ·have g18 : A.tmps.getD 12 undef = .bool false := aB hdeps 7 (by kernel_rfl)
     exact aI hi rfl rfl (fun e => absurd (g18.symm.trans e) (by simp)) rfl
    ·have g19 : A.tmps.getD 12 undef = .bool false := aB hdeps 7 (by kernel_rfl)
     exact aI hi rfl rfl (fun e => absurd (g19.symm.trans e) (by simp)) rfl
    ·have g20 : A.tmps.getD 12 undef = .bool false := aB hdeps 7 (by kernel_rfl)
     exact aI hi rfl rfl (fun e => absurd (g20.symm.trans e) (by simp)) rfl
    ·have g21 : A.tmps.getD 12 undef = .bool false := aB hdeps 7 (by kernel_rfl)
     exact aI hi rfl rfl (fun e => absurd (g21.symm.trans e) (by simp)) rfl
    ·have s12 : A.tmps.getD 12 undef = .bool false := aB hdeps 7 (by kernel_rfl)
     exact aD hi rfl rfl (dB _ _ _ s12 rfl)
   ·intro w10 hB10
    simp only [cA, Act.put, List.setIfInBounds_toArray, List.set_cons_succ, List.set_cons_zero]
    replace HBr := aA (HBr.out.trans (hB10.mono HBr.out.size))
    clear hB10 HC hlt hvb HRP
    have hRx := HR.out.below HBr.out
    obtain ⟨ao, cap, hvb, hcap, hcm⟩ := hRx.sL.shape
    subst hvb
    have hnb : N = L.length := HL.out
    have hto := fun W => gD eJ W ao N cap k (by omega)
    have hfr := fun W => fK eJ W ao N cap k (by omega)
    obtain ⟨af, haf⟩ : ∃ af, af = if cap = k then ao else ao.map (·.add (k * 5)) := ⟨_, rfl⟩
    rw [← haf] at hfr
    have hs1 := fL hRx.sL eJ.len (i := k) (by omega)
    have hs2 := f7 hRx.sL eJ.len (i := k) (by omega)
    rw [← haf, ← hnb] at hs2
    obtain ⟨l2, hl2⟩ : ∃ l2, l2 = N - k := ⟨_, rfl⟩
    obtain ⟨cc2, hcc2⟩ : ∃ cc2, cc2 = cap - k := ⟨_, rfl⟩
    rw [← hl2, ← hcc2] at hfr hs2
    obtain ⟨a1, n1, c1, wA, a2, n2, c2, wB, a3, n3, c3, wC, q1, hq1, I1⟩ := kH eJ w10 _ _ _ _ x (urA x) rfl 83 hs1 hs2 ur_one (by simp; omega)
    obtain ⟨a1', n1', c1', wA', a2', n2', c2', wB', a3', n3', c3', wC', I2⟩ := kI eJ w10 _ _ _ _ x (urA x) rfl 83 hs1 hs2 ur_one (by simp; omega)
    subst hq1
    have e1 := I1.r1
    have e2 := I1.r2
    have e3 := I1.r3
    have f1 := I2.r1
    have f2 := I2.r2
    have f3 := I2.r3
    have b1 := I1.b1
    have b2 := I1.b2
    have b3 := I1.b3
    have d1 := I2.b1
    have d2 := I2.b2
    have d3 := I2.b3
    have hown := I1.own
    have hown' := I2.own
    have hN3 := I1.n
    have hN3' := I2.n
    rw [hN3] at hown
    rw [hN3'] at hown'
    have HF1 := aA ((dC.before HBr.out (hRx.put0 b3 hown)).before HB.out)
    have HF2 := aA ((dC.before HBr.out (hRx.put0 d3 hown')).before HB.out)
    rw [← hN3] at HF1
    rw [← hN3'] at HF2
    rw [if_pos rfl] at e2
    rw [if_neg (by decide)] at f2
    have HCE : Hid (∀ V, Below w10.heap.size w10 V → V.cell? ⟨r, 0, none⟩ = some (.slice ao N cap) ∧ V.frozen? ⟨r, 0, none⟩ = false ∧ r < V.heap.size ∧ V.cell? ⟨p3, 0, none⟩ = some (.int .u32 (x.tm : Int)) ∧ V.cell? ⟨p3, 1, none⟩ = some (.int .u8 (x.tx.1 : Int)) ∧ V.cell? ⟨p3, 2, none⟩ = some (.int .u32 (x.tx.2.1 : Int)) ∧ V.cell? ⟨p3, 3, none⟩ = some (.int .u32 (x.tx.2.2 : Int)) ∧ V.cell? ⟨p3, 4, none⟩ = some (.bool x.pr)) := aA (fun V hV => by
     have h1 := (hRx.below hV)
     have h2 := h1.c0
     rw [← hnb] at h2
     have h3 := (HXp3.out.belowI HBr.out).belowI hV
     exact ⟨h2, h1.box.frozen 0, h1.box.lt, h3.cell 0 _ rfl, h3.cell 1 _ rfl, h3.cell 2 _ rfl, h3.cell 3 _ rfl, h3.cell 4 _ rfl⟩)
    obtain ⟨x00, x01, x02, x03, x04, x05, x06, x07⟩ := HCE.out w10 (Below.refl _ _)
    obtain ⟨x10, x11, x12, x13, x14, x15, x16, x17⟩ := HCE.out wA b1
    obtain ⟨x20, x21, x22, x23, x24, x25, x26, x27⟩ := HCE.out wB b2
    obtain ⟨x30, x31, x32, x33, x34, x35, x36, x37⟩ := HCE.out wC b3
    obtain ⟨y10, y11, y12, y13, y14, y15, y16, y17⟩ := HCE.out wA' d1
    obtain ⟨y20, y21, y22, y23, y24, y25, y26, y27⟩ := HCE.out wB' d2
    obtain ⟨y30, y31, y32, y33, y34, y35, y36, y37⟩ := HCE.out wC' d3
    clear hkE hnb I1 I2 hown hown' hN3 hN3' hRx hs1 hs2 hl2 hcc2 haf hcap hcm b1 b2 b3 d1 d2 d3
    go_wp2_with fail
    go_region
    all_goals go_wp2_with fail
    all_goals go_end0
    all_goals (refine ⟨rfl, ?_⟩; rw [HIN.out]; first | exact ⟨_, HF1.out⟩ | exact ⟨_, HF2.out⟩)
end
section
open Go.RowKit Go.Maps Classical
def jU (H : List (cD KeyT)) (g : cD KeyT) : List (cD KeyT) := (H.filter fun x => !(decide (x.tx = g.tx) && decide (x.key = g.key))) ++ [g]
theorem hold_iff {g x : cD KeyT} : (!(decide (x.tx = g.tx) && decide (x.key = g.key))) = true ↔ ¬ (x.tx = g.tx ∧ x.key = g.key) := by
 by_cases h1 : x.tx = g.tx <;> by_cases h2 : x.key = g.key <;> simp [h1, h2]
theorem holdL_mem {H : List (cD KeyT)} {g x : cD KeyT} : x ∈ jU H g ↔ (x ∈ H ∧ ¬ (x.tx = g.tx ∧ x.key = g.key)) ∨ x = g := by
 unfold jU
 rw [List.mem_append, List.mem_filter, List.mem_singleton, hold_iff]
theorem holdL_pair {H : List (cD KeyT)} {g : cD KeyT} (h : H.Pairwise fun a b => ¬ (a.tx = b.tx ∧ a.key = b.key)) : (jU H g).Pairwise fun a b => ¬ (a.tx = b.tx ∧ a.key = b.key) := by
 unfold jU
 refine List.pairwise_append.2 ⟨h.filter _, List.pairwise_singleton _ _, fun a ha b hb => ?_⟩
 rw [List.mem_singleton] at hb
 subst hb
 exact hold_iff.1 (List.mem_filter.1 ha).2
theorem holdL_len (H : List (cD KeyT)) (g : cD KeyT) : (jU H g).length ≤ H.length + 1 := by
 unfold jU
 rw [List.length_append, List.length_singleton]
 have := List.length_filter_le (fun x : cD KeyT => !(decide (x.tx = g.tx) && decide (x.key = g.key))) H
 omega
set_option maxHeartbeats 6400000 in
theorem rhold_any15 (r : Nat) (vL vH vW : Value) (L : List UsR) (H W : List (cD KeyT)) (g : cD KeyT) (w : World) (h : iU w r vL vH vW L H W) (hfew : H.length ≤ 10000) :
  Calls Tryz.prog 57 #[.pointer (some ⟨r, 0, none⟩), .agg (bW g)] w fun e w' => e = .returned (.tuple #[]) ∧ ∃ vH', dC w w' r vL vH vW vL vH' vW L (jU H g) W := by
 have hA0 := aE w (.cells (bW g) 62)
 have hB0 := hA0
 have HXp3 : Hid (bZ (w.alloc (.cells (bW g) 62)) (w.heap.size) (bW g) 62) := aA (by have := aN w (bW g) 62; simpa using this)
 obtain ⟨W1, hw1⟩ : ∃ W1, W1 = (w.alloc (.cells (bW g) 62)) := ⟨_, rfl⟩
 obtain ⟨p3, hp3⟩ : ∃ p3, p3 = w.heap.size := ⟨_, rfl⟩
 rw [← hw1] at HXp3 hB0
 rw [← hp3] at HXp3
 have HW1 := aA hw1
 have HEp3 := aA hp3
 have HB := aA hB0
 have HNp3 : Hid (w.heap.size ≤ p3 ∧ p3 < W1.heap.size) := aA ⟨by omega, HXp3.out.lt⟩
 clear hw1 hA0 hB0 hp3
 have HR := aA (h.below HB.out)
 obtain ⟨ao, cap, hvb, hcap, hcm⟩ := HR.out.sH.shape
 subst hvb
 obtain ⟨N, hN⟩ : ∃ N, N = H.length := ⟨_, rfl⟩
 have HL := aA hN
 have HS : Hid (bI gtE W1 (.slice ao N cap) H) := aA (by rw [hN]; exact HR.out.sH)
 have HC : Hid (∀ V, Below W1.heap.size W1 V → V.cell? ⟨r, 1, none⟩ = some (.slice ao N cap)) := aA (fun V hV => by rw [hN]; exact (HR.out.below hV).c1)
 rw [← hN] at hfew
 obtain ⟨P, hP⟩ : ∃ P : cD KeyT → Bool, P = fun x => !(decide (x.tx = g.tx) && decide (x.key = g.key)) := ⟨_, rfl⟩
 have HP : Hid (∀ x, P x = !(decide (x.tx = g.tx) && decide (x.key = g.key))) := aA (fun x => by rw [hP])
 have HPL : Hid (jU H g = H.filter P ++ [g]) := aA (by rw [hP]; rfl)
 clear h hN hcap hcm hP
 go_enter Tryz.func57, Tryz.ntmps57
 go_wp2_with fail
 rw [← HW1.out, ← HEp3.out]
 go_loopg [4, 5] N (fun gf x i wr => ∃ (k n : Nat) (ys : List (cD KeyT)) (ax : Option Addr) (cx : Nat), k + gf = N ∧ x = .slice ax n cx ∧ i = .int .i64 k ∧ Hid (ys = (H.take k).filter P) ∧ Hid (n = ys.length) ∧ n ≤ k ∧ Hid (wr.ownsRow W1.heap.size 62 12 (.slice ax n cx) n (bR gtE ys)) ∧ Hid (Below W1.heap.size W1 wr))
 case atStart => exact ⟨0, 0, [], none, 0, by omega, rfl, rfl, aA (by simp), aA rfl, Nat.zero_le _, aA (World.ownsRow_nil _ _ _ _), aA (Below.refl _ _)⟩
 case round =>
  obtain ⟨k, n, ys, ax, cx, hk, rfl, rfl, HY, HN, hnk, HO, HB2⟩ := hrel
  have m1 := HC.out wr HB2.out
  cases gk with
  | zero =>
   obtain rfl : k = N := by omega
   have hz : ¬ ((k : Int) < (k : Int)) := by omega
   have HE : Hid (jU H g = ys ++ [g]) := aA (by rw [HPL.out, HY.out, HL.out, List.take_length])
   have hRx := HR.out.below HB2.out
   have HX3 := aA (HXp3.out.belowI HB2.out)
   have HAL := aA (aE wr (.cells (gtE g).toArray 62))
   have HWS := aA HB2.out.size
   have HOW := aA (aJ HO.out (aC.of_below (fun _ => False) HAL.out) (fun _ _ h => h))
   have hgl := kY g
   have HT := aA (HR.out)
   clear hRx
   go_wp2_with (first
    | (refine aO rfl _ (t := 62) rfl (p3) (0) rfl (gtE g) (bE HX3.out) Tryz.underlying62 rfl bS ?_)
    | (at_builtin; rw [jJ]; refine dS dJ _ rfl _ _ rfl W1.heap.size (.slice ax n cx) _ ys [g] rfl (by rw [← HN.out]; exact HOW.out) rfl (dK (enc := gtE) wr g _ (by simp) 62) (fun z hz => by simp at hz; subst hz; exact gS _) (by rw [← HN.out]; simp; omega) (Nat.le_trans HWS.out HAL.out.size) ?_; intro v4 w4 ho4 hg4 _; obtain ⟨a4, c4, hv4, _⟩ := aQ ho4; have HO4 := aA ho4; have HB4 : Hid (Below W1.heap.size W1 w4) := aA ((HB2.out.trans (HAL.out.mono HB2.out.size)).grown hg4 (Nat.le_trans HWS.out HAL.out.size) (fun j hj => (HOW.out.lt j hj).1)); have hT4 := HT.out.below HB4.out; have y1 := hT4.c1; have yf := hT4.box.frozen 1; have yl := hT4.box.lt; rw [List.length_append, ← HN.out] at hv4; subst hv4; clear ho4 hg4 hT4))
   have HFIN := aA ((HT.out.put1 HB4.out HO4.out).before HB.out)
   rw [← HE.out] at HFIN
   go_end0
   exact ⟨rfl, _, by have h := HFIN.out; rw [HL.out] at *; exact h⟩
  | succ gf =>
   have hkI : (k : Int) < (N : Int) := by omega
   have hkn : k < H.length := by rw [← HL.out]; omega
   have HBq := aA (fun m => HB2.out.trans ((aU wr m).mono HB2.out.size))
   obtain ⟨en, b, off, hao, hbl, hc⟩ := (HS.out.below HB2.out).at dJ.len hkn
   cases hao
   have r0 := hc 0 _ rfl
   have r1 := hc 1 _ rfl
   have r2 := hc 2 _ rfl
   have r3 := hc 3 _ rfl
   have r4 := hc 4 _ rfl
   have r5 := hc 5 _ rfl
   have r6 := hc 6 _ rfl
   have r7 := hc 7 _ rfl
   have r8 := hc 8 _ rfl
   have r9 := hc 9 _ rfl
   have r10 := hc 10 _ rfl
   rw [Nat.add_zero] at r0
   have hq := fun V => neq_txR H[k].tx g.tx V
   have hq2 := fun V => neq_keyR H[k].key g.key V
   have HRg : Hid (∀ m, (wr.drewN m).rangeAt b (off + k * 12) (gtE H[k])) := aA (fun m j v hv => ((aU wr m).cell (p := ⟨b, off + k * 12 + j, none⟩) hbl).trans (hc j v hv))
   have HX3 := HXp3.out.belowI HB2.out
   have x0 := HX3.cell 0 _ rfl
   have x1 := HX3.cell 1 _ rfl
   have x2 := HX3.cell 2 _ rfl
   have x3 := HX3.cell 3 _ rfl
   have x4 := HX3.cell 4 _ rfl
   have x5 := HX3.cell 5 _ rfl
   have x6 := HX3.cell 6 _ rfl
   have x7 := HX3.cell 7 _ rfl
   have x8 := HX3.cell 8 _ rfl
   have x9 := HX3.cell 9 _ rfl
   have x10 := HX3.cell 10 _ rfl
   have HFT := aA (filter_take P H hkn)
   have HPK := aA (HP.out H[k])
   have HCq := aA (fun m => HC.out _ (HBq.out m))
   generalize H[k] = x at *
   clear hc en hbl HX3
   by_cases e : x.tx = g.tx
   ·by_cases e2 : x.key = g.key
    ·have HY2 : Hid (ys = (H.take (k + 1)).filter P) := aA (by rw [HFT.out, HPK.out, HY.out]; simp [e, e2])
     have hd : (!decide (x.tx = g.tx)) = false := by simp [e]
     have hd2 : (!decide (x.key = g.key)) = false := by simp [e2]
     rw [hd] at hq
     rw [hd2] at hq2
     clear e e2 hd hd2
     go_wp2_with fail
     go_quiet (fail)
     go_wp2_with fail
     go_roundg gf
     case measure => omega
     case rel => exact ⟨k + 1, n, ys, ax, cx, by omega, rfl, by first | rfl | go_num, HY2, HN, by omega, aA (aJ HO.out (aC.of_below (fun _ => False) (aU wr _)) (fun _ _ h => h)), aA (HBq.out _)⟩
    ·have HY2 : Hid (ys ++ [x] = (H.take (k + 1)).filter P) := aA (by rw [HFT.out, HPK.out, HY.out]; simp [e, e2])
     have hd : (!decide (x.tx = g.tx)) = false := by simp [e]
     have hd2 : (!decide (x.key = g.key)) = true := by simp [e2]
     rw [hd] at hq
     rw [hd2] at hq2
     clear e e2 hd hd2
     go_wp2_with fail
     go_quiet (fail)
     have HRq := aA (HRg.out nq)
     replace HO := aA (aJ HO.out (aC.of_below (fun _ => False) (aU wr nq)) (fun _ _ h => h))
     replace HBq := aA (HBq.out nq)
     have m2 := HCq.out nq
     clear HRg r0 r1 r2 r3 r4 r5 r6 r7 r8 r9 r10 x0 x1 x2 x3 x4 x5 x6 x7 x8 x9 x10 m1 HCq
     generalize wr.drewN nq = wq at *
     have HAL := aA (aE wq (.cells (gtE x).toArray 62))
     have HWS := aA HBq.out.size
     have hgl := kY x
     have HOW := aA (aJ HO.out (aC.of_below (fun _ => False) HAL.out) (fun _ _ h => h))
     go_wp2_with (first
      | (refine wpList_load_mid rfl 62 _ rfl b (off + k * 12) rfl (gtE x) _ HRq.out Tryz.underlying62 rfl bS ?_)
      | (at_builtin; rw [jJ]; refine dS dJ _ rfl _ _ rfl W1.heap.size (.slice ax n cx) _ ys [x] rfl (by rw [← HN.out]; exact HOW.out) rfl (dK (enc := gtE) wq x _ (by simp) 62) (fun z hz => by simp at hz; subst hz; exact gS _) (by rw [← HN.out]; simp; omega) (Nat.le_trans HWS.out HAL.out.size) ?_; intro v4 w4 ho4 hg4 _; rw [List.length_append, ← HN.out, List.length_singleton] at ho4; obtain ⟨a4, c4, hv4, _⟩ := aQ ho4; subst hv4; have HO4 := aA ho4; have HB4 : Hid (Below W1.heap.size W1 w4) := aA ((HBq.out.trans (HAL.out.mono HBq.out.size)).grown hg4 (Nat.le_trans HWS.out HAL.out.size) (fun j hj => (HOW.out.lt j hj).1)); clear ho4 hg4))
     go_roundg gf
     case measure => omega
     case rel => exact ⟨k + 1, n + 1, ys ++ [x], a4, c4, by omega, rfl, by first | rfl | go_num, HY2, aA (by rw [List.length_append, ← HN.out]; rfl), by omega, HO4, HB4⟩
   ·have HY2 : Hid (ys ++ [x] = (H.take (k + 1)).filter P) := aA (by rw [HFT.out, HPK.out, HY.out]; simp [e])
    have hd : (!decide (x.tx = g.tx)) = true := by simp [e]
    rw [hd] at hq
    clear e hd
    go_wp2_with fail
    go_quiet (fail)
    have HRq := aA (HRg.out nq)
    replace HO := aA (aJ HO.out (aC.of_below (fun _ => False) (aU wr nq)) (fun _ _ h => h))
    replace HBq := aA (HBq.out nq)
    have m2 := HCq.out nq
    clear HRg r0 r1 r2 r3 r4 r5 r6 r7 r8 r9 r10 x0 x1 x2 x3 x4 x5 x6 x7 x8 x9 x10 m1 HCq
    generalize wr.drewN nq = wq at *
    have HAL := aA (aE wq (.cells (gtE x).toArray 62))
    have HWS := aA HBq.out.size
    have hgl := kY x
    have HOW := aA (aJ HO.out (aC.of_below (fun _ => False) HAL.out) (fun _ _ h => h))
    go_wp2_with (first
     | (refine wpList_load_mid rfl 62 _ rfl b (off + k * 12) rfl (gtE x) _ HRq.out Tryz.underlying62 rfl bS ?_)
     | (at_builtin; rw [jJ]; refine dS dJ _ rfl _ _ rfl W1.heap.size (.slice ax n cx) _ ys [x] rfl (by rw [← HN.out]; exact HOW.out) rfl (dK (enc := gtE) wq x _ (by simp) 62) (fun z hz => by simp at hz; subst hz; exact gS _) (by rw [← HN.out]; simp; omega) (Nat.le_trans HWS.out HAL.out.size) ?_; intro v4 w4 ho4 hg4 _; rw [List.length_append, ← HN.out, List.length_singleton] at ho4; obtain ⟨a4, c4, hv4, _⟩ := aQ ho4; subst hv4; have HO4 := aA ho4; have HB4 : Hid (Below W1.heap.size W1 w4) := aA ((HBq.out.trans (HAL.out.mono HBq.out.size)).grown hg4 (Nat.le_trans HWS.out HAL.out.size) (fun j hj => (HOW.out.lt j hj).1)); clear ho4 hg4))
    go_roundg gf
    case measure => omega
    case rel => exact ⟨k + 1, n + 1, ys ++ [x], a4, c4, by omega, rfl, by first | rfl | go_num, HY2, aA (by rw [List.length_append, ← HN.out]; rfl), by omega, HO4, HB4⟩
end
end Go.Proofs.YtiloagmkkhlfjaaGreat
