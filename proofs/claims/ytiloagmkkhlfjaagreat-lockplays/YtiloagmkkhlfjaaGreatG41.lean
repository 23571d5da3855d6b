/-
  Own texts put together: LrWnd. Own work.
-/
import Derived.Test.YtiloagmkkhlfjaaGreatG40
namespace Go.Proofs.YtiloagmkkhlfjaaGreat
section
open Go.RowKit Go.Maps Classical
structure WndQ (l : List (aS KeyT)) (g x : cD KeyT) : Prop where
 k : x.key = g.key
 t : togB x g = false
 p : (aT l x.tx).pr = false
 o : Old (aT l g.tx) (aT l x.tx)
theorem wnd_names {l : List (aS KeyT)} {L : List UsR} {H W : List (cD KeyT)} (hr : eF l L H W) (hb : dD l) {g : cD KeyT} (hg : g ∈ W) (x : TxN) : (∃ j, ∃ hj : j < H.length, j < H.length ∧ WndQ l g H[j] ∧ H[j].tx = x) ↔ x ∈ dX l g.tx g.key := by
 obtain ⟨g1, g2, g3, g4⟩ := hr.w.got hb hg
 rw [jA]
 constructor
 ·rintro ⟨j, hj, _, hq, rfl⟩
  obtain ⟨h1, h2, h3, h4⟩ := hr.h.got hb (List.getElem_mem hj)
  have ht := (iY (hr.hm hb (List.getElem_mem hj)) (hr.wm hb hg)).1 hq.t
  refine ⟨_, h1, ⟨hq.p, hq.o, ?_⟩, h2⟩
  rw [g3, ← hq.k, h3]
  exact ht.2
 ·rintro ⟨y, hy, ⟨hp, ho, ha⟩, rfl⟩
  obtain ⟨j, hj, e⟩ := List.getElem_of_mem ((hr.h.m y.tx g.key (y.h g.key)).2 ⟨ha.2.1, y, hy, rfl, rfl⟩)
  refine ⟨j, hj, hj, ⟨by rw [e], ?_, by rw [e]; show (aT l y.tx).pr = false; rw [bH hb hy]; exact hp, by rw [e]; show Old _ (aT l y.tx); rw [bH hb hy]; exact ho⟩, by rw [e]⟩
  rw [e, iY ⟨ha.2.1, (hb.oks y hy).2.2.1 _⟩ (hr.wm hb hg)]
  refine ⟨fun e2 => ?_, by rw [← g3]; exact ha⟩
  have e2 : y.tx = g.tx := e2
  have h3 := bH hb hy
  rw [e2] at h3
  rw [h3] at ho
  exact ho.asymm ho
attribute [local go_sem ↓] iW
set_option maxRecDepth 100000 in
set_option maxHeartbeats 12800000 in
theorem rwnd_any15 (r : Nat) (vL vH vW : Value) (L : List UsR) (l : List (aS KeyT)) (H W : List (cD KeyT)) (g : cD KeyT) (w : World) (h : iU w r vL vH vW L H W) (hr : eF l L H W) (hb : dD l) (hg : g ∈ W) (hfew : H.length ≤ 10000) :
  Calls Tryz.prog 60 #[.pointer (some ⟨r, 0, none⟩), .agg (bW g)] w fun e w' => ∃ v, e = .returned v ∧ w'.ownsRow w.heap.size 34 3 v (dX l g.tx g.key).length (bR txE3 (dX l g.tx g.key)) ∧ Below w.heap.size w w' := by
 obtain rfl := hr.us
 have hA0 := aE w (.cells (bW g) 62)
 have hB0 := hA0
 have HXp3 : Hid (bZ (w.alloc (.cells (bW g) 62)) (w.heap.size) (bW g) 62) := aA (by have := aN w (bW g) 62; simpa using this)
 obtain ⟨W1, hw1⟩ : ∃ W1, W1 = (w.alloc (.cells (bW g) 62)) := ⟨_, rfl⟩
 obtain ⟨p3, hp3⟩ : ∃ p3, p3 = w.heap.size := ⟨_, rfl⟩
 rw [← hw1] at HXp3 hB0
 rw [← hp3] at HXp3
 have HW1 := aA hw1
 have HEp3 := aA hp3
 have HB := aA hB0
 have HNp3 : Hid (w.heap.size ≤ p3 ∧ p3 < W1.heap.size) := aA ⟨by omega, HXp3.out.lt⟩
 clear hw1 hA0 hB0 hp3
 have HR := aA (h.below HB.out)
 obtain ⟨aH, cap, hvH, _, _⟩ := HR.out.sH.shape
 subst hvH
 obtain ⟨aL, cL, hvL, _, _⟩ := HR.out.sL.shape
 subst hvL
 obtain ⟨N, hN⟩ : ∃ N, N = H.length := ⟨_, rfl⟩
 obtain ⟨nL, hnL⟩ : ∃ nL, nL = (l.map usR).length := ⟨_, rfl⟩
 have HL := aA hN
 have HC1 : Hid (∀ V, Below W1.heap.size W1 V → V.cell? ⟨r, 1, none⟩ = some (.slice aH N cap)) := aA (fun V hV => by rw [hN]; exact (HR.out.below hV).c1)
 have HC0 : Hid (∀ V, Below W1.heap.size W1 V → V.cell? ⟨r, 0, none⟩ = some (.slice aL nL cL)) := aA (fun V hV => by rw [hnL]; exact (HR.out.below hV).c0)
 have HSH : Hid (bI gtE W1 (.slice aH N cap) H) := aA (by rw [hN]; exact HR.out.sH)
 have HSL : Hid (bI urE W1 (.slice aL nL cL) (l.map usR)) := aA (by rw [hnL]; exact HR.out.sL)
 have HNL := aA hnL
 have HRP := aA hr
 have HLB := aA hb
 have HGW := aA hg
 rw [← hN] at hfew
 have HQU : Hid (∀ ts : List TxN, ts.Pairwise (dI l) → (∀ t, t ∈ ts ↔ ∃ j, ∃ hj : j < H.length, j < N ∧ WndQ l g H[j] ∧ H[j].tx = t) → ts = dX l g.tx g.key) := aA (fun ts h1 h2 => iQ h1 (iP hb _) (fun t => by
  rw [h2, ← wnd_names hr hb hg, hN]))
 clear h hr hb hg hN hnL
 go_enter Tryz.func60, Tryz.ntmps60
 go_wp2_with fail
 rw [← HW1.out, ← HEp3.out]
 go_loopg [5, 6] N (fun gf o i wr => ∃ (k n : Nat) (ts : List TxN) (ax : Option Addr) (cx : Nat), k + gf = N ∧ o = .slice ax n cx ∧ i = .int .i64 (k : Int) ∧ Hid (n = ts.length) ∧ Hid (n ≤ k) ∧ Hid (ts.Pairwise (dI l)) ∧ Hid (∀ t, t ∈ ts ↔ ∃ j, ∃ hj : j < H.length, j < k ∧ WndQ l g H[j] ∧ H[j].tx = t) ∧ Hid (wr.ownsRow W1.heap.size 34 3 (.slice ax n cx) n (bR txE3 ts)) ∧ Hid (Below W1.heap.size W1 wr))
 case atStart => exact ⟨0, 0, [], none, 0, by omega, rfl, rfl, aA rfl, aA (Nat.le_refl _), aA List.Pairwise.nil, aA (fun t => ⟨fun h => (by cases h), fun ⟨j, _, h, _⟩ => (by omega)⟩), aA (World.ownsRow_nil _ _ _ _), aA (Below.refl _ _)⟩
 case round =>
  obtain ⟨k, n, ts, ax, cx, hk, rfl, rfl, HN, HNB, HTP, HTM, HO, HBr⟩ := hrel
  have m1 := HC1.out wr HBr.out
  cases gk with
  | zero =>
   obtain rfl : k = N := by omega
   have hz : ¬ ((k : Int) < (k : Int)) := by omega
   have HE := aA (HQU.out ts HTP.out HTM.out)
   go_wp2_with fail
   go_ret
   refine ⟨_, rfl, ?_, HB.out.trans (HBr.out.mono HB.out.size)⟩
   rw [← HE.out, ← HN.out]
   exact bQ HO.out HB.out.size
  | succ gf =>
   have hkN : k < N := by omega
   have hkI : (k : Int) < (N : Int) := by omega
   have hkn : k < H.length := by rw [← HL.out]; exact hkN
   obtain ⟨en, b, off, hao, hbl, hc⟩ := (HSH.out.below HBr.out).at dJ.len hkn
   cases hao
   have HRX : Hid (wr.rangeAt b (off + k * 12) (gtE H[k])) := aA (fun j v hv => hc j v hv)
   have hqk := fun V => neq_keyR H[k].key g.key V
   have hgx := HRP.out.h.got HLB.out (List.getElem_mem hkn)
   have hgg := HRP.out.w.got HLB.out HGW.out
   have HXN : Hid (H[k].key = g.key → H[k].tx ∉ ts) := aA (fun ek hin => by
    obtain ⟨j, hj, hjk, hq, e2⟩ := (HTM.out _).1 hin
    exact (List.pairwise_iff_getElem.1 HRP.out.h.u) j k hj hkn hjk ⟨e2, by rw [hq.k, ek]⟩)
   have HMS : Hid (¬ WndQ l g H[k] → ∀ t, t ∈ ts ↔ ∃ j, ∃ hj : j < H.length, j < k + 1 ∧ WndQ l g H[j] ∧ H[j].tx = t) := aA (fun e t => by
    rw [HTM.out]
    exact ⟨fun ⟨j, hj, h1, h2⟩ => ⟨j, hj, by omega, h2⟩, fun ⟨j, hj, h1, h2, h3⟩ => by
     by_cases ej : j = k
     ·subst ej; exact absurd h2 e
     ·exact ⟨j, hj, by omega, h2, h3⟩⟩)
   have HMT : Hid (WndQ l g H[k] → ∀ j0 t, t ∈ ts.take j0 ++ [H[k].tx] ++ ts.drop j0 ↔ ∃ j, ∃ hj : j < H.length, j < k + 1 ∧ WndQ l g H[j] ∧ H[j].tx = t) := aA (fun e j0 t => by
    rw [ins_memR, HTM.out]
    exact ⟨fun h => h.elim (fun ⟨j, hj, h1, h2⟩ => ⟨j, hj, by omega, h2⟩) (fun h => ⟨k, hkn, by omega, e, h.symm⟩), fun ⟨j, hj, h1, h2, h3⟩ => by
     by_cases ej : j = k
     ·subst ej; exact .inr h3.symm
     ·exact .inl ⟨j, hj, by omega, h2, h3⟩⟩)
   have HTY : Hid (∀ t ∈ ts, aT l t ∈ l ∧ (aT l t).tx = t) := aA (fun t ht => by
    obtain ⟨j, hj, _, _, e⟩ := (HTM.out t).1 ht
    have h1 := HRP.out.h.got HLB.out (List.getElem_mem hj)
    rw [e] at h1
    exact ⟨h1.1, h1.2.1⟩)
   have HTr := aA (fun V (hV : Below wr.heap.size wr V) => HR.out.below (HBr.out.trans (hV.mono HBr.out.size)))
   have HCOL : Hid (∀ V, Below wr.heap.size wr V → ∀ y ∈ ts, Calls Tryz.prog 38 #[.pointer (some ⟨r, 0, none⟩), aV y, aV H[k].tx] V fun e w' => e = .returned (.bool (decide (dI l y H[k].tx))) ∧ Below V.heap.size V w') := aA (fun V hV y hy => by
    have h1 := HTY.out y hy
    have := gF r _ _ _ l H W (aT l y) (aT l H[k].tx) V (HTr.out V hV) HLB.out h1.1 hgx.1
    rw [h1.2, hgx.2.1] at this
    exact this.mono (fun e w' ⟨he, hB⟩ => ⟨he.trans (by first | rfl | (congr 2; exact decide_eq_decide.2 Iff.rfl)), hB⟩))
   have HCG0 : Hid (∀ V, Below wr.heap.size wr V → Calls Tryz.prog 38 #[.pointer (some ⟨r, 0, none⟩), aV g.tx, aV H[k].tx] V fun e w' => e = .returned (.bool (decide (Old (aT l g.tx) (aT l H[k].tx)))) ∧ Below V.heap.size V w') := aA (fun V hV => by
    have := gF r _ _ _ l H W (aT l g.tx) (aT l H[k].tx) V (HTr.out V hV) HLB.out hgg.1 hgx.1
    rw [hgg.2.1, hgx.2.1] at this
    exact this)
   have HTOT : Hid (H[k].key = g.key → ∀ y ∈ ts, NOld l y H[k].tx → dI l H[k].tx y) := aA (fun ek y hy hn => (f5 (u := aT l y) (v := aT l H[k].tx) (by rw [(HTY.out y hy).2, hgx.2.1]; exact fun e => HXN.out ek (by rw [← e]; exact hy))).resolve_left hn)
   obtain ⟨kx, hpx, hkx0, hgu⟩ := plU_us HLB.out hgx.1
   rw [hgx.2.1] at hpx
   have HCF0 : Hid (∀ V, Below wr.heap.size wr V → Calls Tryz.prog 41 #[.pointer (some ⟨r, 0, none⟩), aV H[k].tx] V fun e w' => e = .returned (.int .i64 (kx : Int)) ∧ Below V.heap.size V w') := aA (fun V hV => by
    have := dZ r _ _ _ _ H W H[k].tx V (HTr.out V hV) (by rw [List.length_map]; have := HLB.out.few; omega)
    rw [hpx] at this
    exact this)
   have hkx : kx < nL := by rw [HNL.out]; exact hkx0
   obtain ⟨en2, bL, oL, haoL, hbL, hcL⟩ := (HSL.out.below HBr.out).at eJ.len hkx0
   subst haoL
   rw [hgu] at hcL
   have HPR0 : Hid (∀ V, Below wr.heap.size wr V → V.cell? ⟨bL, oL + kx * 5 + 4, none⟩ = some (.bool (aT l H[k].tx).pr)) := aA (fun V hV => (hV.cell (p := ⟨bL, oL + kx * 5 + 4, none⟩) hbL).trans (hcL 4 _ rfl))
   have HWQ : Hid (∀ T, T = togB H[k] g → ∀ PR, PR = (aT l H[k].tx).pr → (T = true ∨ PR = true ∨ ¬ Old (aT l g.tx) (aT l H[k].tx) → ¬ WndQ l g H[k]) ∧ (H[k].key = g.key → T = false → PR = false → Old (aT l g.tx) (aT l H[k].tx) → WndQ l g H[k])) := aA (fun T hT PR hPR => ⟨fun h hq => by
    rcases h with h | h | h
    ·rw [hT, hq.t] at h; cases h
    ·rw [hPR, hq.p] at h; cases h
    ·exact h hq.o, fun h1 h2 h3 h4 => ⟨h1, by rw [← hT]; exact h2, by rw [← hPR]; exact h3, h4⟩⟩)
   have HWK : Hid (H[k].key ≠ g.key → ¬ WndQ l g H[k]) := aA (fun h hq => h hq.k)
   obtain ⟨T, hT⟩ : ∃ T, T = togB H[k] g := ⟨_, rfl⟩
   obtain ⟨PR, hPR⟩ : ∃ PR, PR = (aT l H[k].tx).pr := ⟨_, rfl⟩
   have HWQ2 := aA (HWQ.out T hT PR hPR)
   have CT0 : Hid (∀ V, Calls Tryz.prog 85 #[.agg (bW H[k]), .agg (bW g)] V fun e w' => e = .returned (.bool T) ∧ Below V.heap.size V w') := aA (fun V => by have := rtog_any15 H[k] g V; rw [← hT] at this; exact this)
   rw [← hPR] at HPR0
   clear hgx hgg hc en en2 hbl hkx0 hgu hcL hbL hpx HWQ hT hPR
   generalize H[k] = x at *
   have HZ : Hid (bZ (wr.alloc (.cells #[.int .u8 0, .int .u32 0, .int .u32 0, .int .u8 0, .int .u8 0, .int .u8 0, .int .u8 0, .int .u8 0, .int .u8 0, .int .u8 0, .int .u8 0, .int .u8 0] 62)) wr.heap.size #[.int .u8 0, .int .u32 0, .int .u32 0, .int .u8 0, .int .u8 0, .int .u8 0, .int .u8 0, .int .u8 0, .int .u8 0, .int .u8 0, .int .u8 0, .int .u8 0] 62) := aA (aN wr _ 62)
   have HZB : Hid (Below wr.heap.size wr (wr.alloc (.cells #[.int .u8 0, .int .u32 0, .int .u32 0, .int .u8 0, .int .u8 0, .int .u8 0, .int .u8 0, .int .u8 0, .int .u8 0, .int .u8 0, .int .u8 0, .int .u8 0] 62))) := aA (aE wr _)
   go_wp2_with (first
    | (refine aO rfl _ (t := 62) rfl (b) (off + k * 12) rfl (gtE x) HRX.out Tryz.underlying62 rfl bS ?_)
    | (refine aP rfl rfl _ _ rfl wr.heap.size rfl (cs' := bW x) rfl HZ.out rfl bS (by simp [Value.oneCell']) ?_; intro w3 hb3 hk3; have HX7 := aA hb3; have HBW : Hid (Below wr.heap.size wr w3) := aA (HZB.out.trans (hk3.below HZB.out.size (fun k hk => by rw [hk]; exact Nat.le_refl _))); clear hb3 hk3))
   obtain ⟨p7, hp7⟩ : ∃ p7, p7 = wr.heap.size := ⟨_, rfl⟩
   rw [← hp7] at HX7 ⊢
   clear HZ HZB HRX hp7
   have HB3 := aA (HBr.out.trans (HBW.out.mono HBr.out.size))
   have HO3 := aA (aJ HO.out (aC.of_below (fun _ => False) HBW.out) (fun _ _ h => h))
   have HWU := aA (fun V (hV : Below w3.heap.size w3 V) => HBW.out.trans (hV.mono HBW.out.size))
   have HX7q := aA (fun V (hV : Below w3.heap.size w3 V) => HX7.out.belowI hV)
   have HX3q := aA (fun V (hV : Below w3.heap.size w3 V) => (HXp3.out.belowI HB3.out).belowI hV)
   have HCL : Hid (∀ V, Below w3.heap.size w3 V → V.cell? ⟨r, 0, none⟩ = some (.slice (some ⟨bL, oL, none⟩) nL cL)) := aA (fun V hV => HC0.out V (HB3.out.trans (hV.mono HB3.out.size)))
   have HPR1 := aA (fun V (hV : Below w3.heap.size w3 V) => HPR0.out V (HWU.out V hV))
   have CF := aA (fun V (hV : Below w3.heap.size w3 V) => HCF0.out V (HWU.out V hV))
   have HCG := aA (fun V (hV : Below w3.heap.size w3 V) => HCG0.out V (HWU.out V hV))
   clear HPR0 HCF0 HCG0
   by_cases ek : x.key = g.key
   ·have hd : (!decide (x.key = g.key)) = false := by simp [ek]
    rw [hd] at hqk
    cases T with
    | true =>
     have HSK := aA (HMS.out (HWQ2.out.1 (.inl rfl)))
     have CT := CT0
     clear ek hd HMS HMT HTOT HXN HWK HWQ2
     go_wp2_with fail
     refine bD (by kernel_rfl) [(25, .pointer (some ⟨p7, 3, none⟩)), (26, .agg (aK x.key.1)), (27, .pointer (some ⟨p3, 3, none⟩)), (28, .agg (aK g.key.1)), (29, .bool false), (30, .bool false), (31, .agg (bW x)), (32, .agg (bW g)), (33, .bool true), (34, .bool true), (35, .bool true), (36, undef), (37, undef), (38, undef), (39, undef), (40, undef), (41, undef), (42, undef), (43, undef), (44, undef), (45, undef), (46, undef), (47, .bool true), (48, .bool true), (49, undef), (50, undef), (51, undef), (52, undef), (53, undef), (54, undef), (55, undef), (56, .bool true)] (by kernel_rfl) rfl ?_ ?_
     ·intro i o hi A w1 hB hold hdeps
      have hlt : i < 32 := (Array.getElem?_eq_some_iff.1 hi).1
      have hc : i = 0 ∨ i = 1 ∨ i = 2 ∨ i = 3 ∨ i = 4 ∨ i = 5 ∨ i = 6 ∨ i = 7 ∨ i = 8 ∨ i = 9 ∨ i = 10 ∨ i = 11 ∨ i = 12 ∨ i = 13 ∨ i = 14 ∨ i = 15 ∨ i = 16 ∨ i = 17 ∨ i = 18 ∨ i = 19 ∨ i = 20 ∨ i = 21 ∨ i = 22 ∨ i = 23 ∨ i = 24 ∨ i = 25 ∨ i = 26 ∨ i = 27 ∨ i = 28 ∨ i = 29 ∨ i = 30 ∨ i = 31 := by omega
      clear hlt
      rcases hc with rfl|rfl|rfl|rfl|rfl|rfl|rfl|rfl|rfl|rfl|rfl|rfl|rfl|rfl|rfl|rfl|rfl|rfl|rfl|rfl|rfl|rfl|rfl|rfl|rfl|rfl|rfl|rfl|rfl|rfl|rfl|rfl <;> obtain rfl := Option.some.inj hi
      ·have s7 : A.tmps.getD 7 undef = .pointer (some ⟨p7, 0, none⟩) := hold 7 (by kernel_rfl)
       exact aD hi rfl rfl (fG _ s7)
      ·have s25 : A.tmps.getD 25 undef = .pointer (some ⟨p7, 3, none⟩) := aB hdeps 0 (by kernel_rfl)
       exact aD hi rfl rfl (fQ (k := x.key) _ s25 (by simpa using cT x (bE (HX7q.out w1 hB))))
      ·have s3 : A.tmps.getD 3 undef = .pointer (some ⟨p3, 0, none⟩) := hold 3 (by kernel_rfl)
       exact aD hi rfl rfl (fG _ s3)
      ·have s27 : A.tmps.getD 27 undef = .pointer (some ⟨p3, 3, none⟩) := aB hdeps 2 (by kernel_rfl)
       exact aD hi rfl rfl (fQ (k := g.key) _ s27 (by simpa using cT g (bE (HX3q.out w1 hB))))
      ·have s26 : A.tmps.getD 26 undef = .agg (aK x.key.1) := aB hdeps 1 (by kernel_rfl)
       have s28 : A.tmps.getD 28 undef = .agg (aK g.key.1) := aB hdeps 3 (by kernel_rfl)
       exact aD hi rfl rfl (eE _ _ _ _ _ s26 s28 (hqk w1) (by kernel_rfl))
      ·have s29 : A.tmps.getD 29 undef = .bool false := aB hdeps 4 (by kernel_rfl)
       exact aD hi rfl rfl (aR _ s29)
      ·have g6 : A.tmps.getD 30 undef = .bool false := aB hdeps 5 (by kernel_rfl)
       have s7 : A.tmps.getD 7 undef = .pointer (some ⟨p7, 0, none⟩) := hold 7 (by kernel_rfl)
       exact aD hi (aF rfl rfl g6) rfl (f9 (g := x) _ s7 (bE (HX7q.out w1 hB)))
      ·have g7 : A.tmps.getD 30 undef = .bool false := aB hdeps 5 (by kernel_rfl)
       have s3 : A.tmps.getD 3 undef = .pointer (some ⟨p3, 0, none⟩) := hold 3 (by kernel_rfl)
       exact aD hi (aF rfl rfl g7) rfl (f9 (g := g) _ s3 (bE (HX3q.out w1 hB)))
      ·have g8 : A.tmps.getD 30 undef = .bool false := aB hdeps 5 (by kernel_rfl)
       have s31 : A.tmps.getD 31 undef = .agg (bW x) := aB hdeps 6 (by kernel_rfl)
       have s32 : A.tmps.getD 32 undef = .agg (bW g) := aB hdeps 7 (by kernel_rfl)
       exact cF hi (aF rfl rfl g8) rfl (cC 85 _ #[.agg (bW x), .agg (bW g)] _ rfl (by simp only [List.map_toArray, List.map_cons, List.map_nil, show A.eval (.tmp 31) = .agg (bW x) from s31, show A.eval (.tmp 32) = .agg (bW g) from s32]; try rfl) en_togR) (CT.out w1)
      ·have s30 : A.tmps.getD 30 undef = .bool false := aB hdeps 5 (by kernel_rfl)
       have s33 : A.tmps.getD 33 undef = .bool true := aB hdeps 8 (by kernel_rfl)
       exact aD hi rfl rfl (dB _ _ _ s30 s33)
      ·have s34 : A.tmps.getD 34 undef = .bool true := aB hdeps 9 (by kernel_rfl)
       exact aD hi rfl rfl (aR _ s34)
      ·have g11 : A.tmps.getD 35 undef = .bool true := aB hdeps 10 (by kernel_rfl)
       exact aI hi rfl rfl (fun e => absurd (g11.symm.trans e) (by simp)) rfl
      ·have g12 : A.tmps.getD 35 undef = .bool true := aB hdeps 10 (by kernel_rfl)
       exact aI hi rfl rfl (fun e => absurd (g12.symm.trans e) (by simp)) rfl
      ·have g13 : A.tmps.getD 35 undef = .bool true := aB hdeps 10 (by kernel_rfl)
       exact aI hi rfl rfl (fun e => absurd (g13.symm.trans e) (by simp)) rfl
      ·have g14 : A.tmps.getD 35 undef = .bool true := aB hdeps 10 (by kernel_rfl)
       exact aI hi rfl rfl (fun e => absurd (g14.symm.trans e) (by simp)) rfl
      ·have g15 : A.tmps.getD 35 undef = .bool true := aB hdeps 10 (by kernel_rfl)
       exact aI hi rfl rfl (fun e => absurd (g15.symm.trans e) (by simp)) rfl
      ·have g16 : A.tmps.getD 35 undef = .bool true := aB hdeps 10 (by kernel_rfl)
       exact aI hi rfl rfl (fun e => absurd (g16.symm.trans e) (by simp)) rfl
      ·have g17 : A.tmps.getD 35 undef = .bool true := aB hdeps 10 (by kernel_rfl)
       exact aI hi rfl rfl (fun e => absurd (g17.symm.trans e) (by simp)) rfl
      ·have g18 : A.tmps.getD 35 undef = .bool true := aB hdeps 10 (by kernel_rfl)
       exact aI hi rfl rfl (fun e => absurd (g18.symm.trans e) (by simp)) rfl
      ·have g19 : A.tmps.getD 35 undef = .bool true := aB hdeps 10 (by kernel_rfl)
       exact aI hi rfl rfl (fun e => absurd (g19.symm.trans e) (by simp)) rfl
      ·have g20 : A.tmps.getD 35 undef = .bool true := aB hdeps 10 (by kernel_rfl)
       exact aI hi rfl rfl (fun e => absurd (g20.symm.trans e) (by simp)) rfl
      ·have g21 : A.tmps.getD 35 undef = .bool true := aB hdeps 10 (by kernel_rfl)
       exact aI hi rfl rfl (fun e => absurd (g21.symm.trans e) (by simp)) rfl
      ·have s35 : A.tmps.getD 35 undef = .bool true := aB hdeps 10 (by kernel_rfl)
       exact aD hi rfl rfl (dT _ _ _ s35 rfl)
      ·have s47 : A.tmps.getD 47 undef = .bool true := aB hdeps 22 (by kernel_rfl)
       exact aD hi rfl rfl (aR _ s47)
      ·have g24 : A.tmps.getD 48 undef = .bool true := aB hdeps 23 (by kernel_rfl)
       exact aI hi rfl rfl (fun e => absurd (g24.symm.trans e) (by simp)) rfl
      ·have g25 : A.tmps.getD 48 undef = .bool true := aB hdeps 23 (by kernel_rfl)
       exact aI hi rfl rfl (fun e => absurd (g25.symm.trans e) (by simp)) rfl
      ·have g26 : A.tmps.getD 48 undef = .bool true := aB hdeps 23 (by kernel_rfl)
       exact aI hi rfl rfl (fun e => absurd (g26.symm.trans e) (by simp)) rfl
      ·have g27 : A.tmps.getD 48 undef = .bool true := aB hdeps 23 (by kernel_rfl)
       exact aI hi rfl rfl (fun e => absurd (g27.symm.trans e) (by simp)) rfl
      ·have g28 : A.tmps.getD 48 undef = .bool true := aB hdeps 23 (by kernel_rfl)
       exact aI hi rfl rfl (fun e => absurd (g28.symm.trans e) (by simp)) rfl
      ·have g29 : A.tmps.getD 48 undef = .bool true := aB hdeps 23 (by kernel_rfl)
       exact aI hi rfl rfl (fun e => absurd (g29.symm.trans e) (by simp)) rfl
      ·have g30 : A.tmps.getD 48 undef = .bool true := aB hdeps 23 (by kernel_rfl)
       exact aI hi rfl rfl (fun e => absurd (g30.symm.trans e) (by simp)) rfl
      ·have s48 : A.tmps.getD 48 undef = .bool true := aB hdeps 23 (by kernel_rfl)
       exact aD hi rfl rfl (dT _ _ _ s48 rfl)
     ·intro w10 hB10
      simp only [cA, Act.put, List.setIfInBounds_toArray, List.set_cons_succ, List.set_cons_zero]
      have HF := aA (HB3.out.trans (hB10.mono HB3.out.size))
      have HO2 := aA (aJ HO3.out (aC.of_below (fun _ => False) hB10) (fun _ _ h => h))
      go_wp2_with fail
      go_roundg gf
      case measure => omega
      case rel => exact ⟨k + 1, n, ts, ax, cx, by omega, by first | rfl | go_num, by first | rfl | go_num, HN, aA (by have := HNB.out; omega), HTP, HSK, HO2, HF⟩
    | false =>
     have CT := CT0
     cases PR with
     | true =>
      have HSK := aA (HMS.out (HWQ2.out.1 (.inr (.inl rfl))))
      have HPR := HPR1
      clear ek hd HMS HMT HTOT HXN HWK HWQ2
      go_wp2_with fail
      refine bD (by kernel_rfl) [(25, .pointer (some ⟨p7, 3, none⟩)), (26, .agg (aK x.key.1)), (27, .pointer (some ⟨p3, 3, none⟩)), (28, .agg (aK g.key.1)), (29, .bool false), (30, .bool false), (31, .agg (bW x)), (32, .agg (bW g)), (33, .bool false), (34, .bool false), (35, .bool false), (36, .pointer (some ⟨r, 0, none⟩)), (37, .pointer (some ⟨r, 0, none⟩)), (38, .pointer (some ⟨r, 0, none⟩)), (39, .slice (some ⟨bL, oL, none⟩) nL cL), (40, .pointer (some ⟨r, 0, none⟩)), (41, .pointer (some ⟨p7, 0, none⟩)), (42, aV x.tx), (43, .int .i64 (kx : Int)), (44, .pointer (some ⟨bL, oL + kx * 5, none⟩)), (45, .pointer (some ⟨bL, oL + kx * 5 + 4, none⟩)), (46, .bool true), (47, .bool true), (48, .bool true), (49, undef), (50, undef), (51, undef), (52, undef), (53, undef), (54, undef), (55, undef), (56, .bool true)] (by kernel_rfl) rfl ?_ ?_
      ·intro i o hi A w1 hB hold hdeps
       have hlt : i < 32 := (Array.getElem?_eq_some_iff.1 hi).1
       have hc : i = 0 ∨ i = 1 ∨ i = 2 ∨ i = 3 ∨ i = 4 ∨ i = 5 ∨ i = 6 ∨ i = 7 ∨ i = 8 ∨ i = 9 ∨ i = 10 ∨ i = 11 ∨ i = 12 ∨ i = 13 ∨ i = 14 ∨ i = 15 ∨ i = 16 ∨ i = 17 ∨ i = 18 ∨ i = 19 ∨ i = 20 ∨ i = 21 ∨ i = 22 ∨ i = 23 ∨ i = 24 ∨ i = 25 ∨ i = 26 ∨ i = 27 ∨ i = 28 ∨ i = 29 ∨ i = 30 ∨ i = 31 := by omega
       clear hlt
       rcases hc with rfl|rfl|rfl|rfl|rfl|rfl|rfl|rfl|rfl|rfl|rfl|rfl|rfl|rfl|rfl|rfl|rfl|rfl|rfl|rfl|rfl|rfl|rfl|rfl|rfl|rfl|rfl|rfl|rfl|rfl|rfl|rfl <;> obtain rfl := Option.some.inj hi
       ·have s7 : A.tmps.getD 7 undef = .pointer (some ⟨p7, 0, none⟩) := hold 7 (by kernel_rfl)
        exact aD hi rfl rfl (fG _ s7)
       ·have s25 : A.tmps.getD 25 undef = .pointer (some ⟨p7, 3, none⟩) := aB hdeps 0 (by kernel_rfl)
        exact aD hi rfl rfl (fQ (k := x.key) _ s25 (by simpa using cT x (bE (HX7q.out w1 hB))))
       ·have s3 : A.tmps.getD 3 undef = .pointer (some ⟨p3, 0, none⟩) := hold 3 (by kernel_rfl)
        exact aD hi rfl rfl (fG _ s3)
       ·have s27 : A.tmps.getD 27 undef = .pointer (some ⟨p3, 3, none⟩) := aB hdeps 2 (by kernel_rfl)
        exact aD hi rfl rfl (fQ (k := g.key) _ s27 (by simpa using cT g (bE (HX3q.out w1 hB))))
       ·have s26 : A.tmps.getD 26 undef = .agg (aK x.key.1) := aB hdeps 1 (by kernel_rfl)
        have s28 : A.tmps.getD 28 undef = .agg (aK g.key.1) := aB hdeps 3 (by kernel_rfl)
        exact aD hi rfl rfl (eE _ _ _ _ _ s26 s28 (hqk w1) (by kernel_rfl))
       ·have s29 : A.tmps.getD 29 undef = .bool false := aB hdeps 4 (by kernel_rfl)
        exact aD hi rfl rfl (aR _ s29)
       ·have g6 : A.tmps.getD 30 undef = .bool false := aB hdeps 5 (by kernel_rfl)
        have s7 : A.tmps.getD 7 undef = .pointer (some ⟨p7, 0, none⟩) := hold 7 (by kernel_rfl)
        exact aD hi (aF rfl rfl g6) rfl (f9 (g := x) _ s7 (bE (HX7q.out w1 hB)))
       ·have g7 : A.tmps.getD 30 undef = .bool false := aB hdeps 5 (by kernel_rfl)
        have s3 : A.tmps.getD 3 undef = .pointer (some ⟨p3, 0, none⟩) := hold 3 (by kernel_rfl)
        exact aD hi (aF rfl rfl g7) rfl (f9 (g := g) _ s3 (bE (HX3q.out w1 hB)))
       ·have g8 : A.tmps.getD 30 undef = .bool false := aB hdeps 5 (by kernel_rfl)
        have s31 : A.tmps.getD 31 undef = .agg (bW x) := aB hdeps 6 (by kernel_rfl)
        have s32 : A.tmps.getD 32 undef = .agg (bW g) := aB hdeps 7 (by kernel_rfl)
        exact cF hi (aF rfl rfl g8) rfl (cC 85 _ #[.agg (bW x), .agg (bW g)] _ rfl (by simp only [List.map_toArray, List.map_cons, List.map_nil, show A.eval (.tmp 31) = .agg (bW x) from s31, show A.eval (.tmp 32) = .agg (bW g) from s32]; try rfl) en_togR) (CT.out w1)
       ·have s30 : A.tmps.getD 30 undef = .bool false := aB hdeps 5 (by kernel_rfl)
        have s33 : A.tmps.getD 33 undef = .bool false := aB hdeps 8 (by kernel_rfl)
        exact aD hi rfl rfl (dB _ _ _ s30 s33)
       ·have s34 : A.tmps.getD 34 undef = .bool false := aB hdeps 9 (by kernel_rfl)
        exact aD hi rfl rfl (aR _ s34)
       ·have g11 : A.tmps.getD 35 undef = .bool false := aB hdeps 10 (by kernel_rfl)
        have s0 : A.tmps.getD 0 undef = .pointer (some ⟨r, 0, none⟩) := hold 0 (by kernel_rfl)
        exact aD hi (aF rfl rfl g11) rfl (aR _ s0)
       ·have g12 : A.tmps.getD 35 undef = .bool false := aB hdeps 10 (by kernel_rfl)
        have s36 : A.tmps.getD 36 undef = .pointer (some ⟨r, 0, none⟩) := aB hdeps 11 (by kernel_rfl)
        exact aD hi (aF rfl rfl g12) rfl (dY _ s36)
       ·have g13 : A.tmps.getD 35 undef = .bool false := aB hdeps 10 (by kernel_rfl)
        have s37 : A.tmps.getD 37 undef = .pointer (some ⟨r, 0, none⟩) := aB hdeps 12 (by kernel_rfl)
        exact aD hi (aF rfl rfl g13) rfl (gV _ s37)
       ·have g14 : A.tmps.getD 35 undef = .bool false := aB hdeps 10 (by kernel_rfl)
        have s38 : A.tmps.getD 38 undef = .pointer (some ⟨r, 0, none⟩) := aB hdeps 13 (by kernel_rfl)
        exact aD hi (aF rfl rfl g14) rfl (eY _ s38 (HCL.out w1 hB))
       ·have g15 : A.tmps.getD 35 undef = .bool false := aB hdeps 10 (by kernel_rfl)
        have s0 : A.tmps.getD 0 undef = .pointer (some ⟨r, 0, none⟩) := hold 0 (by kernel_rfl)
        exact aD hi (aF rfl rfl g15) rfl (aR _ s0)
       ·have g16 : A.tmps.getD 35 undef = .bool false := aB hdeps 10 (by kernel_rfl)
        have s7 : A.tmps.getD 7 undef = .pointer (some ⟨p7, 0, none⟩) := hold 7 (by kernel_rfl)
        exact aD hi (aF rfl rfl g16) rfl (iJ _ s7)
       ·have g17 : A.tmps.getD 35 undef = .bool false := aB hdeps 10 (by kernel_rfl)
        have s41 : A.tmps.getD 41 undef = .pointer (some ⟨p7, 0, none⟩) := aB hdeps 16 (by kernel_rfl)
        exact aD hi (aF rfl rfl g17) rfl (gG (t := x.tx) _ s41 (fI x (bE (HX7q.out w1 hB))))
       ·have g18 : A.tmps.getD 35 undef = .bool false := aB hdeps 10 (by kernel_rfl)
        have s40 : A.tmps.getD 40 undef = .pointer (some ⟨r, 0, none⟩) := aB hdeps 15 (by kernel_rfl)
        have s42 : A.tmps.getD 42 undef = aV x.tx := aB hdeps 17 (by kernel_rfl)
        exact cF hi (aF rfl rfl g18) rfl (cC 41 _ #[.pointer (some ⟨r, 0, none⟩), aV x.tx] _ rfl (by simp only [List.map_toArray, List.map_cons, List.map_nil, show A.eval (.tmp 40) = .pointer (some ⟨r, 0, none⟩) from s40, show A.eval (.tmp 42) = aV x.tx from s42]; try rfl) en_findR) (CF.out w1 hB)
       ·have g19 : A.tmps.getD 35 undef = .bool false := aB hdeps 10 (by kernel_rfl)
        have s39 : A.tmps.getD 39 undef = .slice (some ⟨bL, oL, none⟩) nL cL := aB hdeps 14 (by kernel_rfl)
        have s43 : A.tmps.getD 43 undef = .int .i64 (kx : Int) := aB hdeps 18 (by kernel_rfl)
        exact aD hi (aF rfl rfl g19) rfl (k9 _ _ s39 s43 hkx)
       ·have g20 : A.tmps.getD 35 undef = .bool false := aB hdeps 10 (by kernel_rfl)
        have s44 : A.tmps.getD 44 undef = .pointer (some ⟨bL, oL + kx * 5, none⟩) := aB hdeps 19 (by kernel_rfl)
        exact aD hi (aF rfl rfl g20) rfl (yr_us1 _ s44)
       ·have g21 : A.tmps.getD 35 undef = .bool false := aB hdeps 10 (by kernel_rfl)
        have s45 : A.tmps.getD 45 undef = .pointer (some ⟨bL, oL + kx * 5 + 4, none⟩) := aB hdeps 20 (by kernel_rfl)
        exact aD hi (aF rfl rfl g21) rfl (yc_bool _ s45 (HPR.out w1 hB))
       ·have s35 : A.tmps.getD 35 undef = .bool false := aB hdeps 10 (by kernel_rfl)
        have s46 : A.tmps.getD 46 undef = .bool true := aB hdeps 21 (by kernel_rfl)
        exact aD hi rfl rfl (dB _ _ _ s35 s46)
       ·have s47 : A.tmps.getD 47 undef = .bool true := aB hdeps 22 (by kernel_rfl)
        exact aD hi rfl rfl (aR _ s47)
       ·have g24 : A.tmps.getD 48 undef = .bool true := aB hdeps 23 (by kernel_rfl)
        exact aI hi rfl rfl (fun e => absurd (g24.symm.trans e) (by simp)) rfl
       ·have g25 : A.tmps.getD 48 undef = .bool true := aB hdeps 23 (by kernel_rfl)
        exact aI hi rfl rfl (fun e => absurd (g25.symm.trans e) (by simp)) rfl
       ·have g26 : A.tmps.getD 48 undef = .bool true := aB hdeps 23 (by kernel_rfl)
        exact aI hi rfl rfl (fun e => absurd (g26.symm.trans e) (by simp)) rfl
       ·have g27 : A.tmps.getD 48 undef = .bool true := aB hdeps 23 (by kernel_rfl)
        exact aI hi rfl rfl (fun e => absurd (g27.symm.trans e) (by simp)) rfl
       ·have g28 : A.tmps.getD 48 undef = .bool true := aB hdeps 23 (by kernel_rfl)
        exact aI hi rfl rfl (fun e => absurd (g28.symm.trans e) (by simp)) rfl
       ·have g29 : A.tmps.getD 48 undef = .bool true := aB hdeps 23 (by kernel_rfl)
        exact aI hi rfl rfl (fun e => absurd (g29.symm.trans e) (by simp)) rfl
       ·have g30 : A.tmps.getD 48 undef = .bool true := aB hdeps 23 (by kernel_rfl)
        exact aI hi rfl rfl (fun e => absurd (g30.symm.trans e) (by simp)) rfl
       ·have s48 : A.tmps.getD 48 undef = .bool true := aB hdeps 23 (by kernel_rfl)
        exact aD hi rfl rfl (dT _ _ _ s48 rfl)
      ·intro w10 hB10
       simp only [cA, Act.put, List.setIfInBounds_toArray, List.set_cons_succ, List.set_cons_zero]
       have HF := aA (HB3.out.trans (hB10.mono HB3.out.size))
       have HO2 := aA (aJ HO3.out (aC.of_below (fun _ => False) hB10) (fun _ _ h => h))
       go_wp2_with fail
       go_roundg gf
       case measure => omega
       case rel => exact ⟨k + 1, n, ts, ax, cx, by omega, by first | rfl | go_num, by first | rfl | go_num, HN, aA (by have := HNB.out; omega), HTP, HSK, HO2, HF⟩
     | false =>
      have HPR := HPR1
      by_cases ho : Old (aT l g.tx) (aT l x.tx)
      ·have CG : Hid (∀ V, Below w3.heap.size w3 V → Calls Tryz.prog 38 #[.pointer (some ⟨r, 0, none⟩), aV g.tx, aV x.tx] V fun e w' => e = .returned (.bool true) ∧ Below V.heap.size V w') := aA (fun V hV => by have := HCG.out V hV; rw [decide_eq_true ho] at this; exact this)
       have HMT2 := aA (HMT.out (HWQ2.out.2 ek rfl rfl ho))
       have HTO := aA (HTOT.out ek)
       clear ek hd ho HMS HMT HTOT HXN HWK HWQ2 HCG
       go_wp2_with fail
       refine bD (by kernel_rfl) [(25, .pointer (some ⟨p7, 3, none⟩)), (26, .agg (aK x.key.1)), (27, .pointer (some ⟨p3, 3, none⟩)), (28, .agg (aK g.key.1)), (29, .bool false), (30, .bool false), (31, .agg (bW x)), (32, .agg (bW g)), (33, .bool false), (34, .bool false), (35, .bool false), (36, .pointer (some ⟨r, 0, none⟩)), (37, .pointer (some ⟨r, 0, none⟩)), (38, .pointer (some ⟨r, 0, none⟩)), (39, .slice (some ⟨bL, oL, none⟩) nL cL), (40, .pointer (some ⟨r, 0, none⟩)), (41, .pointer (some ⟨p7, 0, none⟩)), (42, aV x.tx), (43, .int .i64 (kx : Int)), (44, .pointer (some ⟨bL, oL + kx * 5, none⟩)), (45, .pointer (some ⟨bL, oL + kx * 5 + 4, none⟩)), (46, .bool false), (47, .bool false), (48, .bool false), (49, .pointer (some ⟨r, 0, none⟩)), (50, .pointer (some ⟨p3, 0, none⟩)), (51, aV g.tx), (52, .pointer (some ⟨p7, 0, none⟩)), (53, aV x.tx), (54, .bool true), (55, .bool false), (56, .bool false)] (by kernel_rfl) rfl ?_ ?_
       ·intro i o hi A w1 hB hold hdeps
        have hlt : i < 32 := (Array.getElem?_eq_some_iff.1 hi).1
        have hc : i = 0 ∨ i = 1 ∨ i = 2 ∨ i = 3 ∨ i = 4 ∨ i = 5 ∨ i = 6 ∨ i = 7 ∨ i = 8 ∨ i = 9 ∨ i = 10 ∨ i = 11 ∨ i = 12 ∨ i = 13 ∨ i = 14 ∨ i = 15 ∨ i = 16 ∨ i = 17 ∨ i = 18 ∨ i = 19 ∨ i = 20 ∨ i = 21 ∨ i = 22 ∨ i = 23 ∨ i = 24 ∨ i = 25 ∨ i = 26 ∨ i = 27 ∨ i = 28 ∨ i = 29 ∨ i = 30 ∨ i = 31 := by omega
        clear hlt
        rcases hc with rfl|rfl|rfl|rfl|rfl|rfl|rfl|rfl|rfl|rfl|rfl|rfl|rfl|rfl|rfl|rfl|rfl|rfl|rfl|rfl|rfl|rfl|rfl|rfl|rfl|rfl|rfl|rfl|rfl|rfl|rfl|rfl <;> obtain rfl := Option.some.inj hi
        ·have s7 : A.tmps.getD 7 undef = .pointer (some ⟨p7, 0, none⟩) := hold 7 (by kernel_rfl)
         exact aD hi rfl rfl (fG _ s7)
        ·have s25 : A.tmps.getD 25 undef = .pointer (some ⟨p7, 3, none⟩) := aB hdeps 0 (by kernel_rfl)
         exact aD hi rfl rfl (fQ (k := x.key) _ s25 (by simpa using cT x (bE (HX7q.out w1 hB))))
        ·have s3 : A.tmps.getD 3 undef = .pointer (some ⟨p3, 0, none⟩) := hold 3 (by kernel_rfl)
         exact aD hi rfl rfl (fG _ s3)
        ·have s27 : A.tmps.getD 27 undef = .pointer (some ⟨p3, 3, none⟩) := aB hdeps 2 (by kernel_rfl)
         exact aD hi rfl rfl (fQ (k := g.key) _ s27 (by simpa using cT g (bE (HX3q.out w1 hB))))
        ·have s26 : A.tmps.getD 26 undef = .agg (aK x.key.1) := aB hdeps 1 (by kernel_rfl)
         have s28 : A.tmps.getD 28 undef = .agg (aK g.key.1) := aB hdeps 3 (by kernel_rfl)
         exact aD hi rfl rfl (eE _ _ _ _ _ s26 s28 (hqk w1) (by kernel_rfl))
        ·have s29 : A.tmps.getD 29 undef = .bool false := aB hdeps 4 (by kernel_rfl)
         exact aD hi rfl rfl (aR _ s29)
        ·have g6 : A.tmps.getD 30 undef = .bool false := aB hdeps 5 (by kernel_rfl)
         have s7 : A.tmps.getD 7 undef = .pointer (some ⟨p7, 0, none⟩) := hold 7 (by kernel_rfl)
         exact aD hi (aF rfl rfl g6) rfl (f9 (g := x) _ s7 (bE (HX7q.out w1 hB)))
        ·have g7 : A.tmps.getD 30 undef = .bool false := aB hdeps 5 (by kernel_rfl)
         have s3 : A.tmps.getD 3 undef = .pointer (some ⟨p3, 0, none⟩) := hold 3 (by kernel_rfl)
         exact aD hi (aF rfl rfl g7) rfl (f9 (g := g) _ s3 (bE (HX3q.out w1 hB)))
        ·have g8 : A.tmps.getD 30 undef = .bool false := aB hdeps 5 (by kernel_rfl)
         have s31 : A.tmps.getD 31 undef = .agg (bW x) := aB hdeps 6 (by kernel_rfl)
         have s32 : A.tmps.getD 32 undef = .agg (bW g) := aB hdeps 7 (by kernel_rfl)
         exact cF hi (aF rfl rfl g8) rfl (cC 85 _ #[.agg (bW x), .agg (bW g)] _ rfl (by simp only [List.map_toArray, List.map_cons, List.map_nil, show A.eval (.tmp 31) = .agg (bW x) from s31, show A.eval (.tmp 32) = .agg (bW g) from s32]; try rfl) en_togR) (CT.out w1)
        ·have s30 : A.tmps.getD 30 undef = .bool false := aB hdeps 5 (by kernel_rfl)
         have s33 : A.tmps.getD 33 undef = .bool false := aB hdeps 8 (by kernel_rfl)
         exact aD hi rfl rfl (dB _ _ _ s30 s33)
        ·have s34 : A.tmps.getD 34 undef = .bool false := aB hdeps 9 (by kernel_rfl)
         exact aD hi rfl rfl (aR _ s34)
        ·have g11 : A.tmps.getD 35 undef = .bool false := aB hdeps 10 (by kernel_rfl)
         have s0 : A.tmps.getD 0 undef = .pointer (some ⟨r, 0, none⟩) := hold 0 (by kernel_rfl)
         exact aD hi (aF rfl rfl g11) rfl (aR _ s0)
        ·have g12 : A.tmps.getD 35 undef = .bool false := aB hdeps 10 (by kernel_rfl)
         have s36 : A.tmps.getD 36 undef = .pointer (some ⟨r, 0, none⟩) := aB hdeps 11 (by kernel_rfl)
         exact aD hi (aF rfl rfl g12) rfl (dY _ s36)
        ·have g13 : A.tmps.getD 35 undef = .bool false := aB hdeps 10 (by kernel_rfl)
         have s37 : A.tmps.getD 37 undef = .pointer (some ⟨r, 0, none⟩) := aB hdeps 12 (by kernel_rfl)
         exact aD hi (aF rfl rfl g13) rfl (gV _ s37)
        ·have g14 : A.tmps.getD 35 undef = .bool false := aB hdeps 10 (by kernel_rfl)
         have s38 : A.tmps.getD 38 undef = .pointer (some ⟨r, 0, none⟩) := aB hdeps 13 (by kernel_rfl)
         exact aD hi (aF rfl rfl g14) rfl (eY _ s38 (HCL.out w1 hB))
        ·have g15 : A.tmps.getD 35 undef = .bool false := aB hdeps 10 (by kernel_rfl)
         have s0 : A.tmps.getD 0 undef = .pointer (some ⟨r, 0, none⟩) := hold 0 (by kernel_rfl)
         exact aD hi (aF rfl rfl g15) rfl (aR _ s0)
        ·have g16 : A.tmps.getD 35 undef = .bool false := aB hdeps 10 (by kernel_rfl)
         have s7 : A.tmps.getD 7 undef = .pointer (some ⟨p7, 0, none⟩) := hold 7 (by kernel_rfl)
         exact aD hi (aF rfl rfl g16) rfl (iJ _ s7)
        ·have g17 : A.tmps.getD 35 undef = .bool false := aB hdeps 10 (by kernel_rfl)
         have s41 : A.tmps.getD 41 undef = .pointer (some ⟨p7, 0, none⟩) := aB hdeps 16 (by kernel_rfl)
         exact aD hi (aF rfl rfl g17) rfl (gG (t := x.tx) _ s41 (fI x (bE (HX7q.out w1 hB))))
        ·have g18 : A.tmps.getD 35 undef = .bool false := aB hdeps 10 (by kernel_rfl)
         have s40 : A.tmps.getD 40 undef = .pointer (some ⟨r, 0, none⟩) := aB hdeps 15 (by kernel_rfl)
         have s42 : A.tmps.getD 42 undef = aV x.tx := aB hdeps 17 (by kernel_rfl)
         exact cF hi (aF rfl rfl g18) rfl (cC 41 _ #[.pointer (some ⟨r, 0, none⟩), aV x.tx] _ rfl (by simp only [List.map_toArray, List.map_cons, List.map_nil, show A.eval (.tmp 40) = .pointer (some ⟨r, 0, none⟩) from s40, show A.eval (.tmp 42) = aV x.tx from s42]; try rfl) en_findR) (CF.out w1 hB)
        ·have g19 : A.tmps.getD 35 undef = .bool false := aB hdeps 10 (by kernel_rfl)
         have s39 : A.tmps.getD 39 undef = .slice (some ⟨bL, oL, none⟩) nL cL := aB hdeps 14 (by kernel_rfl)
         have s43 : A.tmps.getD 43 undef = .int .i64 (kx : Int) := aB hdeps 18 (by kernel_rfl)
         exact aD hi (aF rfl rfl g19) rfl (k9 _ _ s39 s43 hkx)
        ·have g20 : A.tmps.getD 35 undef = .bool false := aB hdeps 10 (by kernel_rfl)
         have s44 : A.tmps.getD 44 undef = .pointer (some ⟨bL, oL + kx * 5, none⟩) := aB hdeps 19 (by kernel_rfl)
         exact aD hi (aF rfl rfl g20) rfl (yr_us1 _ s44)
        ·have g21 : A.tmps.getD 35 undef = .bool false := aB hdeps 10 (by kernel_rfl)
         have s45 : A.tmps.getD 45 undef = .pointer (some ⟨bL, oL + kx * 5 + 4, none⟩) := aB hdeps 20 (by kernel_rfl)
         exact aD hi (aF rfl rfl g21) rfl (yc_bool _ s45 (HPR.out w1 hB))
        ·have s35 : A.tmps.getD 35 undef = .bool false := aB hdeps 10 (by kernel_rfl)
         have s46 : A.tmps.getD 46 undef = .bool false := aB hdeps 21 (by kernel_rfl)
         exact aD hi rfl rfl (dB _ _ _ s35 s46)
        ·have s47 : A.tmps.getD 47 undef = .bool false := aB hdeps 22 (by kernel_rfl)
         exact aD hi rfl rfl (aR _ s47)
        ·have g24 : A.tmps.getD 48 undef = .bool false := aB hdeps 23 (by kernel_rfl)
         have s0 : A.tmps.getD 0 undef = .pointer (some ⟨r, 0, none⟩) := hold 0 (by kernel_rfl)
         exact aD hi (aF rfl rfl g24) rfl (aR _ s0)
        ·have g25 : A.tmps.getD 48 undef = .bool false := aB hdeps 23 (by kernel_rfl)
         have s3 : A.tmps.getD 3 undef = .pointer (some ⟨p3, 0, none⟩) := hold 3 (by kernel_rfl)
         exact aD hi (aF rfl rfl g25) rfl (iJ _ s3)
        ·have g26 : A.tmps.getD 48 undef = .bool false := aB hdeps 23 (by kernel_rfl)
         have s50 : A.tmps.getD 50 undef = .pointer (some ⟨p3, 0, none⟩) := aB hdeps 25 (by kernel_rfl)
         exact aD hi (aF rfl rfl g26) rfl (gG (t := g.tx) _ s50 (fI g (bE (HX3q.out w1 hB))))
        ·have g27 : A.tmps.getD 48 undef = .bool false := aB hdeps 23 (by kernel_rfl)
         have s7 : A.tmps.getD 7 undef = .pointer (some ⟨p7, 0, none⟩) := hold 7 (by kernel_rfl)
         exact aD hi (aF rfl rfl g27) rfl (iJ _ s7)
        ·have g28 : A.tmps.getD 48 undef = .bool false := aB hdeps 23 (by kernel_rfl)
         have s52 : A.tmps.getD 52 undef = .pointer (some ⟨p7, 0, none⟩) := aB hdeps 27 (by kernel_rfl)
         exact aD hi (aF rfl rfl g28) rfl (gG (t := x.tx) _ s52 (fI x (bE (HX7q.out w1 hB))))
        ·have g29 : A.tmps.getD 48 undef = .bool false := aB hdeps 23 (by kernel_rfl)
         have s49 : A.tmps.getD 49 undef = .pointer (some ⟨r, 0, none⟩) := aB hdeps 24 (by kernel_rfl)
         have s51 : A.tmps.getD 51 undef = aV g.tx := aB hdeps 26 (by kernel_rfl)
         have s53 : A.tmps.getD 53 undef = aV x.tx := aB hdeps 28 (by kernel_rfl)
         exact cF hi (aF rfl rfl g29) rfl (cC 38 _ #[.pointer (some ⟨r, 0, none⟩), aV g.tx, aV x.tx] _ rfl (by simp only [List.map_toArray, List.map_cons, List.map_nil, show A.eval (.tmp 49) = .pointer (some ⟨r, 0, none⟩) from s49, show A.eval (.tmp 51) = aV g.tx from s51, show A.eval (.tmp 53) = aV x.tx from s53]; try rfl) iZ) (CG.out w1 hB)
        ·have g30 : A.tmps.getD 48 undef = .bool false := aB hdeps 23 (by kernel_rfl)
         have s54 : A.tmps.getD 54 undef = .bool true := aB hdeps 29 (by kernel_rfl)
         exact aD hi (aF rfl rfl g30) rfl (y_not (a := true) _ _ s54)
        ·have s48 : A.tmps.getD 48 undef = .bool false := aB hdeps 23 (by kernel_rfl)
         have s55 : A.tmps.getD 55 undef = .bool false := aB hdeps 30 (by kernel_rfl)
         exact aD hi rfl rfl (dB _ _ _ s48 s55)
       ·intro w10 hB10
        simp only [cA, Act.put, List.setIfInBounds_toArray, List.set_cons_succ, List.set_cons_zero]
        have HBd := aA (HB3.out.trans (hB10.mono HB3.out.size))
        have HOd := aA (aJ HO3.out (aC.of_below (fun _ => False) hB10) (fun _ _ h => h))
        have HWd := aA (HWU.out _ hB10)
        have HX7d := aA (HX7q.out _ hB10)
        clear hB10 HX7q HX3q HCL HPR HPR1 CF CG CT CT0 hqk HX7
        go_wp2_with fail
        go_loopw [8] (fun jv V => ∃ j : Nat, j ≤ n ∧ jv = .int .i64 (j : Int) ∧ Hid (∀ m (hm : m < ts.length), m < j → dI l ts[m] x.tx) ∧ Hid (Below w10.heap.size w10 V)) (fun jv _ => n - (intOf jv).toNat)
        case atStart => exact ⟨0, Nat.zero_le _, rfl, aA (fun m _ hm => by omega), aA (Below.refl _ _)⟩
        case round =>
         obtain ⟨j, hjn, rfl, HUP, HBV⟩ := hrel
         have hnk : n ≤ k := HNB.out
         have HWV := aA (HWd.out.trans (HBV.out.mono HWd.out.size))
         have HOV := aA (aJ HOd.out (aC.of_below (fun _ => False) HBV.out) (fun _ _ h => h))
         have HRT := aA (fun V (hV : Below wr.heap.size wr V) => fI x (bE ((HX7d.out.belowI HBV.out).belowI hV)))
         by_cases hjN : j < n
         ·have hjt : j < ts.length := by rw [← HN.out]; exact hjN
          have hltj := fH (j : Int) (n : Int) true (decide_eq_true (by omega))
          have hs := bI.of_own (by rw [← HN.out]; exact HOV.out : wr.ownsRow W1.heap.size 34 3 (.slice ax n cx) ts.length (bR txE3 ts))
          obtain ⟨en, ob, oo, hao, hob, hcj⟩ := hs.at dP.len hjt
          cases hao
          have HRJ : Hid (∀ V, Below wr.heap.size wr V → V.rangeAt ob (oo + j * 3) (txE3 ts[j])) := aA (fun V hV m v hv => (hV.cell (p := ⟨ob, oo + j * 3 + m, none⟩) hob).trans (hcj m v hv))
          have HCJ := aA (fun V (hV : Below wr.heap.size wr V) => HCOL.out V (HWV.out.trans (hV.mono HWV.out.size)) ts[j] (List.getElem_mem hjt))
          have HUX : Hid (dI l ts[j] x.tx → ∀ m (hm : m < ts.length), m < j + 1 → dI l ts[m] x.tx) := aA (fun e m hm hmj => by
           by_cases ej : m = j
           ·subst ej; exact e
           ·exact HUP.out m hm (by omega))
          have HTJ : Hid (NOld l ts[j] x.tx → dI l x.tx ts[j]) := aA (HTO.out ts[j] (List.getElem_mem hjt))
          by_cases hold : dI l ts[j] x.tx
          ·have HUP2 := aA (HUX.out hold)
           have CO : Hid (∀ V, Below wr.heap.size wr V → Calls Tryz.prog 38 #[.pointer (some ⟨r, 0, none⟩), aV ts[j], aV x.tx] V fun e w' => e = .returned (.bool true) ∧ Below V.heap.size V w') := aA (fun V hV => by have := HCJ.out V hV; rw [decide_eq_true hold] at this; exact this)
           clear hold HUX HTJ HCJ hs hcj en hob
           generalize ts[j] = y at *
           go_wp2_with fail
           refine bD (by kernel_rfl) [(57, .int .i64 (j : Int)), (58, .slice (some ⟨ob, oo, none⟩) n cx), (59, .int .i64 (n : Int)), (60, .bool true), (61, .bool true), (62, .pointer (some ⟨r, 0, none⟩)), (63, .slice (some ⟨ob, oo, none⟩) n cx), (64, .int .i64 (j : Int)), (65, .pointer (some ⟨ob, oo + j * 3, none⟩)), (66, aV y), (67, .pointer (some ⟨p7, 0, none⟩)), (68, aV x.tx), (69, .bool true), (70, .bool true)] (by kernel_rfl) rfl ?_ ?_
           ·intro i o hi A w1 hB hold hdeps
            have hlt : i < 14 := (Array.getElem?_eq_some_iff.1 hi).1
            have hc : i = 0 ∨ i = 1 ∨ i = 2 ∨ i = 3 ∨ i = 4 ∨ i = 5 ∨ i = 6 ∨ i = 7 ∨ i = 8 ∨ i = 9 ∨ i = 10 ∨ i = 11 ∨ i = 12 ∨ i = 13 := by omega
            clear hlt
            rcases hc with rfl|rfl|rfl|rfl|rfl|rfl|rfl|rfl|rfl|rfl|rfl|rfl|rfl|rfl <;> obtain rfl := Option.some.inj hi
            ·have s8 : A.tmps.getD 8 undef = .int .i64 (j : Int) := hold 8 (by kernel_rfl)
             exact aD hi rfl rfl (aR _ s8)
            ·have s5 : A.tmps.getD 5 undef = .slice (some ⟨ob, oo, none⟩) n cx := hold 5 (by kernel_rfl)
             exact aD hi rfl rfl (aR _ s5)
            ·have s58 : A.tmps.getD 58 undef = .slice (some ⟨ob, oo, none⟩) n cx := aB hdeps 1 (by kernel_rfl)
             exact aD hi rfl rfl (y_len _ _ s58 Tryz.underlying42)
            ·have s57 : A.tmps.getD 57 undef = .int .i64 (j : Int) := aB hdeps 0 (by kernel_rfl)
             have s59 : A.tmps.getD 59 undef = .int .i64 (n : Int) := aB hdeps 2 (by kernel_rfl)
             exact aD hi rfl rfl (eE _ _ _ _ _ s57 s59 (hltj w1) (by kernel_rfl))
            ·have s60 : A.tmps.getD 60 undef = .bool true := aB hdeps 3 (by kernel_rfl)
             exact aD hi rfl rfl (aR _ s60)
            ·have g5 : A.tmps.getD 61 undef = .bool true := aB hdeps 4 (by kernel_rfl)
             have s0 : A.tmps.getD 0 undef = .pointer (some ⟨r, 0, none⟩) := hold 0 (by kernel_rfl)
             exact aD hi (aM rfl rfl g5) rfl (aR _ s0)
            ·have g6 : A.tmps.getD 61 undef = .bool true := aB hdeps 4 (by kernel_rfl)
             have s5 : A.tmps.getD 5 undef = .slice (some ⟨ob, oo, none⟩) n cx := hold 5 (by kernel_rfl)
             exact aD hi (aM rfl rfl g6) rfl (aR _ s5)
            ·have g7 : A.tmps.getD 61 undef = .bool true := aB hdeps 4 (by kernel_rfl)
             have s8 : A.tmps.getD 8 undef = .int .i64 (j : Int) := hold 8 (by kernel_rfl)
             exact aD hi (aM rfl rfl g7) rfl (aR _ s8)
            ·have g8 : A.tmps.getD 61 undef = .bool true := aB hdeps 4 (by kernel_rfl)
             have s63 : A.tmps.getD 63 undef = .slice (some ⟨ob, oo, none⟩) n cx := aB hdeps 6 (by kernel_rfl)
             have s64 : A.tmps.getD 64 undef = .int .i64 (j : Int) := aB hdeps 7 (by kernel_rfl)
             exact aD hi (aM rfl rfl g8) rfl (yr_idxT _ _ s63 s64 hjN)
            ·have g9 : A.tmps.getD 61 undef = .bool true := aB hdeps 4 (by kernel_rfl)
             have s65 : A.tmps.getD 65 undef = .pointer (some ⟨ob, oo + j * 3, none⟩) := aB hdeps 8 (by kernel_rfl)
             exact aD hi (aM rfl rfl g9) rfl (gG (t := y) _ s65 (HRJ.out w1 hB))
            ·have g10 : A.tmps.getD 61 undef = .bool true := aB hdeps 4 (by kernel_rfl)
             have s7 : A.tmps.getD 7 undef = .pointer (some ⟨p7, 0, none⟩) := hold 7 (by kernel_rfl)
             exact aD hi (aM rfl rfl g10) rfl (iJ _ s7)
            ·have g11 : A.tmps.getD 61 undef = .bool true := aB hdeps 4 (by kernel_rfl)
             have s67 : A.tmps.getD 67 undef = .pointer (some ⟨p7, 0, none⟩) := aB hdeps 10 (by kernel_rfl)
             exact aD hi (aM rfl rfl g11) rfl (gG (t := x.tx) _ s67 (HRT.out w1 hB))
            ·have g12 : A.tmps.getD 61 undef = .bool true := aB hdeps 4 (by kernel_rfl)
             have s62 : A.tmps.getD 62 undef = .pointer (some ⟨r, 0, none⟩) := aB hdeps 5 (by kernel_rfl)
             have s66 : A.tmps.getD 66 undef = aV y := aB hdeps 9 (by kernel_rfl)
             have s68 : A.tmps.getD 68 undef = aV x.tx := aB hdeps 11 (by kernel_rfl)
             exact cF hi (aM rfl rfl g12) rfl (cC 38 _ #[.pointer (some ⟨r, 0, none⟩), aV y, aV x.tx] _ rfl (by simp only [List.map_toArray, List.map_cons, List.map_nil, show A.eval (.tmp 62) = .pointer (some ⟨r, 0, none⟩) from s62, show A.eval (.tmp 66) = aV y from s66, show A.eval (.tmp 68) = aV x.tx from s68]; try rfl) iZ) (CO.out w1 hB)
            ·have s61 : A.tmps.getD 61 undef = .bool true := aB hdeps 4 (by kernel_rfl)
             have s69 : A.tmps.getD 69 undef = .bool true := aB hdeps 12 (by kernel_rfl)
             exact aD hi rfl rfl (dT _ _ _ s61 s69)
           ·intro w11 hB11
            simp only [cA, Act.put, List.setIfInBounds_toArray, List.set_cons_succ, List.set_cons_zero]
            go_wp2_with fail
            go_roundw
            case rel => exact ⟨j + 1, by omega, by first | rfl | go_num, HUP2, aA (HBV.out.trans (hB11.mono HBV.out.size))⟩
            case measure => simp [intOf]; omega
          ·have HPW := aA (aA (ins_old HTP.out HUP.out (fun _ => HTJ.out hold)))
           have CO : Hid (∀ V, Below wr.heap.size wr V → Calls Tryz.prog 38 #[.pointer (some ⟨r, 0, none⟩), aV ts[j], aV x.tx] V fun e w' => e = .returned (.bool false) ∧ Below V.heap.size V w') := aA (fun V hV => by have := HCJ.out V hV; rw [decide_eq_false hold] at this; exact this)
           have HME := aA (aA (HMT2.out j))
           clear hold HUX HTJ HCJ hs hcj en hob
           generalize ts[j] = y at *
           go_wp2_with fail
           refine bD (by kernel_rfl) [(57, .int .i64 (j : Int)), (58, .slice (some ⟨ob, oo, none⟩) n cx), (59, .int .i64 (n : Int)), (60, .bool true), (61, .bool true), (62, .pointer (some ⟨r, 0, none⟩)), (63, .slice (some ⟨ob, oo, none⟩) n cx), (64, .int .i64 (j : Int)), (65, .pointer (some ⟨ob, oo + j * 3, none⟩)), (66, aV y), (67, .pointer (some ⟨p7, 0, none⟩)), (68, aV x.tx), (69, .bool false), (70, .bool false)] (by kernel_rfl) rfl ?_ ?_
           ·intro i o hi A w1 hB hold hdeps
            have hlt : i < 14 := (Array.getElem?_eq_some_iff.1 hi).1
            have hc : i = 0 ∨ i = 1 ∨ i = 2 ∨ i = 3 ∨ i = 4 ∨ i = 5 ∨ i = 6 ∨ i = 7 ∨ i = 8 ∨ i = 9 ∨ i = 10 ∨ i = 11 ∨ i = 12 ∨ i = 13 := by omega
            clear hlt
            rcases hc with rfl|rfl|rfl|rfl|rfl|rfl|rfl|rfl|rfl|rfl|rfl|rfl|rfl|rfl <;> obtain rfl := Option.some.inj hi
            ·have s8 : A.tmps.getD 8 undef = .int .i64 (j : Int) := hold 8 (by kernel_rfl)
             exact aD hi rfl rfl (aR _ s8)
            ·have s5 : A.tmps.getD 5 undef = .slice (some ⟨ob, oo, none⟩) n cx := hold 5 (by kernel_rfl)
             exact aD hi rfl rfl (aR _ s5)
            ·have s58 : A.tmps.getD 58 undef = .slice (some ⟨ob, oo, none⟩) n cx := aB hdeps 1 (by kernel_rfl)
             exact aD hi rfl rfl (y_len _ _ s58 Tryz.underlying42)
            ·have s57 : A.tmps.getD 57 undef = .int .i64 (j : Int) := aB hdeps 0 (by kernel_rfl)
             have s59 : A.tmps.getD 59 undef = .int .i64 (n : Int) := aB hdeps 2 (by kernel_rfl)
             exact aD hi rfl rfl (eE _ _ _ _ _ s57 s59 (hltj w1) (by kernel_rfl))
            ·have s60 : A.tmps.getD 60 undef = .bool true := aB hdeps 3 (by kernel_rfl)
             exact aD hi rfl rfl (aR _ s60)
            ·have g5 : A.tmps.getD 61 undef = .bool true := aB hdeps 4 (by kernel_rfl)
             have s0 : A.tmps.getD 0 undef = .pointer (some ⟨r, 0, none⟩) := hold 0 (by kernel_rfl)
             exact aD hi (aM rfl rfl g5) rfl (aR _ s0)
            ·have g6 : A.tmps.getD 61 undef = .bool true := aB hdeps 4 (by kernel_rfl)
             have s5 : A.tmps.getD 5 undef = .slice (some ⟨ob, oo, none⟩) n cx := hold 5 (by kernel_rfl)
             exact aD hi (aM rfl rfl g6) rfl (aR _ s5)
            ·have g7 : A.tmps.getD 61 undef = .bool true := aB hdeps 4 (by kernel_rfl)
             have s8 : A.tmps.getD 8 undef = .int .i64 (j : Int) := hold 8 (by kernel_rfl)
             exact aD hi (aM rfl rfl g7) rfl (aR _ s8)
            ·have g8 : A.tmps.getD 61 undef = .bool true := aB hdeps 4 (by kernel_rfl)
             have s63 : A.tmps.getD 63 undef = .slice (some ⟨ob, oo, none⟩) n cx := aB hdeps 6 (by kernel_rfl)
             have s64 : A.tmps.getD 64 undef = .int .i64 (j : Int) := aB hdeps 7 (by kernel_rfl)
             exact aD hi (aM rfl rfl g8) rfl (yr_idxT _ _ s63 s64 hjN)
            ·have g9 : A.tmps.getD 61 undef = .bool true := aB hdeps 4 (by kernel_rfl)
             have s65 : A.tmps.getD 65 undef = .pointer (some ⟨ob, oo + j * 3, none⟩) := aB hdeps 8 (by kernel_rfl)
             exact aD hi (aM rfl rfl g9) rfl (gG (t := y) _ s65 (HRJ.out w1 hB))
            ·have g10 : A.tmps.getD 61 undef = .bool true := aB hdeps 4 (by kernel_rfl)
             have s7 : A.tmps.getD 7 undef = .pointer (some ⟨p7, 0, none⟩) := hold 7 (by kernel_rfl)
             exact aD hi (aM rfl rfl g10) rfl (iJ _ s7)
            ·have g11 : A.tmps.getD 61 undef = .bool true := aB hdeps 4 (by kernel_rfl)
             have s67 : A.tmps.getD 67 undef = .pointer (some ⟨p7, 0, none⟩) := aB hdeps 10 (by kernel_rfl)
             exact aD hi (aM rfl rfl g11) rfl (gG (t := x.tx) _ s67 (HRT.out w1 hB))
            ·have g12 : A.tmps.getD 61 undef = .bool true := aB hdeps 4 (by kernel_rfl)
             have s62 : A.tmps.getD 62 undef = .pointer (some ⟨r, 0, none⟩) := aB hdeps 5 (by kernel_rfl)
             have s66 : A.tmps.getD 66 undef = aV y := aB hdeps 9 (by kernel_rfl)
             have s68 : A.tmps.getD 68 undef = aV x.tx := aB hdeps 11 (by kernel_rfl)
             exact cF hi (aM rfl rfl g12) rfl (cC 38 _ #[.pointer (some ⟨r, 0, none⟩), aV y, aV x.tx] _ rfl (by simp only [List.map_toArray, List.map_cons, List.map_nil, show A.eval (.tmp 62) = .pointer (some ⟨r, 0, none⟩) from s62, show A.eval (.tmp 66) = aV y from s66, show A.eval (.tmp 68) = aV x.tx from s68]; try rfl) iZ) (CO.out w1 hB)
            ·have s61 : A.tmps.getD 61 undef = .bool true := aB hdeps 4 (by kernel_rfl)
             have s69 : A.tmps.getD 69 undef = .bool false := aB hdeps 12 (by kernel_rfl)
             exact aD hi rfl rfl (dT _ _ _ s61 s69)
           ·intro w11 hB11
            simp only [cA, Act.put, List.setIfInBounds_toArray, List.set_cons_succ, List.set_cons_zero]
            have HBi := aA (HBd.out.trans ((HBV.out.trans (hB11.mono HBV.out.size)).mono HBd.out.size))
            have HOi := aA (aJ HOV.out (aC.of_below (fun _ => False) hB11) (fun _ _ h => h))
            have HCE : Hid (∀ V, Below w11.heap.size w11 V → V.cell? ⟨p7, 0, none⟩ = some (.int .u8 (x.tx.1 : Int)) ∧ V.cell? ⟨p7, 1, none⟩ = some (.int .u32 (x.tx.2.1 : Int)) ∧ V.cell? ⟨p7, 2, none⟩ = some (.int .u32 (x.tx.2.2 : Int)) ∧ True ∧ True ∧ True) := aA (fun V hV => by
             have h2 := ((HX7d.out.belowI HBV.out).belowI hB11).belowI hV
             exact ⟨h2.cell 0 _ rfl, h2.cell 1 _ rfl, h2.cell 2 _ rfl, trivial, trivial, trivial⟩)
            clear hltj hB11 HRT
            have hs := bI.of_own (by rw [← HN.out]; exact HOi.out : w11.ownsRow W1.heap.size 34 3 (.slice (some ⟨ob, oo, none⟩) n cx) ts.length (bR txE3 ts))
            have hcx : n ≤ cx := by obtain ⟨_, _, e, hle, _⟩ := hs; cases e; exact Nat.le_trans (by rw [HN.out]; exact Nat.le_refl _) hle
            have hto := fun V => gD dP V (some ⟨ob, oo, none⟩) n cx j (by omega)
            have hfr := fun V => fK dP V (some ⟨ob, oo, none⟩) n cx j (by omega)
            obtain ⟨af, haf⟩ : ∃ af, af = if cx = j then ((some ⟨ob, oo, none⟩) : Option Addr) else ((some ⟨ob, oo, none⟩) : Option Addr).map (·.add (j * 3)) := ⟨_, rfl⟩
            rw [← haf] at hfr
            rw [HN.out] at hs
            have hs1 := fL hs dP.len (i := j) (by rw [← HN.out]; omega)
            have hs2 := f7 hs dP.len (i := j) (by rw [← HN.out]; omega)
            rw [← haf, ← HN.out] at hs2
            obtain ⟨l2, hl2⟩ : ∃ l2, l2 = n - j := ⟨_, rfl⟩
            obtain ⟨cc2, hcc2⟩ : ∃ cc2, cc2 = cx - j := ⟨_, rfl⟩
            rw [← hl2, ← hcc2] at hfr hs2
            obtain ⟨a1, n1, c1, wA, a2, n2, c2, wB, a3, n3, c3, wC, q1, hq1, I1⟩ := kH dP w11 _ _ _ _ x.tx #[.int .u8 (x.tx.1 : Int), .int .u32 (x.tx.2.1 : Int), .int .u32 (x.tx.2.2 : Int)] rfl 34 hs1 hs2 kZ (by rw [List.length_take, List.length_drop]; have := HNB.out; have := HN.out; omega)
            obtain ⟨a1', n1', c1', wA', a2', n2', c2', wB', a3', n3', c3', wC', I2⟩ := kI dP w11 _ _ _ _ x.tx #[.int .u8 (x.tx.1 : Int), .int .u32 (x.tx.2.1 : Int), .int .u32 (x.tx.2.2 : Int)] rfl 34 hs1 hs2 kZ (by rw [List.length_take, List.length_drop]; have := HNB.out; have := HN.out; omega)
            subst hq1
            have e1 := I1.r1
            have e2 := I1.r2
            have e3 := I1.r3
            have f1 := I2.r1
            have f2 := I2.r2
            have f3 := I2.r3
            have HO3 := aA (bQ I1.own HBi.out.size)
            have HO3' := aA (bQ I2.own HBi.out.size)
            have HN3 := aA I1.n
            have HN3' := aA I2.n
            have HB3 := aA (HBi.out.trans (I1.b3.mono HBi.out.size))
            have HB3' := aA (HBi.out.trans (I2.b3.mono HBi.out.size))
            rw [if_pos rfl] at e2
            rw [if_neg (by decide)] at f2
            have b1 := I1.b1
            have b2 := I1.b2
            have b3 := I1.b3
            have d1 := I2.b1
            have d2 := I2.b2
            have d3 := I2.b3
            obtain ⟨x00, x01, x02, x03, x04, x05⟩ := HCE.out w11 (Below.refl _ _)
            obtain ⟨x10, x11, x12, x13, x14, x15⟩ := HCE.out wA b1
            obtain ⟨x20, x21, x22, x23, x24, x25⟩ := HCE.out wB b2
            obtain ⟨y10, y11, y12, y13, y14, y15⟩ := HCE.out wA' d1
            obtain ⟨y20, y21, y22, y23, y24, y25⟩ := HCE.out wB' d2
            clear I1 I2 hs hs1 hs2 hl2 hcc2 haf hcx b1 b2 b3 d1 d2 d3
            go_wp2_with fail
            go_region
            all_goals go_wp2_with fail
            all_goals go_roundg gf
            all_goals first
             | (case measure => omega)
             | (case rel => exact ⟨k + 1, n3, ts.take j ++ [x.tx] ++ ts.drop j, a3, c3, by omega, by first | rfl | go_num, by first | rfl | go_num, HN3, aA (by have := HN3.out; have h0 := HNB.out; have h1 := HN.out; simp at this; omega), HPW.out, HME.out, HO3, HB3⟩)
             | (case rel => exact ⟨k + 1, n3', ts.take j ++ [x.tx] ++ ts.drop j, a3', c3', by omega, by first | rfl | go_num, by first | rfl | go_num, HN3', aA (by have := HN3'.out; have h0 := HNB.out; have h1 := HN.out; simp at this; omega), HPW.out, HME.out, HO3', HB3'⟩)
         ·have hltj := fH (j : Int) (n : Int) false (decide_eq_false (by omega))
          have HPW := aA (aA (ins_old HTP.out HUP.out (fun h => by rw [← HN.out] at h; omega)))
          have HME := aA (aA (HMT2.out j))
          go_wp2_with fail
          refine bD (by kernel_rfl) [(57, .int .i64 (j : Int)), (58, .slice ax n cx), (59, .int .i64 (n : Int)), (60, .bool false), (61, .bool false), (62, undef), (63, undef), (64, undef), (65, undef), (66, undef), (67, undef), (68, undef), (69, undef), (70, .bool false)] (by kernel_rfl) rfl ?_ ?_
          ·intro i o hi A w1 hB hold hdeps
           have hlt : i < 14 := (Array.getElem?_eq_some_iff.1 hi).1
           have hc : i = 0 ∨ i = 1 ∨ i = 2 ∨ i = 3 ∨ i = 4 ∨ i = 5 ∨ i = 6 ∨ i = 7 ∨ i = 8 ∨ i = 9 ∨ i = 10 ∨ i = 11 ∨ i = 12 ∨ i = 13 := by omega
           clear hlt
           rcases hc with rfl|rfl|rfl|rfl|rfl|rfl|rfl|rfl|rfl|rfl|rfl|rfl|rfl|rfl <;> obtain rfl := Option.some.inj hi
           ·have s8 : A.tmps.getD 8 undef = .int .i64 (j : Int) := hold 8 (by kernel_rfl)
            exact aD hi rfl rfl (aR _ s8)
           ·have s5 : A.tmps.getD 5 undef = .slice ax n cx := hold 5 (by kernel_rfl)
            exact aD hi rfl rfl (aR _ s5)
           ·have s58 : A.tmps.getD 58 undef = .slice ax n cx := aB hdeps 1 (by kernel_rfl)
            exact aD hi rfl rfl (y_len _ _ s58 Tryz.underlying42)
           ·have s57 : A.tmps.getD 57 undef = .int .i64 (j : Int) := aB hdeps 0 (by kernel_rfl)
            have s59 : A.tmps.getD 59 undef = .int .i64 (n : Int) := aB hdeps 2 (by kernel_rfl)
            exact aD hi rfl rfl (eE _ _ _ _ _ s57 s59 (hltj w1) (by kernel_rfl))
           ·have s60 : A.tmps.getD 60 undef = .bool false := aB hdeps 3 (by kernel_rfl)
            exact aD hi rfl rfl (aR _ s60)
           ·have g5 : A.tmps.getD 61 undef = .bool false := aB hdeps 4 (by kernel_rfl)
            exact aI hi rfl rfl (fun e => absurd (g5.symm.trans e) (by simp)) rfl
           ·have g6 : A.tmps.getD 61 undef = .bool false := aB hdeps 4 (by kernel_rfl)
            exact aI hi rfl rfl (fun e => absurd (g6.symm.trans e) (by simp)) rfl
           ·have g7 : A.tmps.getD 61 undef = .bool false := aB hdeps 4 (by kernel_rfl)
            exact aI hi rfl rfl (fun e => absurd (g7.symm.trans e) (by simp)) rfl
           ·have g8 : A.tmps.getD 61 undef = .bool false := aB hdeps 4 (by kernel_rfl)
            exact aI hi rfl rfl (fun e => absurd (g8.symm.trans e) (by simp)) rfl
           ·have g9 : A.tmps.getD 61 undef = .bool false := aB hdeps 4 (by kernel_rfl)
            exact aI hi rfl rfl (fun e => absurd (g9.symm.trans e) (by simp)) rfl
           ·have g10 : A.tmps.getD 61 undef = .bool false := aB hdeps 4 (by kernel_rfl)
            exact aI hi rfl rfl (fun e => absurd (g10.symm.trans e) (by simp)) rfl
           ·have g11 : A.tmps.getD 61 undef = .bool false := aB hdeps 4 (by kernel_rfl)
            exact aI hi rfl rfl (fun e => absurd (g11.symm.trans e) (by simp)) rfl
           ·have g12 : A.tmps.getD 61 undef = .bool false := aB hdeps 4 (by kernel_rfl)
            exact aI hi rfl rfl (fun e => absurd (g12.symm.trans e) (by simp)) rfl
           ·have s61 : A.tmps.getD 61 undef = .bool false := aB hdeps 4 (by kernel_rfl)
            exact aD hi rfl rfl (dB _ _ _ s61 rfl)
          ·intro w11 hB11
           simp only [cA, Act.put, List.setIfInBounds_toArray, List.set_cons_succ, List.set_cons_zero]
           have HBi := aA (HBd.out.trans ((HBV.out.trans (hB11.mono HBV.out.size)).mono HBd.out.size))
           have HOi := aA (aJ HOV.out (aC.of_below (fun _ => False) hB11) (fun _ _ h => h))
           have HCE : Hid (∀ V, Below w11.heap.size w11 V → V.cell? ⟨p7, 0, none⟩ = some (.int .u8 (x.tx.1 : Int)) ∧ V.cell? ⟨p7, 1, none⟩ = some (.int .u32 (x.tx.2.1 : Int)) ∧ V.cell? ⟨p7, 2, none⟩ = some (.int .u32 (x.tx.2.2 : Int)) ∧ True ∧ True ∧ True) := aA (fun V hV => by
            have h2 := ((HX7d.out.belowI HBV.out).belowI hB11).belowI hV
            exact ⟨h2.cell 0 _ rfl, h2.cell 1 _ rfl, h2.cell 2 _ rfl, trivial, trivial, trivial⟩)
           clear hltj hB11 HRT
           have hs := bI.of_own (by rw [← HN.out]; exact HOi.out : w11.ownsRow W1.heap.size 34 3 (.slice ax n cx) ts.length (bR txE3 ts))
           have hcx : n ≤ cx := by obtain ⟨_, _, e, hle, _⟩ := hs; cases e; exact Nat.le_trans (by rw [HN.out]; exact Nat.le_refl _) hle
           have hto := fun V => gD dP V ax n cx j (by omega)
           have hfr := fun V => fK dP V ax n cx j (by omega)
           obtain ⟨af, haf⟩ : ∃ af, af = if cx = j then ax else ax.map (·.add (j * 3)) := ⟨_, rfl⟩
           rw [← haf] at hfr
           rw [HN.out] at hs
           have hs1 := fL hs dP.len (i := j) (by rw [← HN.out]; omega)
           have hs2 := f7 hs dP.len (i := j) (by rw [← HN.out]; omega)
           rw [← haf, ← HN.out] at hs2
           obtain ⟨l2, hl2⟩ : ∃ l2, l2 = n - j := ⟨_, rfl⟩
           obtain ⟨cc2, hcc2⟩ : ∃ cc2, cc2 = cx - j := ⟨_, rfl⟩
           rw [← hl2, ← hcc2] at hfr hs2
           obtain ⟨a1, n1, c1, wA, a2, n2, c2, wB, a3, n3, c3, wC, q1, hq1, I1⟩ := kH dP w11 _ _ _ _ x.tx #[.int .u8 (x.tx.1 : Int), .int .u32 (x.tx.2.1 : Int), .int .u32 (x.tx.2.2 : Int)] rfl 34 hs1 hs2 kZ (by rw [List.length_take, List.length_drop]; have := HNB.out; have := HN.out; omega)
           obtain ⟨a1', n1', c1', wA', a2', n2', c2', wB', a3', n3', c3', wC', I2⟩ := kI dP w11 _ _ _ _ x.tx #[.int .u8 (x.tx.1 : Int), .int .u32 (x.tx.2.1 : Int), .int .u32 (x.tx.2.2 : Int)] rfl 34 hs1 hs2 kZ (by rw [List.length_take, List.length_drop]; have := HNB.out; have := HN.out; omega)
           subst hq1
           have e1 := I1.r1
           have e2 := I1.r2
           have e3 := I1.r3
           have f1 := I2.r1
           have f2 := I2.r2
           have f3 := I2.r3
           have HO3 := aA (bQ I1.own HBi.out.size)
           have HO3' := aA (bQ I2.own HBi.out.size)
           have HN3 := aA I1.n
           have HN3' := aA I2.n
           have HB3 := aA (HBi.out.trans (I1.b3.mono HBi.out.size))
           have HB3' := aA (HBi.out.trans (I2.b3.mono HBi.out.size))
           rw [if_pos rfl] at e2
           rw [if_neg (by decide)] at f2
           have b1 := I1.b1
           have b2 := I1.b2
           have b3 := I1.b3
           have d1 := I2.b1
           have d2 := I2.b2
           have d3 := I2.b3
           obtain ⟨x00, x01, x02, x03, x04, x05⟩ := HCE.out w11 (Below.refl _ _)
           obtain ⟨x10, x11, x12, x13, x14, x15⟩ := HCE.out wA b1
           obtain ⟨x20, x21, x22, x23, x24, x25⟩ := HCE.out wB b2
           obtain ⟨y10, y11, y12, y13, y14, y15⟩ := HCE.out wA' d1
           obtain ⟨y20, y21, y22, y23, y24, y25⟩ := HCE.out wB' d2
           clear I1 I2 hs hs1 hs2 hl2 hcc2 haf hcx b1 b2 b3 d1 d2 d3
           go_wp2_with fail
           go_region
           all_goals go_wp2_with fail
           all_goals go_roundg gf
           all_goals first
            | (case measure => omega)
            | (case rel => exact ⟨k + 1, n3, ts.take j ++ [x.tx] ++ ts.drop j, a3, c3, by omega, by first | rfl | go_num, by first | rfl | go_num, HN3, aA (by have := HN3.out; have h0 := HNB.out; have h1 := HN.out; simp at this; omega), HPW.out, HME.out, HO3, HB3⟩)
            | (case rel => exact ⟨k + 1, n3', ts.take j ++ [x.tx] ++ ts.drop j, a3', c3', by omega, by first | rfl | go_num, by first | rfl | go_num, HN3', aA (by have := HN3'.out; have h0 := HNB.out; have h1 := HN.out; simp at this; omega), HPW.out, HME.out, HO3', HB3'⟩)
      ·have CG : Hid (∀ V, Below w3.heap.size w3 V → Calls Tryz.prog 38 #[.pointer (some ⟨r, 0, none⟩), aV g.tx, aV x.tx] V fun e w' => e = .returned (.bool false) ∧ Below V.heap.size V w') := aA (fun V hV => by have := HCG.out V hV; rw [decide_eq_false ho] at this; exact this)
       have HSK := aA (HMS.out (HWQ2.out.1 (.inr (.inr (by have h := ho; unfold Old at h; omega)))))
       clear ek hd ho HMS HMT HTOT HXN HWK HWQ2 HCG
       go_wp2_with fail
       refine bD (by kernel_rfl) [(25, .pointer (some ⟨p7, 3, none⟩)), (26, .agg (aK x.key.1)), (27, .pointer (some ⟨p3, 3, none⟩)), (28, .agg (aK g.key.1)), (29, .bool false), (30, .bool false), (31, .agg (bW x)), (32, .agg (bW g)), (33, .bool false), (34, .bool false), (35, .bool false), (36, .pointer (some ⟨r, 0, none⟩)), (37, .pointer (some ⟨r, 0, none⟩)), (38, .pointer (some ⟨r, 0, none⟩)), (39, .slice (some ⟨bL, oL, none⟩) nL cL), (40, .pointer (some ⟨r, 0, none⟩)), (41, .pointer (some ⟨p7, 0, none⟩)), (42, aV x.tx), (43, .int .i64 (kx : Int)), (44, .pointer (some ⟨bL, oL + kx * 5, none⟩)), (45, .pointer (some ⟨bL, oL + kx * 5 + 4, none⟩)), (46, .bool false), (47, .bool false), (48, .bool false), (49, .pointer (some ⟨r, 0, none⟩)), (50, .pointer (some ⟨p3, 0, none⟩)), (51, aV g.tx), (52, .pointer (some ⟨p7, 0, none⟩)), (53, aV x.tx), (54, .bool false), (55, .bool true), (56, .bool true)] (by kernel_rfl) rfl ?_ ?_
       ·intro i o hi A w1 hB hold hdeps
        have hlt : i < 32 := (Array.getElem?_eq_some_iff.1 hi).1
        have hc : i = 0 ∨ i = 1 ∨ i = 2 ∨ i = 3 ∨ i = 4 ∨ i = 5 ∨ i = 6 ∨ i = 7 ∨ i = 8 ∨ i = 9 ∨ i = 10 ∨ i = 11 ∨ i = 12 ∨ i = 13 ∨ i = 14 ∨ i = 15 ∨ i = 16 ∨ i = 17 ∨ i = 18 ∨ i = 19 ∨ i = 20 ∨ i = 21 ∨ i = 22 ∨ i = 23 ∨ i = 24 ∨ i = 25 ∨ i = 26 ∨ i = 27 ∨ i = 28 ∨ i = 29 ∨ i = 30 ∨ i = 31 := by omega
        clear hlt
        rcases hc with rfl|rfl|rfl|rfl|rfl|rfl|rfl|rfl|rfl|rfl|rfl|rfl|rfl|rfl|rfl|rfl|rfl|rfl|rfl|rfl|rfl|rfl|rfl|rfl|rfl|rfl|rfl|rfl|rfl|rfl|rfl|rfl <;> obtain rfl := Option.some.inj hi
        ·have s7 : A.tmps.getD 7 undef = .pointer (some ⟨p7, 0, none⟩) := hold 7 (by kernel_rfl)
         exact aD hi rfl rfl (fG _ s7)
        ·have s25 : A.tmps.getD 25 undef = .pointer (some ⟨p7, 3, none⟩) := aB hdeps 0 (by kernel_rfl)
         exact aD hi rfl rfl (fQ (k := x.key) _ s25 (by simpa using cT x (bE (HX7q.out w1 hB))))
        ·have s3 : A.tmps.getD 3 undef = .pointer (some ⟨p3, 0, none⟩) := hold 3 (by kernel_rfl)
         exact aD hi rfl rfl (fG _ s3)
        ·have s27 : A.tmps.getD 27 undef = .pointer (some ⟨p3, 3, none⟩) := aB hdeps 2 (by kernel_rfl)
         exact aD hi rfl rfl (fQ (k := g.key) _ s27 (by simpa using cT g (bE (HX3q.out w1 hB))))
        ·have s26 : A.tmps.getD 26 undef = .agg (aK x.key.1) := aB hdeps 1 (by kernel_rfl)
         have s28 : A.tmps.getD 28 undef = .agg (aK g.key.1) := aB hdeps 3 (by kernel_rfl)
         exact aD hi rfl rfl (eE _ _ _ _ _ s26 s28 (hqk w1) (by kernel_rfl))
        ·have s29 : A.tmps.getD 29 undef = .bool false := aB hdeps 4 (by kernel_rfl)
         exact aD hi rfl rfl (aR _ s29)
        ·have g6 : A.tmps.getD 30 undef = .bool false := aB hdeps 5 (by kernel_rfl)
         have s7 : A.tmps.getD 7 undef = .pointer (some ⟨p7, 0, none⟩) := hold 7 (by kernel_rfl)
         exact aD hi (aF rfl rfl g6) rfl (f9 (g := x) _ s7 (bE (HX7q.out w1 hB)))
        ·have g7 : A.tmps.getD 30 undef = .bool false := aB hdeps 5 (by kernel_rfl)
         have s3 : A.tmps.getD 3 undef = .pointer (some ⟨p3, 0, none⟩) := hold 3 (by kernel_rfl)
         exact aD hi (aF rfl rfl g7) rfl (f9 (g := g) _ s3 (bE (HX3q.out w1 hB)))
        ·have g8 : A.tmps.getD 30 undef = .bool false := aB hdeps 5 (by kernel_rfl)
         have s31 : A.tmps.getD 31 undef = .agg (bW x) := aB hdeps 6 (by kernel_rfl)
         have s32 : A.tmps.getD 32 undef = .agg (bW g) := aB hdeps 7 (by kernel_rfl)
         exact cF hi (aF rfl rfl g8) rfl (cC 85 _ #[.agg (bW x), .agg (bW g)] _ rfl (by simp only [List.map_toArray, List.map_cons, List.map_nil, show A.eval (.tmp 31) = .agg (bW x) from s31, show A.eval (.tmp 32) = .agg (bW g) from s32]; try rfl) en_togR) (CT.out w1)
        ·have s30 : A.tmps.getD 30 undef = .bool false := aB hdeps 5 (by kernel_rfl)
         have s33 : A.tmps.getD 33 undef = .bool false := aB hdeps 8 (by kernel_rfl)
         exact aD hi rfl rfl (dB _ _ _ s30 s33)
        ·have s34 : A.tmps.getD 34 undef = .bool false := aB hdeps 9 (by kernel_rfl)
         exact aD hi rfl rfl (aR _ s34)
        ·have g11 : A.tmps.getD 35 undef = .bool false := aB hdeps 10 (by kernel_rfl)
         have s0 : A.tmps.getD 0 undef = .pointer (some ⟨r, 0, none⟩) := hold 0 (by kernel_rfl)
         exact aD hi (aF rfl rfl g11) rfl (aR _ s0)
        ·have g12 : A.tmps.getD 35 undef = .bool false := aB hdeps 10 (by kernel_rfl)
         have s36 : A.tmps.getD 36 undef = .pointer (some ⟨r, 0, none⟩) := aB hdeps 11 (by kernel_rfl)
         exact aD hi (aF rfl rfl g12) rfl (dY _ s36)
        ·have g13 : A.tmps.getD 35 undef = .bool false := aB hdeps 10 (by kernel_rfl)
         have s37 : A.tmps.getD 37 undef = .pointer (some ⟨r, 0, none⟩) := aB hdeps 12 (by kernel_rfl)
         exact aD hi (aF rfl rfl g13) rfl (gV _ s37)
        ·have g14 : A.tmps.getD 35 undef = .bool false := aB hdeps 10 (by kernel_rfl)
         have s38 : A.tmps.getD 38 undef = .pointer (some ⟨r, 0, none⟩) := aB hdeps 13 (by kernel_rfl)
         exact aD hi (aF rfl rfl g14) rfl (eY _ s38 (HCL.out w1 hB))
        ·have g15 : A.tmps.getD 35 undef = .bool false := aB hdeps 10 (by kernel_rfl)
         have s0 : A.tmps.getD 0 undef = .pointer (some ⟨r, 0, none⟩) := hold 0 (by kernel_rfl)
         exact aD hi (aF rfl rfl g15) rfl (aR _ s0)
        ·have g16 : A.tmps.getD 35 undef = .bool false := aB hdeps 10 (by kernel_rfl)
         have s7 : A.tmps.getD 7 undef = .pointer (some ⟨p7, 0, none⟩) := hold 7 (by kernel_rfl)
         exact aD hi (aF rfl rfl g16) rfl (iJ _ s7)
        ·have g17 : A.tmps.getD 35 undef = .bool false := aB hdeps 10 (by kernel_rfl)
         have s41 : A.tmps.getD 41 undef = .pointer (some ⟨p7, 0, none⟩) := aB hdeps 16 (by kernel_rfl)
         exact aD hi (aF rfl rfl g17) rfl (gG (t := x.tx) _ s41 (fI x (bE (HX7q.out w1 hB))))
        ·have g18 : A.tmps.getD 35 undef = .bool false := aB hdeps 10 (by kernel_rfl)
         have s40 : A.tmps.getD 40 undef = .pointer (some ⟨r, 0, none⟩) := aB hdeps 15 (by kernel_rfl)
         have s42 : A.tmps.getD 42 undef = aV x.tx := aB hdeps 17 (by kernel_rfl)
         exact cF hi (aF rfl rfl g18) rfl (cC 41 _ #[.pointer (some ⟨r, 0, none⟩), aV x.tx] _ rfl (by simp only [List.map_toArray, List.map_cons, List.map_nil, show A.eval (.tmp 40) = .pointer (some ⟨r, 0, none⟩) from s40, show A.eval (.tmp 42) = aV x.tx from s42]; try rfl) en_findR) (CF.out w1 hB)
        ·have g19 : A.tmps.getD 35 undef = .bool false := aB hdeps 10 (by kernel_rfl)
         have s39 : A.tmps.getD 39 undef = .slice (some ⟨bL, oL, none⟩) nL cL := aB hdeps 14 (by kernel_rfl)
         have s43 : A.tmps.getD 43 undef = .int .i64 (kx : Int) := aB hdeps 18 (by kernel_rfl)
         exact aD hi (aF rfl rfl g19) rfl (k9 _ _ s39 s43 hkx)
        ·have g20 : A.tmps.getD 35 undef = .bool false := aB hdeps 10 (by kernel_rfl)
         have s44 : A.tmps.getD 44 undef = .pointer (some ⟨bL, oL + kx * 5, none⟩) := aB hdeps 19 (by kernel_rfl)
         exact aD hi (aF rfl rfl g20) rfl (yr_us1 _ s44)
        ·have g21 : A.tmps.getD 35 undef = .bool false := aB hdeps 10 (by kernel_rfl)
         have s45 : A.tmps.getD 45 undef = .pointer (some ⟨bL, oL + kx * 5 + 4, none⟩) := aB hdeps 20 (by kernel_rfl)
         exact aD hi (aF rfl rfl g21) rfl (yc_bool _ s45 (HPR.out w1 hB))
        ·have s35 : A.tmps.getD 35 undef = .bool false := aB hdeps 10 (by kernel_rfl)
         have s46 : A.tmps.getD 46 undef = .bool false := aB hdeps 21 (by kernel_rfl)
         exact aD hi rfl rfl (dB _ _ _ s35 s46)
        ·have s47 : A.tmps.getD 47 undef = .bool false := aB hdeps 22 (by kernel_rfl)
         exact aD hi rfl rfl (aR _ s47)
        ·have g24 : A.tmps.getD 48 undef = .bool false := aB hdeps 23 (by kernel_rfl)
         have s0 : A.tmps.getD 0 undef = .pointer (some ⟨r, 0, none⟩) := hold 0 (by kernel_rfl)
         exact aD hi (aF rfl rfl g24) rfl (aR _ s0)
        ·have g25 : A.tmps.getD 48 undef = .bool false := aB hdeps 23 (by kernel_rfl)
         have s3 : A.tmps.getD 3 undef = .pointer (some ⟨p3, 0, none⟩) := hold 3 (by kernel_rfl)
         exact aD hi (aF rfl rfl g25) rfl (iJ _ s3)
        ·have g26 : A.tmps.getD 48 undef = .bool false := aB hdeps 23 (by kernel_rfl)
         have s50 : A.tmps.getD 50 undef = .pointer (some ⟨p3, 0, none⟩) := aB hdeps 25 (by kernel_rfl)
         exact aD hi (aF rfl rfl g26) rfl (gG (t := g.tx) _ s50 (fI g (bE (HX3q.out w1 hB))))
        ·have g27 : A.tmps.getD 48 undef = .bool false := aB hdeps 23 (by kernel_rfl)
         have s7 : A.tmps.getD 7 undef = .pointer (some ⟨p7, 0, none⟩) := hold 7 (by kernel_rfl)
         exact aD hi (aF rfl rfl g27) rfl (iJ _ s7)
        ·have g28 : A.tmps.getD 48 undef = .bool false := aB hdeps 23 (by kernel_rfl)
         have s52 : A.tmps.getD 52 undef = .pointer (some ⟨p7, 0, none⟩) := aB hdeps 27 (by kernel_rfl)
         exact aD hi (aF rfl rfl g28) rfl (gG (t := x.tx) _ s52 (fI x (bE (HX7q.out w1 hB))))
        ·have g29 : A.tmps.getD 48 undef = .bool false := aB hdeps 23 (by kernel_rfl)
         have s49 : A.tmps.getD 49 undef = .pointer (some ⟨r, 0, none⟩) := aB hdeps 24 (by kernel_rfl)
         have s51 : A.tmps.getD 51 undef = aV g.tx := aB hdeps 26 (by kernel_rfl)
         have s53 : A.tmps.getD 53 undef = aV x.tx := aB hdeps 28 (by kernel_rfl)
         exact cF hi (aF rfl rfl g29) rfl (cC 38 _ #[.pointer (some ⟨r, 0, none⟩), aV g.tx, aV x.tx] _ rfl (by simp only [List.map_toArray, List.map_cons, List.map_nil, show A.eval (.tmp 49) = .pointer (some ⟨r, 0, none⟩) from s49, show A.eval (.tmp 51) = aV g.tx from s51, show A.eval (.tmp 53) = aV x.tx from s53]; try rfl) iZ) (CG.out w1 hB)
        ·have g30 : A.tmps.getD 48 undef = .bool false := aB hdeps 23 (by kernel_rfl)
         have s54 : A.tmps.getD 54 undef = .bool false := aB hdeps 29 (by kernel_rfl)
         exact aD hi (aF rfl rfl g30) rfl (y_not (a := false) _ _ s54)
        ·have s48 : A.tmps.getD 48 undef = .bool false := aB hdeps 23 (by kernel_rfl)
         have s55 : A.tmps.getD 55 undef = .bool true := aB hdeps 30 (by kernel_rfl)
         exact aD hi rfl rfl (dB _ _ _ s48 s55)
       ·intro w10 hB10
        simp only [cA, Act.put, List.setIfInBounds_toArray, List.set_cons_succ, List.set_cons_zero]
        have HF := aA (HB3.out.trans (hB10.mono HB3.out.size))
        have HO2 := aA (aJ HO3.out (aC.of_below (fun _ => False) hB10) (fun _ _ h => h))
        go_wp2_with fail
        go_roundg gf
        case measure => omega
        case rel => exact ⟨k + 1, n, ts, ax, cx, by omega, by first | rfl | go_num, by first | rfl | go_num, HN, aA (by have := HNB.out; omega), HTP, HSK, HO2, HF⟩
   ·have hd : (!decide (x.key = g.key)) = true := by simp [ek]
    rw [hd] at hqk
    have HSK := aA (HMS.out (HWK.out ek))
    clear ek hd HMS HMT HTOT HXN HWK HWQ2
    go_wp2_with fail
    refine bD (by kernel_rfl) [(25, .pointer (some ⟨p7, 3, none⟩)), (26, .agg (aK x.key.1)), (27, .pointer (some ⟨p3, 3, none⟩)), (28, .agg (aK g.key.1)), (29, .bool true), (30, .bool true), (31, undef), (32, undef), (33, undef), (34, .bool true), (35, .bool true), (36, undef), (37, undef), (38, undef), (39, undef), (40, undef), (41, undef), (42, undef), (43, undef), (44, undef), (45, undef), (46, undef), (47, .bool true), (48, .bool true), (49, undef), (50, undef), (51, undef), (52, undef), (53, undef), (54, undef), (55, undef), (56, .bool true)] (by kernel_rfl) rfl ?_ ?_
    ·intro i o hi A w1 hB hold hdeps
     have hlt : i < 32 := (Array.getElem?_eq_some_iff.1 hi).1
     have hc : i = 0 ∨ i = 1 ∨ i = 2 ∨ i = 3 ∨ i = 4 ∨ i = 5 ∨ i = 6 ∨ i = 7 ∨ i = 8 ∨ i = 9 ∨ i = 10 ∨ i = 11 ∨ i = 12 ∨ i = 13 ∨ i = 14 ∨ i = 15 ∨ i = 16 ∨ i = 17 ∨ i = 18 ∨ i = 19 ∨ i = 20 ∨ i = 21 ∨ i = 22 ∨ i = 23 ∨ i = 24 ∨ i = 25 ∨ i = 26 ∨ i = 27 ∨ i = 28 ∨ i = 29 ∨ i = 30 ∨ i = 31 := by omega
     clear hlt
     rcases hc with rfl|rfl|rfl|rfl|rfl|rfl|rfl|rfl|rfl|rfl|rfl|rfl|rfl|rfl|rfl|rfl|rfl|rfl|rfl|rfl|rfl|rfl|rfl|rfl|rfl|rfl|rfl|rfl|rfl|rfl|rfl|rfl <;> obtain rfl := Option.some.inj hi
     ·have s7 : A.tmps.getD 7 undef = .pointer (some ⟨p7, 0, none⟩) := hold 7 (by kernel_rfl)
      exact aD hi rfl rfl (fG _ s7)
     ·have s25 : A.tmps.getD 25 undef = .pointer (some ⟨p7, 3, none⟩) := aB hdeps 0 (by kernel_rfl)
      exact aD hi rfl rfl (fQ (k := x.key) _ s25 (by simpa using cT x (bE (HX7q.out w1 hB))))
     ·have s3 : A.tmps.getD 3 undef = .pointer (some ⟨p3, 0, none⟩) := hold 3 (by kernel_rfl)
      exact aD hi rfl rfl (fG _ s3)
     ·have s27 : A.tmps.getD 27 undef = .pointer (some ⟨p3, 3, none⟩) := aB hdeps 2 (by kernel_rfl)
      exact aD hi rfl rfl (fQ (k := g.key) _ s27 (by simpa using cT g (bE (HX3q.out w1 hB))))
     ·have s26 : A.tmps.getD 26 undef = .agg (aK x.key.1) := aB hdeps 1 (by kernel_rfl)
      have s28 : A.tmps.getD 28 undef = .agg (aK g.key.1) := aB hdeps 3 (by kernel_rfl)
      exact aD hi rfl rfl (eE _ _ _ _ _ s26 s28 (hqk w1) (by kernel_rfl))
     ·have s29 : A.tmps.getD 29 undef = .bool true := aB hdeps 4 (by kernel_rfl)
      exact aD hi rfl rfl (aR _ s29)
     ·have g6 : A.tmps.getD 30 undef = .bool true := aB hdeps 5 (by kernel_rfl)
      exact aI hi rfl rfl (fun e => absurd (g6.symm.trans e) (by simp)) rfl
     ·have g7 : A.tmps.getD 30 undef = .bool true := aB hdeps 5 (by kernel_rfl)
      exact aI hi rfl rfl (fun e => absurd (g7.symm.trans e) (by simp)) rfl
     ·have g8 : A.tmps.getD 30 undef = .bool true := aB hdeps 5 (by kernel_rfl)
      exact aI hi rfl rfl (fun e => absurd (g8.symm.trans e) (by simp)) rfl
     ·have s30 : A.tmps.getD 30 undef = .bool true := aB hdeps 5 (by kernel_rfl)
      exact aD hi rfl rfl (dT _ _ _ s30 rfl)
     ·have s34 : A.tmps.getD 34 undef = .bool true := aB hdeps 9 (by kernel_rfl)
      exact aD hi rfl rfl (aR _ s34)
     ·have g11 : A.tmps.getD 35 undef = .bool true := aB hdeps 10 (by kernel_rfl)
      exact aI hi rfl rfl (fun e => absurd (g11.symm.trans e) (by simp)) rfl
     ·have g12 : A.tmps.getD 35 undef = .bool true := aB hdeps 10 (by kernel_rfl)
      exact aI hi rfl rfl (fun e => absurd (g12.symm.trans e) (by simp)) rfl
     ·have g13 : A.tmps.getD 35 undef = .bool true := aB hdeps 10 (by kernel_rfl)
      exact aI hi rfl rfl (fun e => absurd (g13.symm.trans e) (by simp)) rfl
     ·have g14 : A.tmps.getD 35 undef = .bool true := aB hdeps 10 (by kernel_rfl)
      exact aI hi rfl rfl (fun e => absurd (g14.symm.trans e) (by simp)) rfl
     ·have g15 : A.tmps.getD 35 undef = .bool true := aB hdeps 10 (by kernel_rfl)
      exact aI hi rfl rfl (fun e => absurd (g15.symm.trans e) (by simp)) rfl
     ·have g16 : A.tmps.getD 35 undef = .bool true := aB hdeps 10 (by kernel_rfl)
      exact aI hi rfl rfl (fun e => absurd (g16.symm.trans e) (by simp)) rfl
     ·have g17 : A.tmps.getD 35 undef = .bool true := aB hdeps 10 (by kernel_rfl)
      exact aI hi rfl rfl (fun e => absurd (g17.symm.trans e) (by simp)) rfl
     ·have g18 : A.tmps.getD 35 undef = .bool true := aB hdeps 10 (by kernel_rfl)
      exact aI hi rfl rfl (fun e => absurd (g18.symm.trans e) (by simp)) rfl
     ·have g19 : A.tmps.getD 35 undef = .bool true := aB hdeps 10 (by kernel_rfl)
      exact aI hi rfl rfl (fun e => absurd (g19.symm.trans e) (by simp)) rfl
     ·have g20 : A.tmps.getD 35 undef = .bool true := aB hdeps 10 (by kernel_rfl)
      exact aI hi rfl rfl (fun e => absurd (g20.symm.trans e) (by simp)) rfl
     ·have g21 : A.tmps.getD 35 undef = .bool true := aB hdeps 10 (by kernel_rfl)
      exact aI hi rfl rfl (fun e => absurd (g21.symm.trans e) (by simp)) rfl
     ·have s35 : A.tmps.getD 35 undef = .bool true := aB hdeps 10 (by kernel_rfl)
      exact aD hi rfl rfl (dT _ _ _ s35 rfl)
     ·have s47 : A.tmps.getD 47 undef = .bool true := aB hdeps 22 (by kernel_rfl)
      exact aD hi rfl rfl (aR _ s47)
     ·have g24 : A.tmps.getD 48 undef = .bool true := aB hdeps 23 (by kernel_rfl)
      exact aI hi rfl rfl (fun e => absurd (g24.symm.trans e) (by simp)) rfl
     ·have g25 : A.tmps.getD 48 undef = .bool true := aB hdeps 23 (by kernel_rfl)
      exact aI hi rfl rfl (fun e => absurd (g25.symm.trans e) (by simp)) rfl
     ·have g26 : A.tmps.getD 48 undef = .bool true := aB hdeps 23 (by kernel_rfl)
      exact aI hi rfl rfl (fun e => absurd (g26.symm.trans e) (by simp)) rfl
     ·have g27 : A.tmps.getD 48 undef = .bool true := aB hdeps 23 (by kernel_rfl)
      exact aI hi rfl rfl (fun e => absurd (g27.symm.trans e) (by simp)) rfl
     ·have g28 : A.tmps.getD 48 undef = .bool true := aB hdeps 23 (by kernel_rfl)
      exact aI hi rfl rfl (fun e => absurd (g28.symm.trans e) (by simp)) rfl
     ·have g29 : A.tmps.getD 48 undef = .bool true := aB hdeps 23 (by kernel_rfl)
      exact aI hi rfl rfl (fun e => absurd (g29.symm.trans e) (by simp)) rfl
     ·have g30 : A.tmps.getD 48 undef = .bool true := aB hdeps 23 (by kernel_rfl)
      exact aI hi rfl rfl (fun e => absurd (g30.symm.trans e) (by simp)) rfl
     ·have s48 : A.tmps.getD 48 undef = .bool true := aB hdeps 23 (by kernel_rfl)
      exact aD hi rfl rfl (dT _ _ _ s48 rfl)
    ·intro w10 hB10
     simp only [cA, Act.put, List.setIfInBounds_toArray, List.set_cons_succ, List.set_cons_zero]
     have HF := aA (HB3.out.trans (hB10.mono HB3.out.size))
     have HO2 := aA (aJ HO3.out (aC.of_below (fun _ => False) hB10) (fun _ _ h => h))
     go_wp2_with fail
     go_roundg gf
     case measure => omega
     case rel => exact ⟨k + 1, n, ts, ax, cx, by omega, by first | rfl | go_num, by first | rfl | go_num, HN, aA (by have := HNB.out; omega), HTP, HSK, HO2, HF⟩
end
end Go.Proofs.YtiloagmkkhlfjaaGreat
