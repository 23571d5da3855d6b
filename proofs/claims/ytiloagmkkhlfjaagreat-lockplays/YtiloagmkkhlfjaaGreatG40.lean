/-
  Own texts put together: LrQue. Own work.
-/
import Derived.Test.YtiloagmkkhlfjaaGreatG35
namespace Go.Proofs.YtiloagmkkhlfjaaGreat
section
open Go.RowKit Go.Maps Classical
theorem ins_old {l : List (aS KeyT)} {ts : List TxN} (h : ts.Pairwise (dI l)) {t : TxN} {j : Nat} (h1 : ∀ m (hm : m < ts.length), m < j → dI l ts[m] t) (h2 : ∀ h : j < ts.length, dI l t ts[j]) : (ts.take j ++ [t] ++ ts.drop j).Pairwise (dI l) := by
 have hp := List.pairwise_iff_getElem.1 h
 have hlt : ∀ x ∈ ts.take j, dI l x t := fun x hx => by
  obtain ⟨m, hm, rfl⟩ := List.getElem_of_mem hx
  rw [List.length_take] at hm
  rw [List.getElem_take]
  exact h1 m (by omega) (by omega)
 have hgt : ∀ x ∈ ts.drop j, dI l t x := fun x hx => by
  obtain ⟨m, hm, rfl⟩ := List.getElem_of_mem hx
  rw [List.length_drop] at hm
  rw [List.getElem_drop]
  rcases Nat.eq_zero_or_pos m with e | e
  ·subst e; exact h2 (by omega)
  ·exact (h2 (by omega)).trans (hp j (j + m) (by omega) (by omega) (by omega))
 refine List.pairwise_append.2 ⟨List.pairwise_append.2 ⟨h.sublist (List.take_sublist _ _), List.pairwise_singleton _ _, fun a ha b hb => ?_⟩, h.sublist (List.drop_sublist _ _), fun a ha b hb => ?_⟩
 ·rw [List.mem_singleton] at hb; subst hb; exact hlt a ha
 ·rcases List.mem_append.1 ha with ha | ha
  ·exact (hlt a ha).trans (hgt b hb)
  ·rw [List.mem_singleton] at ha; subst ha; exact hgt b hb
theorem ins_memR {ts : List TxN} {t x : TxN} (j : Nat) : x ∈ ts.take j ++ [t] ++ ts.drop j ↔ x ∈ ts ∨ x = t := by
 have e : x ∈ ts ↔ x ∈ ts.take j ∨ x ∈ ts.drop j := by rw [← List.mem_append, List.take_append_drop]
 rw [e, List.mem_append, List.mem_append, List.mem_singleton]
 constructor
 ·rintro ((h | h) | h)
  ·exact .inl (.inl h)
  ·exact .inr h
  ·exact .inl (.inr h)
 ·rintro ((h | h) | h)
  ·exact .inl (.inl h)
  ·exact .inr h
  ·exact .inl (.inr h)
def NOld (l : List (aS KeyT)) (a b : TxN) : Prop := ¬ dI l a b
theorem tx_row {ts : List TxN} : bV (ts.map txI) = bR txE3 ts := by
 unfold bV bR
 rw [List.flatMap_map]
attribute [local go_sem ↓] iW
set_option maxRecDepth 100000 in
set_option maxHeartbeats 12800000 in
theorem rque_any15 (r : Nat) (vL vH vW : Value) (L : List UsR) (l : List (aS KeyT)) (H W : List (cD KeyT)) (kk : KeyT) (w : World) (h : iU w r vL vH vW L H W) (hr : eF l L H W) (hb : dD l) (hfew : W.length ≤ 10000) :
  Calls Tryz.prog 16 #[.pointer (some ⟨r, 0, none⟩), .agg (aK kk.1)] w fun e w' => ∃ v, e = .returned v ∧ w'.ownsRow w.heap.size 34 3 v (cS l kk).length (bV ((cS l kk).map txI)) ∧ Below w.heap.size w w' := by
 obtain rfl := hr.us
 have hA0 := aE w (.cells #[.int .u8 (aZ kk.1 0), .int .u8 (aZ kk.1 1), .int .u8 (aZ kk.1 2), .int .u8 (aZ kk.1 3), .int .u8 (aZ kk.1 4), .int .u8 (aZ kk.1 5), .int .u8 (aZ kk.1 6), .int .u8 (aZ kk.1 7)] 38)
 have hB0 := hA0
 have HXp3 : Hid (bZ (w.alloc (.cells #[.int .u8 (aZ kk.1 0), .int .u8 (aZ kk.1 1), .int .u8 (aZ kk.1 2), .int .u8 (aZ kk.1 3), .int .u8 (aZ kk.1 4), .int .u8 (aZ kk.1 5), .int .u8 (aZ kk.1 6), .int .u8 (aZ kk.1 7)] 38)) (w.heap.size) #[.int .u8 (aZ kk.1 0), .int .u8 (aZ kk.1 1), .int .u8 (aZ kk.1 2), .int .u8 (aZ kk.1 3), .int .u8 (aZ kk.1 4), .int .u8 (aZ kk.1 5), .int .u8 (aZ kk.1 6), .int .u8 (aZ kk.1 7)] 38) := aA (by have := aN w #[.int .u8 (aZ kk.1 0), .int .u8 (aZ kk.1 1), .int .u8 (aZ kk.1 2), .int .u8 (aZ kk.1 3), .int .u8 (aZ kk.1 4), .int .u8 (aZ kk.1 5), .int .u8 (aZ kk.1 6), .int .u8 (aZ kk.1 7)] 38; simpa using this)
 obtain ⟨W1, hw1⟩ : ∃ W1, W1 = (w.alloc (.cells #[.int .u8 (aZ kk.1 0), .int .u8 (aZ kk.1 1), .int .u8 (aZ kk.1 2), .int .u8 (aZ kk.1 3), .int .u8 (aZ kk.1 4), .int .u8 (aZ kk.1 5), .int .u8 (aZ kk.1 6), .int .u8 (aZ kk.1 7)] 38)) := ⟨_, rfl⟩
 obtain ⟨p3, hp3⟩ : ∃ p3, p3 = w.heap.size := ⟨_, rfl⟩
 rw [← hw1] at HXp3 hB0
 rw [← hp3] at HXp3
 have HW1 := aA hw1
 have HEp3 := aA hp3
 have HB := aA hB0
 have HNp3 : Hid (w.heap.size ≤ p3 ∧ p3 < W1.heap.size) := aA ⟨by omega, HXp3.out.lt⟩
 clear hw1 hA0 hB0 hp3
 have HR := aA (h.below HB.out)
 obtain ⟨aW, cap, hvW, hcap, _⟩ := HR.out.sW.shape
 subst hvW
 obtain ⟨N, hN⟩ : ∃ N, N = W.length := ⟨_, rfl⟩
 have HL := aA hN
 have HC1 : Hid (∀ V, Below W1.heap.size W1 V → V.cell? ⟨r, 2, none⟩ = some (.slice aW N cap)) := aA (fun V hV => by rw [hN]; exact (HR.out.below hV).c2)
 have HSW : Hid (bI gtE W1 (.slice aW N cap) W) := aA (by rw [hN]; exact HR.out.sW)
 have HRP := aA hr
 have HLB := aA hb
 rw [← hN] at hfew
 have HQU : Hid (∀ ts : List TxN, ts.Pairwise (dI l) → (∀ t, t ∈ ts ↔ ∃ j, ∃ hj : j < W.length, j < N ∧ W[j].key = kk ∧ W[j].tx = t) → ts = cS l kk) := aA (fun ts h1 h2 => iQ h1 (j8 hb kk) (fun t => by
  rw [h2, fC]
  constructor
  ·rintro ⟨j, hj, _, e1, e2⟩
   obtain ⟨h3, h4, h5, h6⟩ := hr.w.got hb (List.getElem_mem hj)
   exact ⟨_, h3, by rw [← e1, h5]; exact h6, by rw [h4, e2]⟩
  ·rintro ⟨u, hu, hw, rfl⟩
   obtain ⟨j, hj, e⟩ := List.getElem_of_mem ((hr.w.m u.tx kk (u.w kk)).2 ⟨hw, u, hu, rfl, rfl⟩)
   exact ⟨j, hj, by omega, by rw [e], by rw [e]⟩))
 clear h hr hb hN hcap
 go_enter Tryz.func16, Tryz.ntmps16
 go_wp2_with fail
 rw [← HW1.out, ← HEp3.out]
 go_loopg [5, 6] N (fun gf o i wr => ∃ (k n : Nat) (ts : List TxN) (ax : Option Addr) (cx : Nat), k + gf = N ∧ o = .slice ax n cx ∧ i = .int .i64 (k : Int) ∧ Hid (n = ts.length) ∧ Hid (n ≤ k) ∧ Hid (ts.Pairwise (dI l)) ∧ Hid (∀ t, t ∈ ts ↔ ∃ j, ∃ hj : j < W.length, j < k ∧ W[j].key = kk ∧ W[j].tx = t) ∧ Hid (wr.ownsRow W1.heap.size 34 3 (.slice ax n cx) n (bR txE3 ts)) ∧ Hid (Below W1.heap.size W1 wr))
 case atStart => exact ⟨0, 0, [], none, 0, by omega, rfl, rfl, aA rfl, aA (Nat.le_refl _), aA List.Pairwise.nil, aA (fun t => ⟨fun h => (by cases h), fun ⟨j, _, h, _⟩ => (by omega)⟩), aA (World.ownsRow_nil _ _ _ _), aA (Below.refl _ _)⟩
 case round =>
  obtain ⟨k, n, ts, ax, cx, hk, rfl, rfl, HN, HNB, HTP, HTM, HO, HBr⟩ := hrel
  have m1 := HC1.out wr HBr.out
  cases gk with
  | zero =>
   obtain rfl : k = N := by omega
   have hz : ¬ ((k : Int) < (k : Int)) := by omega
   have HE := aA (HQU.out ts HTP.out HTM.out)
   go_wp2_with fail
   go_ret
   refine ⟨_, rfl, ?_, HB.out.trans (HBr.out.mono HB.out.size)⟩
   rw [← HE.out, tx_row, ← HN.out]
   exact bQ HO.out HB.out.size
  | succ gf =>
   have hkN : k < N := by omega
   have hkI : (k : Int) < (N : Int) := by omega
   have hkn : k < W.length := by rw [← HL.out]; exact hkN
   have HBq := aA (fun m => HBr.out.trans ((aU wr m).mono HBr.out.size))
   obtain ⟨en, b, off, hao, hbl, hc⟩ := (HSW.out.below HBr.out).at dJ.len hkn
   cases hao
   have r3 := hc 3 _ rfl
   have r4 := hc 4 _ rfl
   have r5 := hc 5 _ rfl
   have r6 := hc 6 _ rfl
   have r7 := hc 7 _ rfl
   have r8 := hc 8 _ rfl
   have r9 := hc 9 _ rfl
   have r10 := hc 10 _ rfl
   have HRT0 : Hid (∀ V, Below wr.heap.size wr V → V.rangeAt b (off + k * 12) (txE3 W[k].tx)) := aA (fun V hV => fI W[k] (fun j v hv => (hV.cell (p := ⟨b, off + k * 12 + j, none⟩) hbl).trans (hc j v hv)))
   obtain ⟨z0, z1, z2, z3, z4, z5, z6, z7⟩ := bN (k := kk.1) (HXp3.out.belowI HBr.out)
   have hq := fun V => neq_keyR W[k].key kk V
   have hgx := HRP.out.w.got HLB.out (List.getElem_mem hkn)
   have HXN : Hid (W[k].key = kk → W[k].tx ∉ ts) := aA (fun ek hin => by
    obtain ⟨j, hj, hjk, e1, e2⟩ := (HTM.out _).1 hin
    exact (List.pairwise_iff_getElem.1 HRP.out.w.u) j k hj hkn hjk ⟨e2, by rw [e1, ek]⟩)
   have HMS : Hid (W[k].key ≠ kk → ∀ t, t ∈ ts ↔ ∃ j, ∃ hj : j < W.length, j < k + 1 ∧ W[j].key = kk ∧ W[j].tx = t) := aA (fun e t => by
    rw [HTM.out]
    exact ⟨fun ⟨j, hj, h1, h2⟩ => ⟨j, hj, by omega, h2⟩, fun ⟨j, hj, h1, h2, h3⟩ => by
     by_cases ej : j = k
     ·subst ej; exact absurd h2 e
     ·exact ⟨j, hj, by omega, h2, h3⟩⟩)
   have HMT : Hid (W[k].key = kk → ∀ j0 t, t ∈ ts.take j0 ++ [W[k].tx] ++ ts.drop j0 ↔ ∃ j, ∃ hj : j < W.length, j < k + 1 ∧ W[j].key = kk ∧ W[j].tx = t) := aA (fun e j0 t => by
    rw [ins_memR, HTM.out]
    exact ⟨fun h => h.elim (fun ⟨j, hj, h1, h2⟩ => ⟨j, hj, by omega, h2⟩) (fun h => ⟨k, hkn, by omega, e, h.symm⟩), fun ⟨j, hj, h1, h2, h3⟩ => by
     by_cases ej : j = k
     ·subst ej; exact .inr h3.symm
     ·exact .inl ⟨j, hj, by omega, h2, h3⟩⟩)
   have HTY : Hid (∀ t ∈ ts, aT l t ∈ l ∧ (aT l t).tx = t) := aA (fun t ht => by
    obtain ⟨j, hj, _, _, e⟩ := (HTM.out t).1 ht
    have h1 := HRP.out.w.got HLB.out (List.getElem_mem hj)
    rw [e] at h1
    exact ⟨h1.1, h1.2.1⟩)
   have HTr := aA (fun V (hV : Below wr.heap.size wr V) => HR.out.below (HBr.out.trans (hV.mono HBr.out.size)))
   have HCI0 : Hid (∀ V, Below wr.heap.size wr V → V.cell? ⟨r, 2, none⟩ = some (.slice (some ⟨b, off, none⟩) N cap)) := aA (fun V hV => HC1.out V (HBr.out.trans (hV.mono HBr.out.size)))
   have HCOL : Hid (∀ V, Below wr.heap.size wr V → ∀ y ∈ ts, Calls Tryz.prog 38 #[.pointer (some ⟨r, 0, none⟩), aV y, aV W[k].tx] V fun e w' => e = .returned (.bool (decide (dI l y W[k].tx))) ∧ Below V.heap.size V w') := aA (fun V hV y hy => by
    have h1 := HTY.out y hy
    have := gF r _ _ _ l H W (aT l y) (aT l W[k].tx) V (HTr.out V hV) HLB.out h1.1 hgx.1
    rw [h1.2, hgx.2.1] at this
    exact this.mono (fun e w' ⟨he, hB⟩ => ⟨he.trans (by first | rfl | (congr 2; exact decide_eq_decide.2 Iff.rfl)), hB⟩))
   have HTOT : Hid (W[k].key = kk → ∀ y ∈ ts, NOld l y W[k].tx → dI l W[k].tx y) := aA (fun ek y hy hn => (f5 (u := aT l y) (v := aT l W[k].tx) (by rw [(HTY.out y hy).2, hgx.2.1]; exact fun e => HXN.out ek (by rw [← e]; exact hy))).resolve_left hn)
   have HXB := aA (HXp3.out)
   clear hgx hc en
   generalize W[k] = x at *
   by_cases ek : x.key = kk
   ·have hd : (!decide (x.key = kk)) = false := by simp [ek]
    rw [hd] at hq
    have HMT2 := aA (HMT.out ek)
    have HTO := aA (HTOT.out ek)
    clear ek hd HMS HMT HTOT HXN
    go_wp2_with fail
    go_quiet (fail)
    have HBd := aA (HBq.out nq)
    have HOd := aA (aJ HO.out (aC.of_below (fun _ => False) (aU wr nq)) (fun _ _ h => h))
    have HWd := aA (aU wr nq)
    clear r3 r4 r5 r6 r7 r8 r9 r10 z0 z1 z2 z3 z4 z5 z6 z7 m1 HBq
    generalize wr.drewN nq = wd at *
    go_wp2_with fail
    go_loopw [7] (fun jv V => ∃ j : Nat, j ≤ n ∧ jv = .int .i64 (j : Int) ∧ Hid (∀ m (hm : m < ts.length), m < j → dI l ts[m] x.tx) ∧ Hid (Below wd.heap.size wd V)) (fun jv _ => n - (intOf jv).toNat)
    case atStart => exact ⟨0, Nat.zero_le _, rfl, aA (fun m _ hm => by omega), aA (Below.refl _ _)⟩
    case round =>
     obtain ⟨j, hjn, rfl, HUP, HBV⟩ := hrel
     have hnk : n ≤ k := HNB.out
     have HWV := aA (HWd.out.trans (HBV.out.mono HWd.out.size))
     have HOV := aA (aJ HOd.out (aC.of_below (fun _ => False) HBV.out) (fun _ _ h => h))
     have HRT := aA (fun V (hV : Below wr.heap.size wr V) => HRT0.out V (HWV.out.trans (hV.mono HWV.out.size)))
     have HCI := aA (fun V (hV : Below wr.heap.size wr V) => HCI0.out V (HWV.out.trans (hV.mono HWV.out.size)))
     by_cases hjN : j < n
     ·have hjt : j < ts.length := by rw [← HN.out]; exact hjN
      have hltj := fH (j : Int) (n : Int) true (decide_eq_true (by omega))
      have hs := bI.of_own (by rw [← HN.out]; exact HOV.out : wr.ownsRow W1.heap.size 34 3 (.slice ax n cx) ts.length (bR txE3 ts))
      obtain ⟨en, ob, oo, hao, hob, hcj⟩ := hs.at dP.len hjt
      cases hao
      have HRJ : Hid (∀ V, Below wr.heap.size wr V → V.rangeAt ob (oo + j * 3) (txE3 ts[j])) := aA (fun V hV m v hv => (hV.cell (p := ⟨ob, oo + j * 3 + m, none⟩) hob).trans (hcj m v hv))
      have HCJ := aA (fun V (hV : Below wr.heap.size wr V) => HCOL.out V (HWV.out.trans (hV.mono HWV.out.size)) ts[j] (List.getElem_mem hjt))
      have HUX : Hid (dI l ts[j] x.tx → ∀ m (hm : m < ts.length), m < j + 1 → dI l ts[m] x.tx) := aA (fun e m hm hmj => by
       by_cases ej : m = j
       ·subst ej; exact e
       ·exact HUP.out m hm (by omega))
      have HTJ : Hid (NOld l ts[j] x.tx → dI l x.tx ts[j]) := aA (HTO.out ts[j] (List.getElem_mem hjt))
      by_cases hold : dI l ts[j] x.tx
      ·have HUP2 := aA (HUX.out hold)
       have CO : Hid (∀ V, Below wr.heap.size wr V → Calls Tryz.prog 38 #[.pointer (some ⟨r, 0, none⟩), aV ts[j], aV x.tx] V fun e w' => e = .returned (.bool true) ∧ Below V.heap.size V w') := aA (fun V hV => by have := HCJ.out V hV; rw [decide_eq_true hold] at this; exact this)
       clear hold HUX HTJ HCJ hs hcj en hob
       generalize ts[j] = y at *
       go_wp2_with fail
       refine bD (by kernel_rfl) [(27, .int .i64 (j : Int)), (28, .slice (some ⟨ob, oo, none⟩) n cx), (29, .int .i64 (n : Int)), (30, .bool true), (31, .bool true), (32, .pointer (some ⟨r, 0, none⟩)), (33, .slice (some ⟨ob, oo, none⟩) n cx), (34, .int .i64 (j : Int)), (35, .pointer (some ⟨ob, oo + j * 3, none⟩)), (36, aV y), (37, .pointer (some ⟨r, 0, none⟩)), (38, .pointer (some ⟨r, 0, none⟩)), (39, .pointer (some ⟨r, 2, none⟩)), (40, .slice (some ⟨b, off, none⟩) N cap), (41, .int .i64 (k : Int)), (42, .pointer (some ⟨b, off + k * 12, none⟩)), (43, .pointer (some ⟨b, off + k * 12, none⟩)), (44, aV x.tx), (45, .bool true), (46, .bool true)] (by kernel_rfl) rfl ?_ ?_
       ·intro i o hi A w1 hB hold hdeps
        have hlt : i < 20 := (Array.getElem?_eq_some_iff.1 hi).1
        have hc : i = 0 ∨ i = 1 ∨ i = 2 ∨ i = 3 ∨ i = 4 ∨ i = 5 ∨ i = 6 ∨ i = 7 ∨ i = 8 ∨ i = 9 ∨ i = 10 ∨ i = 11 ∨ i = 12 ∨ i = 13 ∨ i = 14 ∨ i = 15 ∨ i = 16 ∨ i = 17 ∨ i = 18 ∨ i = 19 := by omega
        clear hlt
        rcases hc with rfl|rfl|rfl|rfl|rfl|rfl|rfl|rfl|rfl|rfl|rfl|rfl|rfl|rfl|rfl|rfl|rfl|rfl|rfl|rfl <;> obtain rfl := Option.some.inj hi
        ·have s7 : A.tmps.getD 7 undef = .int .i64 (j : Int) := hold 7 (by kernel_rfl)
         exact aD hi rfl rfl (aR _ s7)
        ·have s5 : A.tmps.getD 5 undef = .slice (some ⟨ob, oo, none⟩) n cx := hold 5 (by kernel_rfl)
         exact aD hi rfl rfl (aR _ s5)
        ·have s28 : A.tmps.getD 28 undef = .slice (some ⟨ob, oo, none⟩) n cx := aB hdeps 1 (by kernel_rfl)
         exact aD hi rfl rfl (y_len _ _ s28 Tryz.underlying42)
        ·have s27 : A.tmps.getD 27 undef = .int .i64 (j : Int) := aB hdeps 0 (by kernel_rfl)
         have s29 : A.tmps.getD 29 undef = .int .i64 (n : Int) := aB hdeps 2 (by kernel_rfl)
         exact aD hi rfl rfl (eE _ _ _ _ _ s27 s29 (hltj w1) (by kernel_rfl))
        ·have s30 : A.tmps.getD 30 undef = .bool true := aB hdeps 3 (by kernel_rfl)
         exact aD hi rfl rfl (aR _ s30)
        ·have g5 : A.tmps.getD 31 undef = .bool true := aB hdeps 4 (by kernel_rfl)
         have s0 : A.tmps.getD 0 undef = .pointer (some ⟨r, 0, none⟩) := hold 0 (by kernel_rfl)
         exact aD hi (aM rfl rfl g5) rfl (aR _ s0)
        ·have g6 : A.tmps.getD 31 undef = .bool true := aB hdeps 4 (by kernel_rfl)
         have s5 : A.tmps.getD 5 undef = .slice (some ⟨ob, oo, none⟩) n cx := hold 5 (by kernel_rfl)
         exact aD hi (aM rfl rfl g6) rfl (aR _ s5)
        ·have g7 : A.tmps.getD 31 undef = .bool true := aB hdeps 4 (by kernel_rfl)
         have s7 : A.tmps.getD 7 undef = .int .i64 (j : Int) := hold 7 (by kernel_rfl)
         exact aD hi (aM rfl rfl g7) rfl (aR _ s7)
        ·have g8 : A.tmps.getD 31 undef = .bool true := aB hdeps 4 (by kernel_rfl)
         have s33 : A.tmps.getD 33 undef = .slice (some ⟨ob, oo, none⟩) n cx := aB hdeps 6 (by kernel_rfl)
         have s34 : A.tmps.getD 34 undef = .int .i64 (j : Int) := aB hdeps 7 (by kernel_rfl)
         exact aD hi (aM rfl rfl g8) rfl (yr_idxT _ _ s33 s34 hjN)
        ·have g9 : A.tmps.getD 31 undef = .bool true := aB hdeps 4 (by kernel_rfl)
         have s35 : A.tmps.getD 35 undef = .pointer (some ⟨ob, oo + j * 3, none⟩) := aB hdeps 8 (by kernel_rfl)
         exact aD hi (aM rfl rfl g9) rfl (gG (t := y) _ s35 (HRJ.out w1 hB))
        ·have g10 : A.tmps.getD 31 undef = .bool true := aB hdeps 4 (by kernel_rfl)
         have s0 : A.tmps.getD 0 undef = .pointer (some ⟨r, 0, none⟩) := hold 0 (by kernel_rfl)
         exact aD hi (aM rfl rfl g10) rfl (aR _ s0)
        ·have g11 : A.tmps.getD 31 undef = .bool true := aB hdeps 4 (by kernel_rfl)
         have s37 : A.tmps.getD 37 undef = .pointer (some ⟨r, 0, none⟩) := aB hdeps 10 (by kernel_rfl)
         exact aD hi (aM rfl rfl g11) rfl (dY _ s37)
        ·have g12 : A.tmps.getD 31 undef = .bool true := aB hdeps 4 (by kernel_rfl)
         have s38 : A.tmps.getD 38 undef = .pointer (some ⟨r, 0, none⟩) := aB hdeps 11 (by kernel_rfl)
         exact aD hi (aM rfl rfl g12) rfl (fU _ s38)
        ·have g13 : A.tmps.getD 31 undef = .bool true := aB hdeps 4 (by kernel_rfl)
         have s39 : A.tmps.getD 39 undef = .pointer (some ⟨r, 2, none⟩) := aB hdeps 12 (by kernel_rfl)
         exact aD hi (aM rfl rfl g13) rfl (dF _ s39 (HCI.out w1 hB))
        ·have g14 : A.tmps.getD 31 undef = .bool true := aB hdeps 4 (by kernel_rfl)
         have s6 : A.tmps.getD 6 undef = .int .i64 (k : Int) := hold 6 (by kernel_rfl)
         exact aD hi (aM rfl rfl g14) rfl (aR _ s6)
        ·have g15 : A.tmps.getD 31 undef = .bool true := aB hdeps 4 (by kernel_rfl)
         have s40 : A.tmps.getD 40 undef = .slice (some ⟨b, off, none⟩) N cap := aB hdeps 13 (by kernel_rfl)
         have s41 : A.tmps.getD 41 undef = .int .i64 (k : Int) := aB hdeps 14 (by kernel_rfl)
         exact aD hi (aM rfl rfl g15) rfl (eQ _ _ s40 s41 hkN)
        ·have g16 : A.tmps.getD 31 undef = .bool true := aB hdeps 4 (by kernel_rfl)
         have s42 : A.tmps.getD 42 undef = .pointer (some ⟨b, off + k * 12, none⟩) := aB hdeps 15 (by kernel_rfl)
         exact aD hi (aM rfl rfl g16) rfl (iJ _ s42)
        ·have g17 : A.tmps.getD 31 undef = .bool true := aB hdeps 4 (by kernel_rfl)
         have s43 : A.tmps.getD 43 undef = .pointer (some ⟨b, off + k * 12, none⟩) := aB hdeps 16 (by kernel_rfl)
         exact aD hi (aM rfl rfl g17) rfl (gG (t := x.tx) _ s43 (HRT.out w1 hB))
        ·have g18 : A.tmps.getD 31 undef = .bool true := aB hdeps 4 (by kernel_rfl)
         have s32 : A.tmps.getD 32 undef = .pointer (some ⟨r, 0, none⟩) := aB hdeps 5 (by kernel_rfl)
         have s36 : A.tmps.getD 36 undef = aV y := aB hdeps 9 (by kernel_rfl)
         have s44 : A.tmps.getD 44 undef = aV x.tx := aB hdeps 17 (by kernel_rfl)
         exact cF hi (aM rfl rfl g18) rfl (cC 38 _ #[.pointer (some ⟨r, 0, none⟩), aV y, aV x.tx] _ rfl (by simp only [List.map_toArray, List.map_cons, List.map_nil, show A.eval (.tmp 32) = .pointer (some ⟨r, 0, none⟩) from s32, show A.eval (.tmp 36) = aV y from s36, show A.eval (.tmp 44) = aV x.tx from s44]; try rfl) iZ) (CO.out w1 hB)
        ·have s31 : A.tmps.getD 31 undef = .bool true := aB hdeps 4 (by kernel_rfl)
         have s45 : A.tmps.getD 45 undef = .bool true := aB hdeps 18 (by kernel_rfl)
         exact aD hi rfl rfl (dT _ _ _ s31 s45)
       ·intro w10 hB10
        simp only [cA, Act.put, List.setIfInBounds_toArray, List.set_cons_succ, List.set_cons_zero]
        go_wp2_with fail
        go_roundw
        case rel => exact ⟨j + 1, by omega, by first | rfl | go_num, HUP2, aA (HBV.out.trans (hB10.mono HBV.out.size))⟩
        case measure => simp [intOf]; omega
      ·have HPW := aA (aA (ins_old HTP.out HUP.out (fun _ => HTJ.out hold)))
       have CO : Hid (∀ V, Below wr.heap.size wr V → Calls Tryz.prog 38 #[.pointer (some ⟨r, 0, none⟩), aV ts[j], aV x.tx] V fun e w' => e = .returned (.bool false) ∧ Below V.heap.size V w') := aA (fun V hV => by have := HCJ.out V hV; rw [decide_eq_false hold] at this; exact this)
       have HME := aA (aA (HMT2.out j))
       clear hold HUX HTJ HCJ hs hcj en hob
       generalize ts[j] = y at *
       go_wp2_with fail
       refine bD (by kernel_rfl) [(27, .int .i64 (j : Int)), (28, .slice (some ⟨ob, oo, none⟩) n cx), (29, .int .i64 (n : Int)), (30, .bool true), (31, .bool true), (32, .pointer (some ⟨r, 0, none⟩)), (33, .slice (some ⟨ob, oo, none⟩) n cx), (34, .int .i64 (j : Int)), (35, .pointer (some ⟨ob, oo + j * 3, none⟩)), (36, aV y), (37, .pointer (some ⟨r, 0, none⟩)), (38, .pointer (some ⟨r, 0, none⟩)), (39, .pointer (some ⟨r, 2, none⟩)), (40, .slice (some ⟨b, off, none⟩) N cap), (41, .int .i64 (k : Int)), (42, .pointer (some ⟨b, off + k * 12, none⟩)), (43, .pointer (some ⟨b, off + k * 12, none⟩)), (44, aV x.tx), (45, .bool false), (46, .bool false)] (by kernel_rfl) rfl ?_ ?_
       ·intro i o hi A w1 hB hold hdeps
        have hlt : i < 20 := (Array.getElem?_eq_some_iff.1 hi).1
        have hc : i = 0 ∨ i = 1 ∨ i = 2 ∨ i = 3 ∨ i = 4 ∨ i = 5 ∨ i = 6 ∨ i = 7 ∨ i = 8 ∨ i = 9 ∨ i = 10 ∨ i = 11 ∨ i = 12 ∨ i = 13 ∨ i = 14 ∨ i = 15 ∨ i = 16 ∨ i = 17 ∨ i = 18 ∨ i = 19 := by omega
        clear hlt
        rcases hc with rfl|rfl|rfl|rfl|rfl|rfl|rfl|rfl|rfl|rfl|rfl|rfl|rfl|rfl|rfl|rfl|rfl|rfl|rfl|rfl <;> obtain rfl := Option.some.inj hi
        ·have s7 : A.tmps.getD 7 undef = .int .i64 (j : Int) := hold 7 (by kernel_rfl)
         exact aD hi rfl rfl (aR _ s7)
        ·have s5 : A.tmps.getD 5 undef = .slice (some ⟨ob, oo, none⟩) n cx := hold 5 (by kernel_rfl)
         exact aD hi rfl rfl (aR _ s5)
        ·have s28 : A.tmps.getD 28 undef = .slice (some ⟨ob, oo, none⟩) n cx := aB hdeps 1 (by kernel_rfl)
         exact aD hi rfl rfl (y_len _ _ s28 Tryz.underlying42)
        ·have s27 : A.tmps.getD 27 undef = .int .i64 (j : Int) := aB hdeps 0 (by kernel_rfl)
         have s29 : A.tmps.getD 29 undef = .int .i64 (n : Int) := aB hdeps 2 (by kernel_rfl)
         exact aD hi rfl rfl (eE _ _ _ _ _ s27 s29 (hltj w1) (by kernel_rfl))
        ·have s30 : A.tmps.getD 30 undef = .bool true := aB hdeps 3 (by kernel_rfl)
         exact aD hi rfl rfl (aR _ s30)
        ·have g5 : A.tmps.getD 31 undef = .bool true := aB hdeps 4 (by kernel_rfl)
         have s0 : A.tmps.getD 0 undef = .pointer (some ⟨r, 0, none⟩) := hold 0 (by kernel_rfl)
         exact aD hi (aM rfl rfl g5) rfl (aR _ s0)
        ·have g6 : A.tmps.getD 31 undef = .bool true := aB hdeps 4 (by kernel_rfl)
         have s5 : A.tmps.getD 5 undef = .slice (some ⟨ob, oo, none⟩) n cx := hold 5 (by kernel_rfl)
         exact aD hi (aM rfl rfl g6) rfl (aR _ s5)
        ·have g7 : A.tmps.getD 31 undef = .bool true := aB hdeps 4 (by kernel_rfl)
         have s7 : A.tmps.getD 7 undef = .int .i64 (j : Int) := hold 7 (by kernel_rfl)
         exact aD hi (aM rfl rfl g7) rfl (aR _ s7)
        ·have g8 : A.tmps.getD 31 undef = .bool true := aB hdeps 4 (by kernel_rfl)
         have s33 : A.tmps.getD 33 undef = .slice (some ⟨ob, oo, none⟩) n cx := aB hdeps 6 (by kernel_rfl)
         have s34 : A.tmps.getD 34 undef = .int .i64 (j : Int) := aB hdeps 7 (by kernel_rfl)
         exact aD hi (aM rfl rfl g8) rfl (yr_idxT _ _ s33 s34 hjN)
        ·have g9 : A.tmps.getD 31 undef = .bool true := aB hdeps 4 (by kernel_rfl)
         have s35 : A.tmps.getD 35 undef = .pointer (some ⟨ob, oo + j * 3, none⟩) := aB hdeps 8 (by kernel_rfl)
         exact aD hi (aM rfl rfl g9) rfl (gG (t := y) _ s35 (HRJ.out w1 hB))
        ·have g10 : A.tmps.getD 31 undef = .bool true := aB hdeps 4 (by kernel_rfl)
         have s0 : A.tmps.getD 0 undef = .pointer (some ⟨r, 0, none⟩) := hold 0 (by kernel_rfl)
         exact aD hi (aM rfl rfl g10) rfl (aR _ s0)
        ·have g11 : A.tmps.getD 31 undef = .bool true := aB hdeps 4 (by kernel_rfl)
         have s37 : A.tmps.getD 37 undef = .pointer (some ⟨r, 0, none⟩) := aB hdeps 10 (by kernel_rfl)
         exact aD hi (aM rfl rfl g11) rfl (dY _ s37)
        ·have g12 : A.tmps.getD 31 undef = .bool true := aB hdeps 4 (by kernel_rfl)
         have s38 : A.tmps.getD 38 undef = .pointer (some ⟨r, 0, none⟩) := aB hdeps 11 (by kernel_rfl)
         exact aD hi (aM rfl rfl g12) rfl (fU _ s38)
        ·have g13 : A.tmps.getD 31 undef = .bool true := aB hdeps 4 (by kernel_rfl)
         have s39 : A.tmps.getD 39 undef = .pointer (some ⟨r, 2, none⟩) := aB hdeps 12 (by kernel_rfl)
         exact aD hi (aM rfl rfl g13) rfl (dF _ s39 (HCI.out w1 hB))
        ·have g14 : A.tmps.getD 31 undef = .bool true := aB hdeps 4 (by kernel_rfl)
         have s6 : A.tmps.getD 6 undef = .int .i64 (k : Int) := hold 6 (by kernel_rfl)
         exact aD hi (aM rfl rfl g14) rfl (aR _ s6)
        ·have g15 : A.tmps.getD 31 undef = .bool true := aB hdeps 4 (by kernel_rfl)
         have s40 : A.tmps.getD 40 undef = .slice (some ⟨b, off, none⟩) N cap := aB hdeps 13 (by kernel_rfl)
         have s41 : A.tmps.getD 41 undef = .int .i64 (k : Int) := aB hdeps 14 (by kernel_rfl)
         exact aD hi (aM rfl rfl g15) rfl (eQ _ _ s40 s41 hkN)
        ·have g16 : A.tmps.getD 31 undef = .bool true := aB hdeps 4 (by kernel_rfl)
         have s42 : A.tmps.getD 42 undef = .pointer (some ⟨b, off + k * 12, none⟩) := aB hdeps 15 (by kernel_rfl)
         exact aD hi (aM rfl rfl g16) rfl (iJ _ s42)
        ·have g17 : A.tmps.getD 31 undef = .bool true := aB hdeps 4 (by kernel_rfl)
         have s43 : A.tmps.getD 43 undef = .pointer (some ⟨b, off + k * 12, none⟩) := aB hdeps 16 (by kernel_rfl)
         exact aD hi (aM rfl rfl g17) rfl (gG (t := x.tx) _ s43 (HRT.out w1 hB))
        ·have g18 : A.tmps.getD 31 undef = .bool true := aB hdeps 4 (by kernel_rfl)
         have s32 : A.tmps.getD 32 undef = .pointer (some ⟨r, 0, none⟩) := aB hdeps 5 (by kernel_rfl)
         have s36 : A.tmps.getD 36 undef = aV y := aB hdeps 9 (by kernel_rfl)
         have s44 : A.tmps.getD 44 undef = aV x.tx := aB hdeps 17 (by kernel_rfl)
         exact cF hi (aM rfl rfl g18) rfl (cC 38 _ #[.pointer (some ⟨r, 0, none⟩), aV y, aV x.tx] _ rfl (by simp only [List.map_toArray, List.map_cons, List.map_nil, show A.eval (.tmp 32) = .pointer (some ⟨r, 0, none⟩) from s32, show A.eval (.tmp 36) = aV y from s36, show A.eval (.tmp 44) = aV x.tx from s44]; try rfl) iZ) (CO.out w1 hB)
        ·have s31 : A.tmps.getD 31 undef = .bool true := aB hdeps 4 (by kernel_rfl)
         have s45 : A.tmps.getD 45 undef = .bool false := aB hdeps 18 (by kernel_rfl)
         exact aD hi rfl rfl (dT _ _ _ s31 s45)
       ·intro w10 hB10
        simp only [cA, Act.put, List.setIfInBounds_toArray, List.set_cons_succ, List.set_cons_zero]
        have HBi := aA (HBd.out.trans ((HBV.out.trans (hB10.mono HBV.out.size)).mono HBd.out.size))
        have HOi := aA (aJ HOV.out (aC.of_below (fun _ => False) hB10) (fun _ _ h => h))
        have HCE : Hid (∀ V, Below w10.heap.size w10 V → V.cell? ⟨r, 2, none⟩ = some (.slice (some ⟨b, off, none⟩) N cap) ∧ V.cell? ⟨b, off + k * 12, none⟩ = some (.int .u8 (x.tx.1 : Int)) ∧ V.cell? ⟨b, off + k * 12 + 1, none⟩ = some (.int .u32 (x.tx.2.1 : Int)) ∧ V.cell? ⟨b, off + k * 12 + 2, none⟩ = some (.int .u32 (x.tx.2.2 : Int)) ∧ True ∧ True) := aA (fun V hV => by
         have h1 := hB10.trans (hV.mono hB10.size)
         exact ⟨HCI.out V h1, HRT.out V h1 0 _ rfl, HRT.out V h1 1 _ rfl, HRT.out V h1 2 _ rfl, trivial, trivial⟩)
        clear hltj hB10 HRT HCI
        have hs := bI.of_own (by rw [← HN.out]; exact HOi.out : w10.ownsRow W1.heap.size 34 3 (.slice (some ⟨ob, oo, none⟩) n cx) ts.length (bR txE3 ts))
        have hcx : n ≤ cx := by obtain ⟨_, _, e, hle, _⟩ := hs; cases e; exact Nat.le_trans (by rw [HN.out]; exact Nat.le_refl _) hle
        have hto := fun V => gD dP V (some ⟨ob, oo, none⟩) n cx j (by omega)
        have hfr := fun V => fK dP V (some ⟨ob, oo, none⟩) n cx j (by omega)
        obtain ⟨af, haf⟩ : ∃ af, af = if cx = j then ((some ⟨ob, oo, none⟩) : Option Addr) else ((some ⟨ob, oo, none⟩) : Option Addr).map (·.add (j * 3)) := ⟨_, rfl⟩
        rw [← haf] at hfr
        rw [HN.out] at hs
        have hs1 := fL hs dP.len (i := j) (by rw [← HN.out]; omega)
        have hs2 := f7 hs dP.len (i := j) (by rw [← HN.out]; omega)
        rw [← haf, ← HN.out] at hs2
        obtain ⟨l2, hl2⟩ : ∃ l2, l2 = n - j := ⟨_, rfl⟩
        obtain ⟨cc2, hcc2⟩ : ∃ cc2, cc2 = cx - j := ⟨_, rfl⟩
        rw [← hl2, ← hcc2] at hfr hs2
        obtain ⟨a1, n1, c1, wA, a2, n2, c2, wB, a3, n3, c3, wC, q1, hq1, I1⟩ := kH dP w10 _ _ _ _ x.tx #[.int .u8 (x.tx.1 : Int), .int .u32 (x.tx.2.1 : Int), .int .u32 (x.tx.2.2 : Int)] rfl 34 hs1 hs2 kZ (by rw [List.length_take, List.length_drop]; have := HNB.out; have := HN.out; omega)
        obtain ⟨a1', n1', c1', wA', a2', n2', c2', wB', a3', n3', c3', wC', I2⟩ := kI dP w10 _ _ _ _ x.tx #[.int .u8 (x.tx.1 : Int), .int .u32 (x.tx.2.1 : Int), .int .u32 (x.tx.2.2 : Int)] rfl 34 hs1 hs2 kZ (by rw [List.length_take, List.length_drop]; have := HNB.out; have := HN.out; omega)
        subst hq1
        have e1 := I1.r1
        have e2 := I1.r2
        have e3 := I1.r3
        have f1 := I2.r1
        have f2 := I2.r2
        have f3 := I2.r3
        have HO3 := aA (bQ I1.own HBi.out.size)
        have HO3' := aA (bQ I2.own HBi.out.size)
        have HN3 := aA I1.n
        have HN3' := aA I2.n
        have HB3 := aA (HBi.out.trans (I1.b3.mono HBi.out.size))
        have HB3' := aA (HBi.out.trans (I2.b3.mono HBi.out.size))
        rw [if_pos rfl] at e2
        rw [if_neg (by decide)] at f2
        have b1 := I1.b1
        have b2 := I1.b2
        have b3 := I1.b3
        have d1 := I2.b1
        have d2 := I2.b2
        have d3 := I2.b3
        obtain ⟨x00, x01, x02, x03, x04, x05⟩ := HCE.out w10 (Below.refl _ _)
        obtain ⟨x10, x11, x12, x13, x14, x15⟩ := HCE.out wA b1
        obtain ⟨x20, x21, x22, x23, x24, x25⟩ := HCE.out wB b2
        obtain ⟨y10, y11, y12, y13, y14, y15⟩ := HCE.out wA' d1
        obtain ⟨y20, y21, y22, y23, y24, y25⟩ := HCE.out wB' d2
        clear I1 I2 hs hs1 hs2 hl2 hcc2 haf hcx b1 b2 b3 d1 d2 d3
        go_wp2_with fail
        go_region
        all_goals go_wp2_with fail
        all_goals go_roundg gf
        all_goals first
         | (case measure => omega)
         | (case rel => exact ⟨k + 1, n3, ts.take j ++ [x.tx] ++ ts.drop j, a3, c3, by omega, by first | rfl | go_num, by first | rfl | go_num, HN3, aA (by have := HN3.out; have h0 := HNB.out; have h1 := HN.out; simp at this; omega), HPW.out, HME.out, HO3, HB3⟩)
         | (case rel => exact ⟨k + 1, n3', ts.take j ++ [x.tx] ++ ts.drop j, a3', c3', by omega, by first | rfl | go_num, by first | rfl | go_num, HN3', aA (by have := HN3'.out; have h0 := HNB.out; have h1 := HN.out; simp at this; omega), HPW.out, HME.out, HO3', HB3'⟩)
     ·have hltj := fH (j : Int) (n : Int) false (decide_eq_false (by omega))
      have HPW := aA (aA (ins_old HTP.out HUP.out (fun h => by rw [← HN.out] at h; omega)))
      have HME := aA (aA (HMT2.out j))
      go_wp2_with fail
      refine bD (by kernel_rfl) [(27, .int .i64 (j : Int)), (28, .slice ax n cx), (29, .int .i64 (n : Int)), (30, .bool false), (31, .bool false), (32, undef), (33, undef), (34, undef), (35, undef), (36, undef), (37, undef), (38, undef), (39, undef), (40, undef), (41, undef), (42, undef), (43, undef), (44, undef), (45, undef), (46, .bool false)] (by kernel_rfl) rfl ?_ ?_
      ·intro i o hi A w1 hB hold hdeps
       have hlt : i < 20 := (Array.getElem?_eq_some_iff.1 hi).1
       have hc : i = 0 ∨ i = 1 ∨ i = 2 ∨ i = 3 ∨ i = 4 ∨ i = 5 ∨ i = 6 ∨ i = 7 ∨ i = 8 ∨ i = 9 ∨ i = 10 ∨ i = 11 ∨ i = 12 ∨ i = 13 ∨ i = 14 ∨ i = 15 ∨ i = 16 ∨ i = 17 ∨ i = 18 ∨ i = 19 := by omega
       clear hlt
       rcases hc with rfl|rfl|rfl|rfl|rfl|rfl|rfl|rfl|rfl|rfl|rfl|rfl|rfl|rfl|rfl|rfl|rfl|rfl|rfl|rfl <;> obtain rfl := Option.some.inj hi
       ·have s7 : A.tmps.getD 7 undef = .int .i64 (j : Int) := hold 7 (by kernel_rfl)
        exact aD hi rfl rfl (aR _ s7)
       ·have s5 : A.tmps.getD 5 undef = .slice ax n cx := hold 5 (by kernel_rfl)
        exact aD hi rfl rfl (aR _ s5)
       ·have s28 : A.tmps.getD 28 undef = .slice ax n cx := aB hdeps 1 (by kernel_rfl)
        exact aD hi rfl rfl (y_len _ _ s28 Tryz.underlying42)
       ·have s27 : A.tmps.getD 27 undef = .int .i64 (j : Int) := aB hdeps 0 (by kernel_rfl)
        have s29 : A.tmps.getD 29 undef = .int .i64 (n : Int) := aB hdeps 2 (by kernel_rfl)
        exact aD hi rfl rfl (eE _ _ _ _ _ s27 s29 (hltj w1) (by kernel_rfl))
       ·have s30 : A.tmps.getD 30 undef = .bool false := aB hdeps 3 (by kernel_rfl)
        exact aD hi rfl rfl (aR _ s30)
       ·have g5 : A.tmps.getD 31 undef = .bool false := aB hdeps 4 (by kernel_rfl)
        exact aI hi rfl rfl (fun e => absurd (g5.symm.trans e) (by simp)) rfl
       ·have g6 : A.tmps.getD 31 undef = .bool false := aB hdeps 4 (by kernel_rfl)
        exact aI hi rfl rfl (fun e => absurd (g6.symm.trans e) (by simp)) rfl
       ·have g7 : A.tmps.getD 31 undef = .bool false := aB hdeps 4 (by kernel_rfl)
        exact aI hi rfl rfl (fun e => absurd (g7.symm.trans e) (by simp)) rfl
       ·have g8 : A.tmps.getD 31 undef = .bool false := aB hdeps 4 (by kernel_rfl)
        exact aI hi rfl rfl (fun e => absurd (g8.symm.trans e) (by simp)) rfl
       ·have g9 : A.tmps.getD 31 undef = .bool false := aB hdeps 4 (by kernel_rfl)
        exact aI hi rfl rfl (fun e => absurd (g9.symm.trans e) (by simp)) rfl
       ·have g10 : A.tmps.getD 31 undef = .bool false := aB hdeps 4 (by kernel_rfl)
        exact aI hi rfl rfl (fun e => absurd (g10.symm.trans e) (by simp)) rfl
       ·have g11 : A.tmps.getD 31 undef = .bool false := aB hdeps 4 (by kernel_rfl)
        exact aI hi rfl rfl (fun e => absurd (g11.symm.trans e) (by simp)) rfl
       ·have g12 : A.tmps.getD 31 undef = .bool false := aB hdeps 4 (by kernel_rfl)
        exact aI hi rfl rfl (fun e => absurd (g12.symm.trans e) (by simp)) rfl
       ·have g13 : A.tmps.getD 31 undef = .bool false := aB hdeps 4 (by kernel_rfl)
        exact aI hi rfl rfl (fun e => absurd (g13.symm.trans e) (by simp)) rfl
       ·have g14 : A.tmps.getD 31 undef = .bool false := aB hdeps 4 (by kernel_rfl)
        exact aI hi rfl rfl (fun e => absurd (g14.symm.trans e) (by simp)) rfl
       ·have g15 : A.tmps.getD 31 undef = .bool false := aB hdeps 4 (by kernel_rfl)
        exact aI hi rfl rfl (fun e => absurd (g15.symm.trans e) (by simp)) rfl
       ·have g16 : A.tmps.getD 31 undef = .bool false := aB hdeps 4 (by kernel_rfl)
        exact aI hi rfl rfl (fun e => absurd (g16.symm.trans e) (by simp)) rfl
       ·have g17 : A.tmps.getD 31 undef = .bool false := aB hdeps 4 (by kernel_rfl)
        exact aI hi rfl rfl (fun e => absurd (g17.symm.trans e) (by simp)) rfl
       ·have g18 : A.tmps.getD 31 undef = .bool false := aB hdeps 4 (by kernel_rfl)
        exact aI hi rfl rfl (fun e => absurd (g18.symm.trans e) (by simp)) rfl
       ·have s31 : A.tmps.getD 31 undef = .bool false := aB hdeps 4 (by kernel_rfl)
        exact aD hi rfl rfl (dB _ _ _ s31 rfl)
      ·intro w10 hB10
       simp only [cA, Act.put, List.setIfInBounds_toArray, List.set_cons_succ, List.set_cons_zero]
       have HBi := aA (HBd.out.trans ((HBV.out.trans (hB10.mono HBV.out.size)).mono HBd.out.size))
       have HOi := aA (aJ HOV.out (aC.of_below (fun _ => False) hB10) (fun _ _ h => h))
       have HCE : Hid (∀ V, Below w10.heap.size w10 V → V.cell? ⟨r, 2, none⟩ = some (.slice (some ⟨b, off, none⟩) N cap) ∧ V.cell? ⟨b, off + k * 12, none⟩ = some (.int .u8 (x.tx.1 : Int)) ∧ V.cell? ⟨b, off + k * 12 + 1, none⟩ = some (.int .u32 (x.tx.2.1 : Int)) ∧ V.cell? ⟨b, off + k * 12 + 2, none⟩ = some (.int .u32 (x.tx.2.2 : Int)) ∧ True ∧ True) := aA (fun V hV => by
        have h1 := hB10.trans (hV.mono hB10.size)
        exact ⟨HCI.out V h1, HRT.out V h1 0 _ rfl, HRT.out V h1 1 _ rfl, HRT.out V h1 2 _ rfl, trivial, trivial⟩)
       clear hltj hB10 HRT HCI
       have hs := bI.of_own (by rw [← HN.out]; exact HOi.out : w10.ownsRow W1.heap.size 34 3 (.slice ax n cx) ts.length (bR txE3 ts))
       have hcx : n ≤ cx := by obtain ⟨_, _, e, hle, _⟩ := hs; cases e; exact Nat.le_trans (by rw [HN.out]; exact Nat.le_refl _) hle
       have hto := fun V => gD dP V ax n cx j (by omega)
       have hfr := fun V => fK dP V ax n cx j (by omega)
       obtain ⟨af, haf⟩ : ∃ af, af = if cx = j then ax else ax.map (·.add (j * 3)) := ⟨_, rfl⟩
       rw [← haf] at hfr
       rw [HN.out] at hs
       have hs1 := fL hs dP.len (i := j) (by rw [← HN.out]; omega)
       have hs2 := f7 hs dP.len (i := j) (by rw [← HN.out]; omega)
       rw [← haf, ← HN.out] at hs2
       obtain ⟨l2, hl2⟩ : ∃ l2, l2 = n - j := ⟨_, rfl⟩
       obtain ⟨cc2, hcc2⟩ : ∃ cc2, cc2 = cx - j := ⟨_, rfl⟩
       rw [← hl2, ← hcc2] at hfr hs2
       obtain ⟨a1, n1, c1, wA, a2, n2, c2, wB, a3, n3, c3, wC, q1, hq1, I1⟩ := kH dP w10 _ _ _ _ x.tx #[.int .u8 (x.tx.1 : Int), .int .u32 (x.tx.2.1 : Int), .int .u32 (x.tx.2.2 : Int)] rfl 34 hs1 hs2 kZ (by rw [List.length_take, List.length_drop]; have := HNB.out; have := HN.out; omega)
       obtain ⟨a1', n1', c1', wA', a2', n2', c2', wB', a3', n3', c3', wC', I2⟩ := kI dP w10 _ _ _ _ x.tx #[.int .u8 (x.tx.1 : Int), .int .u32 (x.tx.2.1 : Int), .int .u32 (x.tx.2.2 : Int)] rfl 34 hs1 hs2 kZ (by rw [List.length_take, List.length_drop]; have := HNB.out; have := HN.out; omega)
       subst hq1
       have e1 := I1.r1
       have e2 := I1.r2
       have e3 := I1.r3
       have f1 := I2.r1
       have f2 := I2.r2
       have f3 := I2.r3
       have HO3 := aA (bQ I1.own HBi.out.size)
       have HO3' := aA (bQ I2.own HBi.out.size)
       have HN3 := aA I1.n
       have HN3' := aA I2.n
       have HB3 := aA (HBi.out.trans (I1.b3.mono HBi.out.size))
       have HB3' := aA (HBi.out.trans (I2.b3.mono HBi.out.size))
       rw [if_pos rfl] at e2
       rw [if_neg (by decide)] at f2
       have b1 := I1.b1
       have b2 := I1.b2
       have b3 := I1.b3
       have d1 := I2.b1
       have d2 := I2.b2
       have d3 := I2.b3
       obtain ⟨x00, x01, x02, x03, x04, x05⟩ := HCE.out w10 (Below.refl _ _)
       obtain ⟨x10, x11, x12, x13, x14, x15⟩ := HCE.out wA b1
       obtain ⟨x20, x21, x22, x23, x24, x25⟩ := HCE.out wB b2
       obtain ⟨y10, y11, y12, y13, y14, y15⟩ := HCE.out wA' d1
       obtain ⟨y20, y21, y22, y23, y24, y25⟩ := HCE.out wB' d2
       clear I1 I2 hs hs1 hs2 hl2 hcc2 haf hcx b1 b2 b3 d1 d2 d3
       go_wp2_with fail
       go_region
       all_goals go_wp2_with fail
       all_goals go_roundg gf
       all_goals first
        | (case measure => omega)
        | (case rel => exact ⟨k + 1, n3, ts.take j ++ [x.tx] ++ ts.drop j, a3, c3, by omega, by first | rfl | go_num, by first | rfl | go_num, HN3, aA (by have := HN3.out; have h0 := HNB.out; have h1 := HN.out; simp at this; omega), HPW.out, HME.out, HO3, HB3⟩)
        | (case rel => exact ⟨k + 1, n3', ts.take j ++ [x.tx] ++ ts.drop j, a3', c3', by omega, by first | rfl | go_num, by first | rfl | go_num, HN3', aA (by have := HN3'.out; have h0 := HNB.out; have h1 := HN.out; simp at this; omega), HPW.out, HME.out, HO3', HB3'⟩)
   ·have hd : (!decide (x.key = kk)) = true := by simp [ek]
    rw [hd] at hq
    have HTM2 := aA (HMS.out ek)
    clear ek hd HMS HMT HTOT HXN
    go_wp2_with fail
    go_quiet (fail)
    go_wp2_with fail
    go_roundg gf
    case measure => omega
    case rel => exact ⟨k + 1, n, ts, ax, cx, by omega, by first | rfl | go_num, by first | rfl | go_num, HN, aA (by have := HNB.out; omega), HTP, HTM2, aA (aJ HO.out (aC.of_below (fun _ => False) (aU wr _)) (fun _ _ h => h)), aA (HBq.out _)⟩
end
end Go.Proofs.YtiloagmkkhlfjaaGreat
