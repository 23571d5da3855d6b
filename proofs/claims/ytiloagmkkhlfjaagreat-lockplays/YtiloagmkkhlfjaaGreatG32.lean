/-
  Own texts put together: LrRead2, IdRKey, IdRName, MgR1. Own work.
-/
import Derived.Test.YtiloagmkkhlfjaaGreatG31
import Derived.Test.YtiloagmkkhlfjaaGreatG09
import Derived.Test.YtiloagmkkhlfjaaGreatG10
namespace Go.Proofs.YtiloagmkkhlfjaaGreat
set_option maxRecDepth 100000
section
open Go.RowKit Go.Maps Classical
set_option maxHeartbeats 1600000 in
theorem rmode_any15 (r : Nat) (vL vH vW : Value) (L : List UsR) (l : List (aS KeyT)) (H W : List (cD KeyT)) (t : TxN) (kk : KeyT) (w : World) (h : iU w r vL vH vW L H W) (hr : LsR l aS.h H) (hb : dD l) (hfew : H.length ≤ 10000) :
  Calls Tryz.prog 18 #[.pointer (some ⟨r, 0, none⟩), aV t, .agg (aK kk.1)] w fun e w' => e = .returned (.int .u8 ((aT l t).h kk : Int)) ∧ Below w.heap.size w w' := by
 have hA0 := aE w (.cells #[.int .u8 (t.1 : Int), .int .u32 (t.2.1 : Int), .int .u32 (t.2.2 : Int)] 34)
 have hA1 := aE (w.alloc (.cells #[.int .u8 (t.1 : Int), .int .u32 (t.2.1 : Int), .int .u32 (t.2.2 : Int)] 34)) (.cells #[.int .u8 (aZ kk.1 0), .int .u8 (aZ kk.1 1), .int .u8 (aZ kk.1 2), .int .u8 (aZ kk.1 3), .int .u8 (aZ kk.1 4), .int .u8 (aZ kk.1 5), .int .u8 (aZ kk.1 6), .int .u8 (aZ kk.1 7)] 38)
 have hB0 := hA0
 have hB1 := hB0.trans (hA1.mono hB0.size)
 have HXp4 : Hid (bZ ((w.alloc (.cells #[.int .u8 (t.1 : Int), .int .u32 (t.2.1 : Int), .int .u32 (t.2.2 : Int)] 34)).alloc (.cells #[.int .u8 (aZ kk.1 0), .int .u8 (aZ kk.1 1), .int .u8 (aZ kk.1 2), .int .u8 (aZ kk.1 3), .int .u8 (aZ kk.1 4), .int .u8 (aZ kk.1 5), .int .u8 (aZ kk.1 6), .int .u8 (aZ kk.1 7)] 38)) (w.heap.size) #[.int .u8 (t.1 : Int), .int .u32 (t.2.1 : Int), .int .u32 (t.2.2 : Int)] 34) := aA ((aN w #[.int .u8 (t.1 : Int), .int .u32 (t.2.1 : Int), .int .u32 (t.2.2 : Int)] 34).belowI hA1)
 have HXp5 : Hid (bZ ((w.alloc (.cells #[.int .u8 (t.1 : Int), .int .u32 (t.2.1 : Int), .int .u32 (t.2.2 : Int)] 34)).alloc (.cells #[.int .u8 (aZ kk.1 0), .int .u8 (aZ kk.1 1), .int .u8 (aZ kk.1 2), .int .u8 (aZ kk.1 3), .int .u8 (aZ kk.1 4), .int .u8 (aZ kk.1 5), .int .u8 (aZ kk.1 6), .int .u8 (aZ kk.1 7)] 38)) (w.heap.size + 1) #[.int .u8 (aZ kk.1 0), .int .u8 (aZ kk.1 1), .int .u8 (aZ kk.1 2), .int .u8 (aZ kk.1 3), .int .u8 (aZ kk.1 4), .int .u8 (aZ kk.1 5), .int .u8 (aZ kk.1 6), .int .u8 (aZ kk.1 7)] 38) := aA (by have := aN (w.alloc (.cells #[.int .u8 (t.1 : Int), .int .u32 (t.2.1 : Int), .int .u32 (t.2.2 : Int)] 34)) #[.int .u8 (aZ kk.1 0), .int .u8 (aZ kk.1 1), .int .u8 (aZ kk.1 2), .int .u8 (aZ kk.1 3), .int .u8 (aZ kk.1 4), .int .u8 (aZ kk.1 5), .int .u8 (aZ kk.1 6), .int .u8 (aZ kk.1 7)] 38; simpa using this)
 obtain ⟨W1, hw1⟩ : ∃ W1, W1 = ((w.alloc (.cells #[.int .u8 (t.1 : Int), .int .u32 (t.2.1 : Int), .int .u32 (t.2.2 : Int)] 34)).alloc (.cells #[.int .u8 (aZ kk.1 0), .int .u8 (aZ kk.1 1), .int .u8 (aZ kk.1 2), .int .u8 (aZ kk.1 3), .int .u8 (aZ kk.1 4), .int .u8 (aZ kk.1 5), .int .u8 (aZ kk.1 6), .int .u8 (aZ kk.1 7)] 38)) := ⟨_, rfl⟩
 obtain ⟨p4, hp4⟩ : ∃ p4, p4 = w.heap.size := ⟨_, rfl⟩
 obtain ⟨p5, hp5⟩ : ∃ p5, p5 = w.heap.size + 1 := ⟨_, rfl⟩
 rw [← hw1] at HXp4 HXp5 hB1
 rw [← hp4] at HXp4
 rw [← hp5] at HXp5
 have HW1 := aA hw1
 have HEp4 := aA hp4
 have HEp5 := aA hp5
 have HB := aA hB1
 have HNp4 : Hid (w.heap.size ≤ p4 ∧ p4 < W1.heap.size) := aA ⟨by omega, HXp4.out.lt⟩
 have HNp5 : Hid (w.heap.size ≤ p5 ∧ p5 < W1.heap.size) := aA ⟨by omega, HXp5.out.lt⟩
 clear hw1 hA0 hB0 hA1 hB1 hp4 hp5
 have hR := h.below HB.out
 obtain ⟨ao, cap, hvb, hcap, hcm⟩ := hR.sH.shape
 subst hvb
 have m1 : W1.cell? ⟨r, 1, none⟩ = some (.slice ao H.length cap) := hR.c1
 have HSR := aA hR.sH
 obtain ⟨x0, x1, x2⟩ := HXp4.out.three
 obtain ⟨z0, z1, z2, z3, z4, z5, z6, z7⟩ := bN (k := kk.1) HXp5.out
 obtain ⟨N, hN⟩ : ∃ N, N = H.length := ⟨_, rfl⟩
 have HL := aA hN
 rw [← hN] at m1 hfew
 obtain ⟨M, hM⟩ : ∃ M, M = (aT l t).h kk := ⟨_, rfl⟩
 have HYES : Hid (∀ g ∈ H, g.tx = t → g.key = kk → M = g.mode) := aA (fun g hg e1 e2 => by
  have := (hr.got hb hg).2.2.1
  rw [hM, ← e1, ← e2]
  exact this)
 have HNO0 : Hid ((∀ g ∈ H, ¬ (g.tx = t ∧ g.key = kk)) → M = 0) := aA (fun hn => by rw [hM]; exact hr.none hb rfl hn)
 rw [← hM]
 clear h hR hN hcap hcm hM hr hb
 go_enter Tryz.func18, Tryz.ntmps18
 go_wp2_with fail
 rw [← HW1.out, ← HEp5.out, ← HEp4.out]
 go_loopw [7] (fun i wr => ∃ k : Nat, k ≤ N ∧ i = .int .i64 k ∧ Hid (∀ j (hj : j < H.length), j < k → ¬ (H[j].tx = t ∧ H[j].key = kk)) ∧ ∃ nd, wr = W1.drewN nd) (fun i _ => N - (intOf i).toNat)
 case atStart => exact ⟨0, Nat.zero_le _, rfl, aA (fun j _ hj => by omega), 0, rfl⟩
 case round =>
  obtain ⟨k, hk, rfl, HNO, nd, rfl⟩ := hrel
  by_cases hlt : k < N
  ·have hkn : k < H.length := by rw [← HL.out]; exact hlt
   obtain ⟨_, b, off, hao, _, hc⟩ := HSR.out.at dJ.len hkn
   cases hao
   have r0 := hc 0 _ rfl
   have r1 := hc 1 _ rfl
   have r2 := hc 2 _ rfl
   have r3 := hc 3 _ rfl
   have r4 := hc 4 _ rfl
   have r5 := hc 5 _ rfl
   have r6 := hc 6 _ rfl
   have r7 := hc 7 _ rfl
   have r8 := hc 8 _ rfl
   have r9 := hc 9 _ rfl
   have r10 := hc 10 _ rfl
   have r11 := hc 11 _ rfl
   rw [Nat.add_zero] at r0
   have hq := fun V => eql_txR H[k].tx t V
   have hq2 := fun V => kG H[k].key kk V
   have hltI : (k : Int) < (N : Int) := by omega
   have HXT : Hid (¬ (H[k].tx = t ∧ H[k].key = kk) → ∀ j (hj : j < H.length), j < k + 1 → ¬ (H[j].tx = t ∧ H[j].key = kk)) := aA (fun e j hj hjk => by
    by_cases ej : j = k
    ·subst ej; exact e
    ·exact HNO.out j hj (by omega))
   have HYK := aA (HYES.out _ (List.getElem_mem hkn))
   by_cases e : H[k].tx = t
   ·by_cases e2 : H[k].key = kk
    ·have HP : Hid (M = H[k].mode) := aA (HYK.out e e2)
     rw [decide_eq_true e] at hq
     rw [decide_eq_true e2] at hq2
     generalize H[k] = y at *
     clear hc e e2 HXT HYK
     go_wp2_with fail
     go_quiet (fail)
     go_wp2_with fail
     go_ret
     exact ⟨by rw [HP.out]; rfl, HB.out.trans ((aU W1 _).mono HB.out.size)⟩
    ·have HNO2 := aA (HXT.out (fun h => e2 h.2))
     rw [decide_eq_true e] at hq
     rw [decide_eq_false e2] at hq2
     generalize H[k] = y at *
     clear hc e e2 HXT HYK
     go_wp2_with fail
     go_quiet (fail)
     go_wp2_with fail
     go_roundw
     case rel => exact ⟨k + 1, by omega, by go_num, HNO2, nd + nq, by simp⟩
     case measure => simp [intOf]; omega
   ·have HNO2 := aA (HXT.out (fun h => e h.1))
    rw [decide_eq_false e] at hq
    generalize H[k] = y at *
    clear hc e HXT HYK
    go_wp2_with fail
    go_quiet (fail)
    go_wp2_with fail
    go_roundw
    case rel => exact ⟨k + 1, by omega, by go_num, HNO2, nd + nq, by simp⟩
    case measure => simp [intOf]; omega
  ·have HP : Hid (M = 0) := aA (HNO0.out (fun x hx => by
    obtain ⟨j, hj, rfl⟩ := List.getElem_of_mem hx
    exact HNO.out j hj (by have := HL.out; omega)))
   go_wp2
   go_ret
   exact ⟨by rw [HP.out]; rfl, HB.out.trans ((aU W1 _).mono HB.out.size)⟩
theorem filt_lt {W : List (cD KeyT)} {t : TxN} : (W.filter fun g => decide (g.tx ≠ t)).length < W.length ↔ ∃ g ∈ W, g.tx = t := by
 constructor
 ·intro h
  by_cases hn : ∃ g ∈ W, g.tx = t
  ·exact hn
  ·have : (W.filter fun g => decide (g.tx ≠ t)) = W := by
    rw [List.filter_eq_self]
    intro g hg
    simpa using fun e => hn ⟨g, hg, e⟩
   rw [this] at h
   omega
 ·rintro ⟨g, hg, e⟩
  have h1 := List.length_filter_le (fun g : cD KeyT => decide (g.tx ≠ t)) W
  by_cases h2 : (W.filter fun g => decide (g.tx ≠ t)).length = W.length
  ·have := (List.filter_sublist (l := W) (p := fun g => decide (g.tx ≠ t))).eq_of_length h2
   rw [← this] at hg
   have := (List.mem_filter.1 hg).2
   simp [e] at this
  ·omega
theorem waits_iff {l : List (aS KeyT)} {W : List (cD KeyT)} (h : LsR l aS.w W) (hb : dD l) (t : TxN) : (∃ g ∈ W, g.tx = t) ↔ ∃ k, (aT l t).w k ≠ 0 := by
 constructor
 ·rintro ⟨g, hg, rfl⟩
  obtain ⟨_, _, h3, h4⟩ := h.got hb hg
  exact ⟨g.key, by rw [h3]; exact h4⟩
 ·rintro ⟨k, hk⟩
  cases hu : cM l t with
  | none => rw [dA hu] at hk; exact absurd rfl hk
  | some x =>
   obtain ⟨hx, e⟩ := (bT hb).1 hu
   have e2 : aT l t = x := by unfold aT; rw [hu]; rfl
   rw [e2] at hk
   exact ⟨⟨t, k, x.w k⟩, (h.m _ _ _).2 ⟨hk, x, hx, e, rfl⟩, rfl⟩
set_option maxHeartbeats 1600000 in
theorem rwaits_any15 (r : Nat) (vL vH vW : Value) (L : List UsR) (l : List (aS KeyT)) (H W : List (cD KeyT)) (t : TxN) (w : World) (h : iU w r vL vH vW L H W) (hr : LsR l aS.w W) (hb : dD l) (hfew : W.length ≤ 10000) :
  Calls Tryz.prog 20 #[.pointer (some ⟨r, 0, none⟩), aV t] w fun e w' => ∃ B, e = .returned (.bool B) ∧ (B = true ↔ ∃ k, (aT l t).w k ≠ 0) ∧ Below w.heap.size w w' := by
 have hA0 := aE w (.cells #[.int .u8 (t.1 : Int), .int .u32 (t.2.1 : Int), .int .u32 (t.2.2 : Int)] 34)
 have hB0 := hA0
 have HXp3 : Hid (bZ (w.alloc (.cells #[.int .u8 (t.1 : Int), .int .u32 (t.2.1 : Int), .int .u32 (t.2.2 : Int)] 34)) (w.heap.size) #[.int .u8 (t.1 : Int), .int .u32 (t.2.1 : Int), .int .u32 (t.2.2 : Int)] 34) := aA (by have := aN w #[.int .u8 (t.1 : Int), .int .u32 (t.2.1 : Int), .int .u32 (t.2.2 : Int)] 34; simpa using this)
 obtain ⟨W1, hw1⟩ : ∃ W1, W1 = (w.alloc (.cells #[.int .u8 (t.1 : Int), .int .u32 (t.2.1 : Int), .int .u32 (t.2.2 : Int)] 34)) := ⟨_, rfl⟩
 obtain ⟨p3, hp3⟩ : ∃ p3, p3 = w.heap.size := ⟨_, rfl⟩
 rw [← hw1] at HXp3 hB0
 rw [← hp3] at HXp3
 have HW1 := aA hw1
 have HEp3 := aA hp3
 have HB := aA hB0
 have HNp3 : Hid (w.heap.size ≤ p3 ∧ p3 < W1.heap.size) := aA ⟨by omega, HXp3.out.lt⟩
 clear hw1 hA0 hB0 hp3
 have hR := h.below HB.out
 obtain ⟨ao, cap, hvb, hcap, hcm⟩ := hR.sW.shape
 subst hvb
 have HSR := aA hR.sW
 have HR := aA hR
 obtain ⟨N, hN⟩ : ∃ N, N = W.length := ⟨_, rfl⟩
 have HC : Hid (∀ V, Below W1.heap.size W1 V → V.cell? ⟨r, 2, none⟩ = some (.slice ao N cap)) := aA (fun V hV => by rw [hN]; exact (HR.out.below hV).c2)
 have m1 := HC.out W1 (Below.refl _ _)
 obtain ⟨x0, x1, x2⟩ := HXp3.out.three
 have HIFF := aA ((filt_lt (W := W) (t := t)).trans (waits_iff hr hb t))
 obtain ⟨M, hM⟩ : ∃ M, M = (W.filter fun g => decide (g.tx ≠ t)).length := ⟨_, rfl⟩
 have CW : Hid (∀ V, Below W1.heap.size W1 V → Calls Tryz.prog 40 #[.slice ao N cap, aV t] V fun e w' => ∃ u, e = .returned u ∧ w'.ownsRow V.heap.size 62 12 u M (bR gtE (W.filter fun g => decide (g.tx ≠ t))) ∧ Below V.heap.size V w') := aA (fun V hV => by
  have := rwithout_any15 _ W t V (HSR.out.below hV) hfew
  rw [← hM, ← hN] at this
  exact this)
 rw [← hM, ← hN] at HIFF
 clear h hR hN hcap hcm hM hr hb hfew
 go_enter Tryz.func20, Tryz.ntmps20
 go_wp2_with fail
 rw [← HW1.out, ← HEp3.out]
 go_region_held (fun w' => w'.cell? ⟨r, 2, none⟩ = some (.slice ao N cap) ∧ w'.cell? ⟨p3, 0, none⟩ = some (.int .u8 (t.1 : Int)) ∧ w'.cell? ⟨p3, 1, none⟩ = some (.int .u32 (t.2.1 : Int)) ∧ w'.cell? ⟨p3, 2, none⟩ = some (.int .u32 (t.2.2 : Int))) (go_keep) (first
  | (go_at_call 40; refine (CW.out _ (aG W1)).mono ?_; rintro e w3 ⟨u, rfl, ho, hB3⟩; have HB3 := aA (HB.out.trans (((aG W1).trans hB3).mono HB.out.size)); have c2 := HC.out _ ((aG W1).trans hB3); have ss : _ ∧ _ ∧ _ := (HXp3.out.belowI ((aG W1).trans hB3)).three; obtain ⟨au, cu, hu, _⟩ := aQ ho; subst hu; clear hB3 ho))
 all_goals go_wp2_with fail
 all_goals go_ret
 all_goals exact ⟨_, rfl, by rw [← HIFF.out]; simp, HB3.out⟩
set_option maxHeartbeats 1600000 in
theorem rprep_any15 (r : Nat) (vL vH vW : Value) (l : List (aS KeyT)) (H W : List (cD KeyT)) (t : TxN) (w : World) (h : iU w r vL vH vW (l.map usR) H W) (hb : dD l) :
  Calls Tryz.prog 22 #[.pointer (some ⟨r, 0, none⟩), aV t] w fun e w' => e = .returned (.bool (aT l t).pr) ∧ Below w.heap.size w w' := by
 have hA0 := aE w (.cells #[.int .u8 (t.1 : Int), .int .u32 (t.2.1 : Int), .int .u32 (t.2.2 : Int)] 34)
 have hB0 := hA0
 have HXp3 : Hid (bZ (w.alloc (.cells #[.int .u8 (t.1 : Int), .int .u32 (t.2.1 : Int), .int .u32 (t.2.2 : Int)] 34)) (w.heap.size) #[.int .u8 (t.1 : Int), .int .u32 (t.2.1 : Int), .int .u32 (t.2.2 : Int)] 34) := aA (by have := aN w #[.int .u8 (t.1 : Int), .int .u32 (t.2.1 : Int), .int .u32 (t.2.2 : Int)] 34; simpa using this)
 obtain ⟨W1, hw1⟩ : ∃ W1, W1 = (w.alloc (.cells #[.int .u8 (t.1 : Int), .int .u32 (t.2.1 : Int), .int .u32 (t.2.2 : Int)] 34)) := ⟨_, rfl⟩
 obtain ⟨p3, hp3⟩ : ∃ p3, p3 = w.heap.size := ⟨_, rfl⟩
 rw [← hw1] at HXp3 hB0
 rw [← hp3] at HXp3
 have HW1 := aA hw1
 have HEp3 := aA hp3
 have HB := aA hB0
 have HNp3 : Hid (w.heap.size ≤ p3 ∧ p3 < W1.heap.size) := aA ⟨by omega, HXp3.out.lt⟩
 clear hw1 hA0 hB0 hp3
 have HR := aA (h.below HB.out)
 have hlen : (l.map usR).length ≤ 100 := by rw [List.length_map]; have := hb.few; omega
 have CF := aA (dZ r vL vH vW _ H W t W1 HR.out hlen)
 obtain ⟨x0, x1, x2⟩ := HXp3.out.three
 cases hu : cM l t with
 | none =>
  have HE : Hid ((aT l t).pr = false) := aA (by rw [dA hu]; rfl)
  rw [plU_no hu] at CF
  clear h hlen hu
  go_enter Tryz.func22, Tryz.ntmps22
  go_wp2_with fail
  rw [← HW1.out, ← HEp3.out]
  refine CF.out.mono ?_
  rintro e W2 ⟨rfl, hB2⟩
  have HB2 := aA (HB.out.trans (hB2.mono HB.out.size))
  clear hB2 CF
  go_wp2_with fail
  all_goals go_ret
  all_goals exact ⟨by rw [HE.out]; rfl, HB2.out⟩
 | some u =>
  obtain ⟨hx, et⟩ := (bT hb).1 hu
  subst et
  obtain ⟨ka, ea, hka, ga⟩ := plU_us hb hx
  have HE : Hid ((aT l u.tx).pr = u.pr) := aA (by rw [bH hb hx])
  rw [ea] at CF
  clear h hu
  go_enter Tryz.func22, Tryz.ntmps22
  go_wp2_with fail
  rw [← HW1.out, ← HEp3.out]
  refine CF.out.mono ?_
  rintro e W2 ⟨rfl, hB2⟩
  have HB2 := aA (HB.out.trans (hB2.mono HB.out.size))
  have hR2 := HR.out.below hB2
  obtain ⟨ao, cap, hvb, hcap, hcm⟩ := hR2.sL.shape
  subst hvb
  have m1 : W2.cell? ⟨r, 0, none⟩ = some (.slice ao (l.map usR).length cap) := hR2.c0
  obtain ⟨en, b, off, hao, hbl, hc⟩ := hR2.sL.at eJ.len hka
  cases hao
  rw [ga] at hc
  have y4 := hc 4 _ rfl
  obtain ⟨N, hN⟩ : ∃ N, N = (l.map usR).length := ⟨_, rfl⟩
  rw [← hN] at m1 hka
  have hkI : (ka : Int) < (N : Int) := by omega
  have hk0 : (0 : Int) ≤ (ka : Int) := by omega
  clear hB2 CF hR2 hc hcap hcm hN en hbl ga ea
  go_wp2_with fail
  all_goals go_ret
  all_goals exact ⟨by rw [HE.out]; rfl, HB2.out⟩
set_option maxHeartbeats 1600000 in
theorem rusers_any15 (r : Nat) (vL vH vW : Value) (L : List UsR) (H W : List (cD KeyT)) (w : World) (h : iU w r vL vH vW L H W) (hfew : L.length ≤ 100) :
  Calls Tryz.prog 14 #[.pointer (some ⟨r, 0, none⟩)] w fun e w' => ∃ u, e = .returned u ∧ w'.ownsRow w.heap.size 34 3 u L.length (bV (L.map fun x => txI x.tx)) ∧ Below w.heap.size w w' := by
 obtain ⟨ao, cap, hvb, hcap, hcm⟩ := h.sL.shape
 subst hvb
 have m1 : w.cell? ⟨r, 0, none⟩ = some (.slice ao L.length cap) := h.c0
 have hrl := h.box.lt
 obtain ⟨N, hN⟩ : ∃ N, N = L.length := ⟨_, rfl⟩
 rw [← hN] at m1 hfew
 have HL := aA hN
 have HR := aA h.sL
 have HM : Hid (∀ V, Below w.heap.size w V → V.cell? ⟨r, 0, none⟩ = some (.slice ao N cap)) := aA (fun V hB => (hB.cell (p := ⟨r, 0, none⟩) hrl).trans m1)
 clear h hcap hcm hN m1
 go_enter Tryz.func14, Tryz.ntmps14
 go_wp2
 go_loopg [3, 4] N (fun g x i wr => ∃ (k : Nat) (ax : Option Addr) (cx : Nat), k + g = N ∧ x = .slice ax k cx ∧ i = .int .i64 k ∧ Hid (wr.ownsRow w.heap.size 34 3 (.slice ax k cx) k (bR txE3 ((L.take k).map fun x => x.tx))) ∧ Hid (Below w.heap.size w wr))
 case atStart => exact ⟨0, none, 0, by omega, rfl, rfl, aA (World.ownsRow_nil _ _ _ _), aA (Below.refl _ _)⟩
 case round =>
  obtain ⟨k, ax, cx, hk, rfl, rfl, HO, HB⟩ := hrel
  have m1 := HM.out wr HB.out
  cases gk with
  | zero =>
   obtain rfl : k = N := by omega
   have hz : ¬ ((k : Int) < (k : Int)) := by omega
   go_wp2_with fail
   go_ret
   refine ⟨_, rfl, ?_, HB.out⟩
   have ho := HO.out
   have e1 : L.take k = L := by rw [HL.out]; exact List.take_length
   rw [e1] at ho
   rw [← HL.out]
   have e2 : bV (L.map fun x => txI x.tx) = bR txE3 (L.map fun x => x.tx) := by
    unfold bV bR
    rw [List.flatMap_map, List.flatMap_map]
   rw [e2]
   exact ho
  | succ g =>
   have hkI : (k : Int) < (N : Int) := by omega
   have hkn : k < L.length := by rw [← HL.out]; omega
   obtain ⟨en, b, off, hao, hbl, hc⟩ := (HR.out.below HB.out).at eJ.len hkn
   have r1 := hc 1 _ rfl
   have r2 := hc 2 _ rfl
   have r3 := hc 3 _ rfl
   cases hao
   have HTS : Hid ((L.take (k + 1)).map (fun x => x.tx) = (L.take k).map (fun x => x.tx) ++ [(L[k]).tx]) := aA (by rw [List.take_succ_eq_append_getElem hkn, List.map_append]; rfl)
   have HTL : Hid (((L.take k).map fun x => x.tx).length = k) := aA (by rw [List.length_map, List.length_take]; omega)
   generalize L[k].tx = y at *
   have HTN : Hid (((L.take k).map (fun x => x.tx) ++ [y]).length = k + 1) := aA (by rw [List.length_append, HTL.out]; rfl)
   have HAL := aA (aE wr (.cells #[.int .u8 (y.1 : Int), .int .u32 (y.2.1 : Int), .int .u32 (y.2.2 : Int)] 34))
   have HOW := aA (aJ HO.out (aC.of_below (fun _ => False) HAL.out) (fun _ _ h => h))
   have HWS := aA HB.out.size
   clear hc en hbl
   go_wp2_with (at_builtin; refine dS dP _ rfl _ _ rfl w.heap.size (.slice ax k cx) _ ((L.take k).map fun x => x.tx) [y] rfl (by rw [HTL.out]; exact HOW.out) rfl (dK (enc := txE3) wr y _ rfl 34) (fun z hz => by simp at hz; subst hz; exact kZ _) (by rw [HTL.out]; simp; omega) (Nat.le_trans HWS.out HAL.out.size) ?_; intro v4 w4 ho4 hg4 _; rw [HTN.out] at ho4; obtain ⟨a4, c4, hv4, _⟩ := aQ ho4; subst hv4; have HB4 : Hid (Below w.heap.size w w4) := aA ((HB.out.trans (HAL.out.mono HB.out.size)).grown hg4 (Nat.le_trans HWS.out HAL.out.size) (fun j hj => (HOW.out.lt j hj).1)); have HO4 := aA ho4; clear ho4 hg4)
   go_roundg g
   case measure => omega
   case rel =>
    refine ⟨k + 1, a4, c4, by omega, ?_, by first | rfl | go_num, aA ?_, HB4⟩
    ·rfl
    ·have ho := HO4.out
     rw [HTS.out]
     exact ho
end
section
open Go.RowKit
theorem ahead_ne (ks : List Int) (k : Nat) (hk : k < (aX ks).length) : ks.getD k 0 ≠ 0 := by
 have h1 := fZ ks
 have e : (aX ks)[k] = ks[k]'(by omega) := by
  have := fB ks
  rw [List.getElem_of_eq this]
  simp
 intro h0
 have : ks[k]'(by omega) = 0 := by
  have h2 : k < ks.length := by omega
  simpa [List.getD, h2] using h0
 rw [← e] at this
 exact aheadF_no ks (this ▸ List.getElem_mem hk)
theorem ahead_zero : ∀ ks : List Int, (aX ks).length < ks.length → ks.getD (aX ks).length 0 = 0
 | [], h => by simp at h
 | x :: r, h => by
  have ih := ahead_zero r
  unfold aX at h ⊢
  split
  ·rename_i h0; rw [h0]; rfl
  ·rename_i h0
   rw [if_neg h0] at h
   simp only [List.length_cons, List.getD_cons_succ] at h ⊢
   exact ih (by omega)
theorem name_all (ks : List Int) (hl : ks.length = 8) (h : ∀ j, (aX ks).length ≤ j → j < 8 → ks.getD j 0 = 0) : ks = aX ks ++ List.replicate (8 - (aX ks).length) 0 := by
 have h1 := fZ ks
 have h2 := fB ks
 have h3 : ks.drop (aX ks).length = List.replicate (8 - (aX ks).length) 0 := by
  apply List.ext_getElem
  ·simp [hl]
  ·intro i hi1 hi2
   have hlt : (aX ks).length + i < ks.length := by simp at hi1; omega
   have := h ((aX ks).length + i) (by omega) (by omega)
   simp only [List.getElem_drop, List.getElem_replicate]
   simpa [List.getD, hlt] using this
 rw [← h3]
 conv => lhs; rw [← List.take_append_drop (aX ks).length ks, ← h2]
theorem name_other (ks : List Int) (j : Nat) (h1 : (aX ks).length ≤ j) (h2 : ks.getD j 0 ≠ 0) : ks ≠ aX ks ++ List.replicate (8 - (aX ks).length) 0 := by
 intro e
 have h3 : (aX ks ++ List.replicate (8 - (aX ks).length) 0).getD j 0 = 0 := by
  rw [List.getD_eq_getElem?_getD, List.getElem?_append_right h1, List.getElem?_replicate]
  split <;> rfl
 rw [← e] at h3
 exact h2 h3
theorem box_lies {w : World} {q : Nat} {ks : List Int} {t : TypeId} (h : bZ w q (aY ks) t) (hl : ks.length = 8) : cX .u8 w (.slice (some ⟨q, 0, none⟩) ks.length 8) ks :=
 .inr ⟨fun e => by rw [e] at hl; simp at hl, q, 0, 8, rfl, h.lt, by omega, by unfold maxLen; omega, fun t ht => by rw [Nat.zero_add]; exact h.cell t _ (by simp [aY, List.getD, ht])⟩
set_option maxHeartbeats 1600000 in
theorem rname_any (ks : List Int) (hl : ks.length = 8) (w : World) :
  Calls Tryz.prog 83 #[.agg (aY ks)] w fun e w' => e = .returned (.tuple #[.string (strOfNums (cU ks).1), .bool (cU ks).2]) ∧ Below w.heap.size w w' := by
 have hle := fZ ks
 rw [hl] at hle
 have HNE := aA (ahead_ne ks)
 have HZE := aA (ahead_zero ks)
 have HC : Hid (∀ t, t < 8 → (w.alloc (.cells (aY ks) 38)).cell? ⟨w.heap.size, t, none⟩ = some (.int .u8 (ks.getD t 0))) := aA (fun t ht => (aN w _ _).cell t _ (by
  have : t < ks.length := by omega
  simp [aY, List.getD, this]))
 have HLT := aA ((box_lies (aN w (aY ks) 38) hl).take (n := (aX ks).length) (fZ ks))
 rw [← fB ks] at HLT
 have hcv := HLT.out.convert
 have HB0 := aA ((Below.refl w.heap.size w).alloc (Nat.le_refl _) (.cells (aY ks) 38))
 have HALL := aA (name_all ks hl)
 have HOTH := aA (name_other ks)
 have HL := aA hl
 have HNM : Hid (cU ks = if aX ks = [] ∨ ks ≠ aX ks ++ List.replicate (8 - (aX ks).length) 0 then ([], false) else (aX ks, true)) := aA rfl
 have HEM : Hid ((aX ks).length = 0 → aX ks = []) := aA List.eq_nil_of_length_eq_zero
 have HEN : Hid ((aX ks).length ≠ 0 → aX ks ≠ []) := aA (fun h e => h (by rw [e]; rfl))
 rw [hl] at HZE
 clear hl HLT
 generalize aY ks = ca at *
 generalize hst : strOfNums (aX ks) = st at *
 have HST := aA hst
 clear hst
 generalize hN : (aX ks).length = N at *
 clear hN
 go_enter Tryz.func83, Tryz.ntmps83
 go_wp2
 go_loop [4] (fun i => ∃ k : Nat, k ≤ N ∧ i = .int .i64 k) (fun i => N - (intOf i).toNat)
 case atStart => exact ⟨0, Nat.zero_le _, rfl⟩
 case round =>
  obtain ⟨k, hk, rfl⟩ := hrel
  by_cases hlt : k < N
  ·have hk8 : (k : Int) < 8 := by omega
   have hcell := HC.out k (by omega)
   have hne : (ks.getD k 0 != 0) = true := bne_iff_ne.2 (HNE.out k hlt)
   generalize ks.getD k 0 = c at *
   go_wp2
   go_round
   case rel => exact ⟨k + 1, by omega, by go_num⟩
   case measure => simp [intOf]; omega
  ·obtain rfl : k = N := by omega
   by_cases h8 : k < 8
   ·have hk8 : (k : Int) < 8 := by omega
    have hcell := HC.out k h8
    have hzk := HZE.out h8
    rw [hzk] at hcell
    clear hzk
    go_wp2
    go_loop [5] (fun i => ∃ j : Nat, k ≤ j ∧ j ≤ 8 ∧ i = .int .i64 j ∧ Hid (∀ t, k ≤ t → t < j → ks.getD t 0 = 0)) (fun i => 8 - (intOf i).toNat)
    case atStart => exact ⟨k, Nat.le_refl _, hle, rfl, aA (fun t h1 h2 => by omega)⟩
    case round =>
     obtain ⟨j, hj1, hj2, rfl, HZ⟩ := hrel
     by_cases hj8 : j < 8
     ·have hj8I : (j : Int) < 8 := by omega
      have hcj := HC.out j hj8
      by_cases h0 : ks.getD j 0 = 0
      ·rw [h0] at hcj
       have HZ2 : Hid (∀ t, k ≤ t → t < j + 1 → ks.getD t 0 = 0) := aA (fun t h1 h2 => by
        by_cases e : t = j
        ·rw [e]; exact h0
        ·exact HZ.out t h1 (by omega))
       clear h0
       go_wp2
       go_round
       case rel => exact ⟨j + 1, by omega, by omega, by go_num, HZ2⟩
       case measure => simp [intOf]; omega
      ·have HF : Hid (cU ks = ([], false)) := aA (by rw [HNM.out, if_pos (.inr (HOTH.out j hj1 h0))])
       have hne : (ks.getD j 0 != 0) = true := bne_iff_ne.2 h0
       clear h0
       generalize ks.getD j 0 = c at *
       go_wp2
       go_ret2
       exact ⟨by rw [HF.out]; rfl, HB0.out⟩
     ·have hj8I : decide ((j : Int) < 8) = false := decide_eq_false (by omega)
      have HKS := aA (HALL.out (fun t h1 h2 => HZ.out t h1 (by omega)))
      by_cases hk0 : k = 0
      ·have HF : Hid (cU ks = ([], false)) := aA (by rw [HNM.out, if_pos (.inl (HEM.out hk0))])
       have hk0I : ((k : Int) == 0) = true := beq_iff_eq.2 (by omega)
       clear hk0
       go_wp2
       go_ret2
       exact ⟨by rw [HF.out]; rfl, HB0.out⟩
      ·have HF : Hid (cU ks = (aX ks, true)) := aA (by
        rw [HNM.out, if_neg]
        simp only [not_or, Classical.not_not]
        exact ⟨HEN.out hk0, HKS.out⟩)
       have hk0I : ((k : Int) == 0) = false := beq_eq_false_iff_ne.2 (by omega)
       clear hk0
       have hkI8 : (k : Int) ≤ 8 := by omega
       go_wp2
       go_ret2
       exact ⟨by rw [HF.out, HST.out]; rfl, HB0.out⟩
   ·have hk8 : decide ((k : Int) < 8) = false := decide_eq_false (by omega)
    go_wp2
    go_loop [5] (fun i => ∃ j : Nat, k ≤ j ∧ j ≤ 8 ∧ i = .int .i64 j ∧ Hid (∀ t, k ≤ t → t < j → ks.getD t 0 = 0)) (fun i => 8 - (intOf i).toNat)
    case atStart => exact ⟨k, Nat.le_refl _, hle, rfl, aA (fun t h1 h2 => by omega)⟩
    case round =>
     obtain ⟨j, hj1, hj2, rfl, HZ⟩ := hrel
     by_cases hj8 : j < 8
     ·have hj8I : (j : Int) < 8 := by omega
      have hcj := HC.out j hj8
      by_cases h0 : ks.getD j 0 = 0
      ·rw [h0] at hcj
       have HZ2 : Hid (∀ t, k ≤ t → t < j + 1 → ks.getD t 0 = 0) := aA (fun t h1 h2 => by
        by_cases e : t = j
        ·rw [e]; exact h0
        ·exact HZ.out t h1 (by omega))
       clear h0
       go_wp2
       go_round
       case rel => exact ⟨j + 1, by omega, by omega, by go_num, HZ2⟩
       case measure => simp [intOf]; omega
      ·have HF : Hid (cU ks = ([], false)) := aA (by rw [HNM.out, if_pos (.inr (HOTH.out j hj1 h0))])
       have hne : (ks.getD j 0 != 0) = true := bne_iff_ne.2 h0
       clear h0
       generalize ks.getD j 0 = c at *
       go_wp2
       go_ret2
       exact ⟨by rw [HF.out]; rfl, HB0.out⟩
     ·have hj8I : decide ((j : Int) < 8) = false := decide_eq_false (by omega)
      have HKS := aA (HALL.out (fun t h1 h2 => HZ.out t h1 (by omega)))
      by_cases hk0 : k = 0
      ·have HF : Hid (cU ks = ([], false)) := aA (by rw [HNM.out, if_pos (.inl (HEM.out hk0))])
       have hk0I : ((k : Int) == 0) = true := beq_iff_eq.2 (by omega)
       clear hk0
       go_wp2
       go_ret2
       exact ⟨by rw [HF.out]; rfl, HB0.out⟩
      ·have HF : Hid (cU ks = (aX ks, true)) := aA (by
        rw [HNM.out, if_neg]
        simp only [not_or, Classical.not_not]
        exact ⟨HEN.out hk0, HKS.out⟩)
       have hk0I : ((k : Int) == 0) = false := beq_eq_false_iff_ne.2 (by omega)
       clear hk0
       have hkI8 : (k : Int) ≤ 8 := by omega
       go_wp2
       go_ret2
       exact ⟨by rw [HF.out, HST.out]; rfl, HB0.out⟩
end
section
open Go.RowKit Classical
theorem lA {k : List Int} (h : k.length = 8) : aY k = aK k := by
 unfold aY
 rw [← fY h]
theorem rkeyMay_any (k : List Int) (hk : gX k) (w : World) : Calls Tryz.prog 55 #[.agg (aK k)] w fun e w' => e = .returned (.bool (cU k).2) ∧ Below w.heap.size w w' := by
 have hA := alloc_below10 w (.cells (aK k) 38)
 have hX := aN w (aK k) 38
 obtain ⟨w1, hw1⟩ : ∃ w1, w1 = w.alloc (.cells (aK k) 38) := ⟨_, rfl⟩
 rw [← hw1] at hA hX
 have C := rname_any k hk.l w1
 rw [lA hk.l] at C
 have HC := aA C
 have HA := aA hA
 have HX := aA hX
 have hW := hw1.symm
 obtain ⟨x0, x1, x2, x3, x4, x5, x6, x7⟩ := hX.eight
 generalize (cU k).1 = nm at *
 generalize (cU k).2 = r at *
 clear hA hX hw1 C
 go_enter Tryz.func55, Tryz.ntmps55
 go_wp2_with (first | (go_at_call 83; refine HC.out.mono ?_; rintro e w2 ⟨rfl, hB2⟩; have HB2 := aA hB2; clear hB2))
 go_ret
 exact ⟨rfl, HA.out.trans (HB2.out.mono HA.out.size)⟩
end
end Go.Proofs.YtiloagmkkhlfjaaGreat
