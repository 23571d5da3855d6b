/-
  The reference of layer 11: May. Own work.
-/
import Derived.Test.YtencmgepffdodaaGreatGR3
namespace Go.Proofs.YtencmgepffdodaaGreat
section
open Go.RowKit Classical

theorem ok_putR {m a : RecP} (hm : RecOk m) (ha : RecOk a) {f : Nat} (hf : f < 8) : RecOk (putR f m a) := by
  refine byEight (P := fun f => RecOk (putR f m a)) hf ?_ ?_ ?_ ?_ ?_ ?_ ?_ ?_
  · exact { ha with n := hm.n }
  · exact { ha with tx := hm.tx }
  · exact { ha with reg := hm.reg }
  · exact { ha with mem := hm.mem }
  · exact { ha with wr := hm.wr }
  · exact { ha with mis := hm.mis }
  · exact { ha with key := hm.key }
  · exact { ha with item := hm.item }
theorem ok_putRs {m : RecP} (hm : RecOk m) : ∀ (fs : List Nat), (∀ f ∈ fs, f < 8) → ∀ a, RecOk a → RecOk (putRs fs m a)
  | [], _, _, ha => ha
  | f :: fs, hf, _, ha => ok_putRs hm fs (fun g hg => hf g (List.mem_cons_of_mem _ hg)) _ (ok_putR hm ha (hf f (List.mem_cons_self ..)))
theorem zeroR_ok {k : Nat} (h : k < 256) : RecOk (zeroR k) := by
  refine ⟨h, by simp [zeroR], by simp [zeroR], by simp [zeroR], by simp [zeroR], by simp [zeroR], by simp [zeroR], ⟨rfl, ?_⟩, ⟨by simp [zeroR, zeroIt], by simp [zeroR, zeroIt], ?_⟩⟩
  · intro c hc; simp [zeroR] at hc; omega
  · refine ⟨?_, ?_, ?_, ?_, ?_⟩ <;> simp [zeroR, zeroIt, zeroCf]
theorem keptP_ok {m : RecP} (hm : RecOk m) : RecOk (keptP m) := by
  unfold keptP
  split
  · exact zeroR_ok (by decide)
  · exact ok_putRs hm _ (fieldsR_facts m.kind).2 _ (zeroR_ok hm.kind)
theorem mayR_of {m : RecP} (hS : keptP m = m) (hne : (fieldsR m.kind).isEmpty = false) : mayR m = (fieldsR m.kind).all (mayRf m) := by
  have hk : keptR m = true := by
    unfold keptP at hS
    rw [hne] at hS
    have h : putRs (fieldsR m.kind) m (zeroR m.kind) = m := hS
    unfold keptR
    rw [List.all_eq_true]
    intro g hg
    have hg8 : g < 8 := by simpa using hg
    by_cases hc : g ∈ fieldsR m.kind
    · simp [hc]
    · have := putRs_other m hg8 (fieldsR m.kind) (fieldsR_facts m.kind).2 hc (zeroR m.kind)
      rw [h] at this
      rw [(zeroRB_eq hg8 m m.kind).2 this, Bool.or_true]
  unfold mayR
  rw [hne, hk]
  rfl
theorem mayR_not {m : RecP} (hS : keptP m ≠ m) : mayR m = false := by
  unfold mayR
  by_cases hne : (fieldsR m.kind).isEmpty = true
  · rw [hne]; rfl
  · by_cases hk : keptR m = true
    · exact absurd (by unfold keptP; rw [if_neg hne]; exact keptR_put hk) hS
    · rw [Bool.eq_false_iff.2 hk]; simp
theorem en11_rkept : ∀ args w, (callFunc 23 args).run Tryz.prog w = .ok (.enter 23 args) w := enters_of Tryz.func23 (by kernel_rfl) rfl
theorem en11_rsame : ∀ args w, (callFunc 14 args).run Tryz.prog w = .ok (.enter 14 args) w := enters_of Tryz.func14 (by kernel_rfl) rfl
set_option maxRecDepth 100000 in
set_option maxHeartbeats 6400000 in
theorem rmay11_9 (m : RecP) (hS : keptP m ≠ m) (ao bo : Option Addr) (L c J d : Nat) (w : World) (hm : RecOk m) (hs : RSrc wrE w (.slice ao L c) m.wr) (ht : Lies .u64 w (.slice bo J d) (misI m.mis)) (_hi : m.item.val.length ≤ 9223372036854775807) (_hv : ∀ x ∈ m.wr, x.it.val.length ≤ 9223372036854775807) (_hl : m.wr.length ≤ 100000) : Calls Tryz.prog 12 #[.agg (recA m (.slice ao L c) (.slice bo J d))] w fun e w' => e = .returned (.bool (mayR m)) ∧ Below w.heap.size w w' := by
  have hA := alloc_below10 w (.cells (recA m (.slice ao L c) (.slice bo J d)) 37)
  have hX := box_new w (recA m (.slice ao L c) (.slice bo J d)) 37
  obtain ⟨wb, hwb⟩ : ∃ wb, wb = w.alloc (.cells (recA m (.slice ao L c) (.slice bo J d)) 37) := ⟨_, rfl⟩
  rw [← hwb] at hA hX
  have hW := hwb.symm
  have HA := hide hA
  have HX := hide hX
  have hsb := hs.below hA
  have htb := ht.below hA
  have hKs := keptW_src hsb
  have hKt := keptM_lies htb (Lies.nil .u64 wb)
  have hKo := keptP_ok hm
  have CK := hide (fun W => rkept11_any m ao bo L c J d W)
  obtain ⟨KP, hKP⟩ : ∃ KP, KP = keptP m := ⟨_, rfl⟩
  obtain ⟨KW, hKW⟩ : ∃ KW, KW = keptW m.kind (.slice ao L c) := ⟨_, rfl⟩
  obtain ⟨KM, hKM⟩ : ∃ KM, KM = keptM m.kind (.slice bo J d) := ⟨_, rfl⟩
  rw [← hKP] at hKs hKt hKo CK
  rw [← hKW] at hKs CK
  rw [← hKM] at hKt CK
  obtain ⟨ka, kc, rfl, -, -⟩ := hKs.shape
  obtain ⟨ja, jc, rfl⟩ := hKt.shape
  have hEQ : decide (KP = m) = false := by rw [hKP]; exact decide_eq_false hS
  have CS : Hid (∀ W, Below wb.heap.size wb W → Calls Tryz.prog 14 #[.agg (recA KP (.slice ka KP.wr.length kc) (.slice ja (misI KP.mis).length jc)), .agg (recA m (.slice ao L c) (.slice bo J d))] W fun e w' => e = .returned (.bool false) ∧ Below W.heap.size W w') := hide (fun W hB => by
    have h := rsame11_any KP m ka ao ja bo KP.wr.length kc L c (misI KP.mis).length jc J d W hKo hm (hKs.below hB) (hsb.below hB) (hKt.below hB) (htb.below hB)
    rw [hEQ] at h
    exact h)
  obtain ⟨kl, hkl⟩ : ∃ kl, kl = KP.wr.length := ⟨_, rfl⟩
  obtain ⟨jl, hjl⟩ : ∃ jl, jl = (misI KP.mis).length := ⟨_, rfl⟩
  rw [← hkl, ← hjl] at CS CK
  rw [mayR_not hS]
  clear hA hX hwb hsb htb hm hs ht hKo hKs hKt hKP hKW hKM hkl hjl hS hEQ
  go_enter Tryz.func12, Tryz.ntmps12
  go_wp2_with fail
  refine wp_region_vals (by kernel_rfl) [(5, .agg (recA m (.slice ao L c) (.slice bo J d))), (6, .agg (recA KP (.slice ka kl kc) (.slice ja jl jc))), (7, .agg (recA m (.slice ao L c) (.slice bo J d))), (8, .bool false), (9, .bool true)] (by kernel_rfl) rfl ?_ ?_
  · intro i o hi A w1 hB hold hdeps
    have hlt : i < 5 := (Array.getElem?_eq_some_iff.1 hi).1
    have hc : i = 0 ∨ i = 1 ∨ i = 2 ∨ i = 3 ∨ i = 4 := by omega
    clear hlt
    rcases hc with rfl | rfl | rfl | rfl | rfl
    · obtain rfl := Option.some.inj hi
      have s1 : A.tmps.getD 1 undef = .pointer (some ⟨w.heap.size, 0, none⟩) := hold 1 (by kernel_rfl)
      exact r_pure hi rfl rfl (y_load _ _ s1 (HX.out.belowI hB) Tryz.underlying37 rfl infoRRec)
    · obtain rfl := Option.some.inj hi
      have s5 : A.tmps.getD 5 undef = .agg (recA m (.slice ao L c) (.slice bo J d)) := dep_of hdeps 0 (by kernel_rfl)
      exact r_enter hi rfl rfl (y_call 23 _ #[.agg (recA m (.slice ao L c) (.slice bo J d))] _ rfl (by simp only [List.map_toArray, List.map_cons, List.map_nil, show A.eval (.tmp 5) = .agg (recA m (.slice ao L c) (.slice bo J d)) from s5]; try rfl) en11_rkept) (CK.out w1)
    · obtain rfl := Option.some.inj hi
      have s1 : A.tmps.getD 1 undef = .pointer (some ⟨w.heap.size, 0, none⟩) := hold 1 (by kernel_rfl)
      exact r_pure hi rfl rfl (y_load _ _ s1 (HX.out.belowI hB) Tryz.underlying37 rfl infoRRec)
    · obtain rfl := Option.some.inj hi
      have s6 : A.tmps.getD 6 undef = .agg (recA KP (.slice ka kl kc) (.slice ja jl jc)) := dep_of hdeps 1 (by kernel_rfl)
      have s7 : A.tmps.getD 7 undef = .agg (recA m (.slice ao L c) (.slice bo J d)) := dep_of hdeps 2 (by kernel_rfl)
      exact r_enter hi rfl rfl (y_call 14 _ #[.agg (recA KP (.slice ka kl kc) (.slice ja jl jc)), .agg (recA m (.slice ao L c) (.slice bo J d))] _ rfl (by simp only [List.map_toArray, List.map_cons, List.map_nil, show A.eval (.tmp 6) = .agg (recA KP (.slice ka kl kc) (.slice ja jl jc)) from s6, show A.eval (.tmp 7) = .agg (recA m (.slice ao L c) (.slice bo J d)) from s7]; try rfl) en11_rsame) (CS.out w1 hB)
    · obtain rfl := Option.some.inj hi
      have s8 : A.tmps.getD 8 undef = .bool false := dep_of hdeps 3 (by kernel_rfl)
      exact r_pure hi rfl rfl (y_not (a := false) _ _ s8)
  · intro w8 hB8
    simp only [putAll, Act.put, List.setIfInBounds_toArray, List.set_cons_succ, List.set_cons_zero]
    have HB8 := hide hB8
    clear hB8 CK CS
    go_wp2_with fail
    go_ret
    exact ⟨rfl, HA.out.trans (HB8.out.mono HA.out.size)⟩
set_option maxRecDepth 100000 in
set_option maxHeartbeats 6400000 in
theorem rmay11_0 (m : RecP) (hS : keptP m = m) (hk : (fieldsR m.kind).isEmpty = true) (ao bo : Option Addr) (L c J d : Nat) (w : World) (hm : RecOk m) (hs : RSrc wrE w (.slice ao L c) m.wr) (ht : Lies .u64 w (.slice bo J d) (misI m.mis)) (_hi : m.item.val.length ≤ 9223372036854775807) (hv : ∀ x ∈ m.wr, x.it.val.length ≤ 9223372036854775807) (hl : m.wr.length ≤ 100000) : Calls Tryz.prog 12 #[.agg (recA m (.slice ao L c) (.slice bo J d))] w fun e w' => e = .returned (.bool (mayR m)) ∧ Below w.heap.size w w' := by
  have hA := alloc_below10 w (.cells (recA m (.slice ao L c) (.slice bo J d)) 37)
  have hX := box_new w (recA m (.slice ao L c) (.slice bo J d)) 37
  obtain ⟨wb, hwb⟩ : ∃ wb, wb = w.alloc (.cells (recA m (.slice ao L c) (.slice bo J d)) 37) := ⟨_, rfl⟩
  rw [← hwb] at hA hX
  have hW := hwb.symm
  have HA := hide hA
  have HX := hide hX
  have hsb := hs.below hA
  have htb := ht.below hA
  have hKs := keptW_src hsb
  have hKt := keptM_lies htb (Lies.nil .u64 wb)
  have hKo := keptP_ok hm
  have CK := hide (fun W => rkept11_any m ao bo L c J d W)
  obtain ⟨KP, hKP⟩ : ∃ KP, KP = keptP m := ⟨_, rfl⟩
  obtain ⟨KW, hKW⟩ : ∃ KW, KW = keptW m.kind (.slice ao L c) := ⟨_, rfl⟩
  obtain ⟨KM, hKM⟩ : ∃ KM, KM = keptM m.kind (.slice bo J d) := ⟨_, rfl⟩
  rw [← hKP] at hKs hKt hKo CK
  rw [← hKW] at hKs CK
  rw [← hKM] at hKt CK
  obtain ⟨ka, kc, rfl, -, -⟩ := hKs.shape
  obtain ⟨ja, jc, rfl⟩ := hKt.shape
  have hEQ : decide (KP = m) = true := by rw [hKP]; exact decide_eq_true hS
  have CS : Hid (∀ W, Below wb.heap.size wb W → Calls Tryz.prog 14 #[.agg (recA KP (.slice ka KP.wr.length kc) (.slice ja (misI KP.mis).length jc)), .agg (recA m (.slice ao L c) (.slice bo J d))] W fun e w' => e = .returned (.bool true) ∧ Below W.heap.size W w') := hide (fun W hB => by
    have h := rsame11_any KP m ka ao ja bo KP.wr.length kc L c (misI KP.mis).length jc J d W hKo hm (hKs.below hB) (hsb.below hB) (hKt.below hB) (htb.below hB)
    rw [hEQ] at h
    exact h)
  obtain ⟨kl, hkl⟩ : ∃ kl, kl = KP.wr.length := ⟨_, rfl⟩
  obtain ⟨jl, hjl⟩ : ∃ jl, jl = (misI KP.mis).length := ⟨_, rfl⟩
  rw [← hkl, ← hjl] at CS CK
  have hLL : L = m.wr.length := by obtain ⟨_, _, e, -, -⟩ := hs.shape; injection e
  have hJJ : J = m.mis.length := by obtain ⟨_, _, e⟩ := ht.shape; injection e with _ e; rw [e, misI_len]
  have CWM := hide (fun W (hB : Below wb.heap.size wb W) => rwrites_any (.slice ao L c) m.wr W (hsb.below hB) hm.wr hv hl)
  have hg1 : decide ((L : Int) ≥ 1) = decide (1 ≤ m.wr.length) := by rw [hLL, Bool.eq_iff_iff, decide_eq_true_eq, decide_eq_true_eq]; omega
  have hR0 : mayR m = false := by unfold mayR; rw [hk]; rfl
  have hks : m.kind ≠ 1 ∧ m.kind ≠ 2 ∧ m.kind ≠ 3 ∧ m.kind ≠ 4 ∧ m.kind ≠ 5 ∧ m.kind ≠ 6 ∧ m.kind ≠ 7 := by
    refine ⟨?_, ?_, ?_, ?_, ?_, ?_, ?_⟩ <;> (intro h; rw [h] at hk; exact absurd hk (by decide))
  have e1 : ((m.kind : Int) == 1) = false := by rw [beq_eq_false_iff_ne]; omega
  have e2 : ((m.kind : Int) == 2) = false := by rw [beq_eq_false_iff_ne]; omega
  have e3 : ((m.kind : Int) == 3) = false := by rw [beq_eq_false_iff_ne]; omega
  have e4 : ((m.kind : Int) == 4) = false := by rw [beq_eq_false_iff_ne]; omega
  have e5 : ((m.kind : Int) == 5) = false := by rw [beq_eq_false_iff_ne]; omega
  have e6 : ((m.kind : Int) == 6) = false := by rw [beq_eq_false_iff_ne]; omega
  have e7 : ((m.kind : Int) == 7) = false := by rw [beq_eq_false_iff_ne]; omega
  obtain ⟨R, hR⟩ : ∃ R, R = mayR m := ⟨_, rfl⟩
  rw [← hR]
  have HR : Hid (R = false) := hide (by rw [hR, hR0])
  clear hA hX hwb hsb htb hm hs ht hv hl hKo hKs hKt hKP hKW hKM hkl hjl hS hEQ hLL hJJ hk hR0 hR
  generalize decide (1 ≤ m.wr.length) = b1 at *
  generalize wsMayB m.wr = b2 at *
  go_enter Tryz.func12, Tryz.ntmps12
  go_wp2_with fail
  refine wp_region_vals (by kernel_rfl) [(5, .agg (recA m (.slice ao L c) (.slice bo J d))), (6, .agg (recA KP (.slice ka kl kc) (.slice ja jl jc))), (7, .agg (recA m (.slice ao L c) (.slice bo J d))), (8, .bool true), (9, .bool false)] (by kernel_rfl) rfl ?_ ?_
  · intro i o hi A w1 hB hold hdeps
    have hlt : i < 5 := (Array.getElem?_eq_some_iff.1 hi).1
    have hc : i = 0 ∨ i = 1 ∨ i = 2 ∨ i = 3 ∨ i = 4 := by omega
    clear hlt
    rcases hc with rfl | rfl | rfl | rfl | rfl
    · obtain rfl := Option.some.inj hi
      have s1 : A.tmps.getD 1 undef = .pointer (some ⟨w.heap.size, 0, none⟩) := hold 1 (by kernel_rfl)
      exact r_pure hi rfl rfl (y_load _ _ s1 (HX.out.belowI hB) Tryz.underlying37 rfl infoRRec)
    · obtain rfl := Option.some.inj hi
      have s5 : A.tmps.getD 5 undef = .agg (recA m (.slice ao L c) (.slice bo J d)) := dep_of hdeps 0 (by kernel_rfl)
      exact r_enter hi rfl rfl (y_call 23 _ #[.agg (recA m (.slice ao L c) (.slice bo J d))] _ rfl (by simp only [List.map_toArray, List.map_cons, List.map_nil, show A.eval (.tmp 5) = .agg (recA m (.slice ao L c) (.slice bo J d)) from s5]; try rfl) en11_rkept) (CK.out w1)
    · obtain rfl := Option.some.inj hi
      have s1 : A.tmps.getD 1 undef = .pointer (some ⟨w.heap.size, 0, none⟩) := hold 1 (by kernel_rfl)
      exact r_pure hi rfl rfl (y_load _ _ s1 (HX.out.belowI hB) Tryz.underlying37 rfl infoRRec)
    · obtain rfl := Option.some.inj hi
      have s6 : A.tmps.getD 6 undef = .agg (recA KP (.slice ka kl kc) (.slice ja jl jc)) := dep_of hdeps 1 (by kernel_rfl)
      have s7 : A.tmps.getD 7 undef = .agg (recA m (.slice ao L c) (.slice bo J d)) := dep_of hdeps 2 (by kernel_rfl)
      exact r_enter hi rfl rfl (y_call 14 _ #[.agg (recA KP (.slice ka kl kc) (.slice ja jl jc)), .agg (recA m (.slice ao L c) (.slice bo J d))] _ rfl (by simp only [List.map_toArray, List.map_cons, List.map_nil, show A.eval (.tmp 6) = .agg (recA KP (.slice ka kl kc) (.slice ja jl jc)) from s6, show A.eval (.tmp 7) = .agg (recA m (.slice ao L c) (.slice bo J d)) from s7]; try rfl) en11_rsame) (CS.out w1 hB)
    · obtain rfl := Option.some.inj hi
      have s8 : A.tmps.getD 8 undef = .bool true := dep_of hdeps 3 (by kernel_rfl)
      exact r_pure hi rfl rfl (y_not (a := true) _ _ s8)
  · intro w8 hB8
    simp only [putAll, Act.put, List.setIfInBounds_toArray, List.set_cons_succ, List.set_cons_zero]
    have HB8 := hide hB8
    clear hB8 CK CS
    have x0 : w8.cell? ⟨w.heap.size, 0, none⟩ = some (.int .u8 (m.kind : Int)) := (HX.out.belowI HB8.out).cell 0 _ rfl
    have x8 : w8.cell? ⟨w.heap.size, 8, none⟩ = some ((.slice ao L c)) := (HX.out.belowI HB8.out).cell 8 _ rfl
    cases b1
    all_goals
      go_wp2_with (first
        | (go_at_call 24; refine (CWM.out _ HB8.out).mono ?_; rintro e w9 ⟨rfl, hB9⟩; have HB9 := hide (HB8.out.trans (hB9.mono HB8.out.size)); have y0 : w9.cell? ⟨w.heap.size, 0, none⟩ = some (.int .u8 (m.kind : Int)) := (HX.out.belowI HB9.out).cell 0 _ rfl; clear hB9))
      go_ret
      first
        | exact ⟨by rw [HR.out]; rfl, HA.out.trans (HB11.out.mono HA.out.size)⟩
        | exact ⟨by rw [HR.out]; rfl, HA.out.trans (HB10.out.mono HA.out.size)⟩
        | exact ⟨by rw [HR.out]; rfl, HA.out.trans (HB9.out.mono HA.out.size)⟩
        | exact ⟨by rw [HR.out]; rfl, HA.out.trans (HB8.out.mono HA.out.size)⟩
set_option maxRecDepth 100000 in
set_option maxHeartbeats 6400000 in
theorem rmay11_1 (m : RecP) (hS : keptP m = m) (hk : m.kind = 1) (ao bo : Option Addr) (L c J d : Nat) (w : World) (hm : RecOk m) (hs : RSrc wrE w (.slice ao L c) m.wr) (ht : Lies .u64 w (.slice bo J d) (misI m.mis)) (_hi : m.item.val.length ≤ 9223372036854775807) (hv : ∀ x ∈ m.wr, x.it.val.length ≤ 9223372036854775807) (hl : m.wr.length ≤ 100000) : Calls Tryz.prog 12 #[.agg (recA m (.slice ao L c) (.slice bo J d))] w fun e w' => e = .returned (.bool (mayR m)) ∧ Below w.heap.size w w' := by
  have hA := alloc_below10 w (.cells (recA m (.slice ao L c) (.slice bo J d)) 37)
  have hX := box_new w (recA m (.slice ao L c) (.slice bo J d)) 37
  obtain ⟨wb, hwb⟩ : ∃ wb, wb = w.alloc (.cells (recA m (.slice ao L c) (.slice bo J d)) 37) := ⟨_, rfl⟩
  rw [← hwb] at hA hX
  have hW := hwb.symm
  have HA := hide hA
  have HX := hide hX
  have hsb := hs.below hA
  have htb := ht.below hA
  have hKs := keptW_src hsb
  have hKt := keptM_lies htb (Lies.nil .u64 wb)
  have hKo := keptP_ok hm
  have CK := hide (fun W => rkept11_any m ao bo L c J d W)
  obtain ⟨KP, hKP⟩ : ∃ KP, KP = keptP m := ⟨_, rfl⟩
  obtain ⟨KW, hKW⟩ : ∃ KW, KW = keptW m.kind (.slice ao L c) := ⟨_, rfl⟩
  obtain ⟨KM, hKM⟩ : ∃ KM, KM = keptM m.kind (.slice bo J d) := ⟨_, rfl⟩
  rw [← hKP] at hKs hKt hKo CK
  rw [← hKW] at hKs CK
  rw [← hKM] at hKt CK
  obtain ⟨ka, kc, rfl, -, -⟩ := hKs.shape
  obtain ⟨ja, jc, rfl⟩ := hKt.shape
  have hEQ : decide (KP = m) = true := by rw [hKP]; exact decide_eq_true hS
  have CS : Hid (∀ W, Below wb.heap.size wb W → Calls Tryz.prog 14 #[.agg (recA KP (.slice ka KP.wr.length kc) (.slice ja (misI KP.mis).length jc)), .agg (recA m (.slice ao L c) (.slice bo J d))] W fun e w' => e = .returned (.bool true) ∧ Below W.heap.size W w') := hide (fun W hB => by
    have h := rsame11_any KP m ka ao ja bo KP.wr.length kc L c (misI KP.mis).length jc J d W hKo hm (hKs.below hB) (hsb.below hB) (hKt.below hB) (htb.below hB)
    rw [hEQ] at h
    exact h)
  obtain ⟨kl, hkl⟩ : ∃ kl, kl = KP.wr.length := ⟨_, rfl⟩
  obtain ⟨jl, hjl⟩ : ∃ jl, jl = (misI KP.mis).length := ⟨_, rfl⟩
  rw [← hkl, ← hjl] at CS CK
  have hLL : L = m.wr.length := by obtain ⟨_, _, e, -, -⟩ := hs.shape; injection e
  have hJJ : J = m.mis.length := by obtain ⟨_, _, e⟩ := ht.shape; injection e with _ e; rw [e, misI_len]
  have CWM := hide (fun W (hB : Below wb.heap.size wb W) => rwrites_any (.slice ao L c) m.wr W (hsb.below hB) hm.wr hv hl)
  have hg1 : decide ((L : Int) ≥ 1) = decide (1 ≤ m.wr.length) := by rw [hLL, Bool.eq_iff_iff, decide_eq_true_eq, decide_eq_true_eq]; omega
  have HKD := hide hk
  have hR0 : mayR m = ([0] : List Nat).all (mayRf m) := by rw [mayR_of hS (by rw [hk]; rfl), hk]; rfl
  obtain ⟨R, hR⟩ : ∃ R, R = mayR m := ⟨_, rfl⟩
  rw [← hR]
  have HR : Hid (R = (decide (1 ≤ m.n) && decide (m.n ≤ mxN))) := hide (by rw [hR, hR0]; simp [mayRf])
  have hn1 : decide ((m.n : Int) ≥ 1) = decide (1 ≤ m.n) := by rw [Bool.eq_iff_iff, decide_eq_true_eq, decide_eq_true_eq]; omega
  have hn2 : decide ((m.n : Int) ≤ 2147483647) = decide (m.n ≤ mxN) := by rw [Bool.eq_iff_iff, decide_eq_true_eq, decide_eq_true_eq]; show _ ↔ m.n ≤ 2147483647; omega
  generalize decide (1 ≤ m.n) = r1 at *
  generalize decide (m.n ≤ mxN) = r2 at *
  clear hA hX hwb hsb htb hm hs ht hv hl hKo hKs hKt hKP hKW hKM hkl hjl hS hEQ hLL hJJ hk hR0 hR
  generalize decide (1 ≤ m.wr.length) = b1 at *
  generalize wsMayB m.wr = b2 at *
  go_enter Tryz.func12, Tryz.ntmps12
  go_wp2_with fail
  refine wp_region_vals (by kernel_rfl) [(5, .agg (recA m (.slice ao L c) (.slice bo J d))), (6, .agg (recA KP (.slice ka kl kc) (.slice ja jl jc))), (7, .agg (recA m (.slice ao L c) (.slice bo J d))), (8, .bool true), (9, .bool false)] (by kernel_rfl) rfl ?_ ?_
  · intro i o hi A w1 hB hold hdeps
    have hlt : i < 5 := (Array.getElem?_eq_some_iff.1 hi).1
    have hc : i = 0 ∨ i = 1 ∨ i = 2 ∨ i = 3 ∨ i = 4 := by omega
    clear hlt
    rcases hc with rfl | rfl | rfl | rfl | rfl
    · obtain rfl := Option.some.inj hi
      have s1 : A.tmps.getD 1 undef = .pointer (some ⟨w.heap.size, 0, none⟩) := hold 1 (by kernel_rfl)
      exact r_pure hi rfl rfl (y_load _ _ s1 (HX.out.belowI hB) Tryz.underlying37 rfl infoRRec)
    · obtain rfl := Option.some.inj hi
      have s5 : A.tmps.getD 5 undef = .agg (recA m (.slice ao L c) (.slice bo J d)) := dep_of hdeps 0 (by kernel_rfl)
      exact r_enter hi rfl rfl (y_call 23 _ #[.agg (recA m (.slice ao L c) (.slice bo J d))] _ rfl (by simp only [List.map_toArray, List.map_cons, List.map_nil, show A.eval (.tmp 5) = .agg (recA m (.slice ao L c) (.slice bo J d)) from s5]; try rfl) en11_rkept) (CK.out w1)
    · obtain rfl := Option.some.inj hi
      have s1 : A.tmps.getD 1 undef = .pointer (some ⟨w.heap.size, 0, none⟩) := hold 1 (by kernel_rfl)
      exact r_pure hi rfl rfl (y_load _ _ s1 (HX.out.belowI hB) Tryz.underlying37 rfl infoRRec)
    · obtain rfl := Option.some.inj hi
      have s6 : A.tmps.getD 6 undef = .agg (recA KP (.slice ka kl kc) (.slice ja jl jc)) := dep_of hdeps 1 (by kernel_rfl)
      have s7 : A.tmps.getD 7 undef = .agg (recA m (.slice ao L c) (.slice bo J d)) := dep_of hdeps 2 (by kernel_rfl)
      exact r_enter hi rfl rfl (y_call 14 _ #[.agg (recA KP (.slice ka kl kc) (.slice ja jl jc)), .agg (recA m (.slice ao L c) (.slice bo J d))] _ rfl (by simp only [List.map_toArray, List.map_cons, List.map_nil, show A.eval (.tmp 6) = .agg (recA KP (.slice ka kl kc) (.slice ja jl jc)) from s6, show A.eval (.tmp 7) = .agg (recA m (.slice ao L c) (.slice bo J d)) from s7]; try rfl) en11_rsame) (CS.out w1 hB)
    · obtain rfl := Option.some.inj hi
      have s8 : A.tmps.getD 8 undef = .bool true := dep_of hdeps 3 (by kernel_rfl)
      exact r_pure hi rfl rfl (y_not (a := true) _ _ s8)
  · intro w8 hB8
    simp only [putAll, Act.put, List.setIfInBounds_toArray, List.set_cons_succ, List.set_cons_zero]
    have HB8 := hide hB8
    clear hB8 CK CS
    have x0 : w8.cell? ⟨w.heap.size, 0, none⟩ = some (.int .u8 1) := (by have h : w8.cell? ⟨w.heap.size, 0, none⟩ = some (.int .u8 (m.kind : Int)) := (HX.out.belowI HB8.out).cell 0 _ rfl; rw [HKD.out] at h; exact h)
    have x1 : w8.cell? ⟨w.heap.size, 1, none⟩ = some (.int .u32 (m.n : Int)) := (HX.out.belowI HB8.out).cell 1 _ rfl
    have x8 : w8.cell? ⟨w.heap.size, 8, none⟩ = some ((.slice ao L c)) := (HX.out.belowI HB8.out).cell 8 _ rfl
    cases b1 <;> cases r1 <;> cases r2
    all_goals
      go_wp2_with (first
        | (go_at_call 24; refine (CWM.out _ HB8.out).mono ?_; rintro e w9 ⟨rfl, hB9⟩; have HB9 := hide (HB8.out.trans (hB9.mono HB8.out.size)); have y0 : w9.cell? ⟨w.heap.size, 0, none⟩ = some (.int .u8 1) := (by have h : w9.cell? ⟨w.heap.size, 0, none⟩ = some (.int .u8 (m.kind : Int)) := (HX.out.belowI HB9.out).cell 0 _ rfl; rw [HKD.out] at h; exact h); have y1 : w9.cell? ⟨w.heap.size, 1, none⟩ = some (.int .u32 (m.n : Int)) := (HX.out.belowI HB9.out).cell 1 _ rfl; clear hB9))
      go_ret
      first
        | exact ⟨by rw [HR.out]; rfl, HA.out.trans (HB11.out.mono HA.out.size)⟩
        | exact ⟨by rw [HR.out]; rfl, HA.out.trans (HB10.out.mono HA.out.size)⟩
        | exact ⟨by rw [HR.out]; rfl, HA.out.trans (HB9.out.mono HA.out.size)⟩
        | exact ⟨by rw [HR.out]; rfl, HA.out.trans (HB8.out.mono HA.out.size)⟩
set_option maxRecDepth 100000 in
set_option maxHeartbeats 6400000 in
theorem rmay11_2 (m : RecP) (hS : keptP m = m) (hk : m.kind = 2) (ao bo : Option Addr) (L c J d : Nat) (w : World) (hm : RecOk m) (hs : RSrc wrE w (.slice ao L c) m.wr) (ht : Lies .u64 w (.slice bo J d) (misI m.mis)) (_hi : m.item.val.length ≤ 9223372036854775807) (hv : ∀ x ∈ m.wr, x.it.val.length ≤ 9223372036854775807) (hl : m.wr.length ≤ 100000) : Calls Tryz.prog 12 #[.agg (recA m (.slice ao L c) (.slice bo J d))] w fun e w' => e = .returned (.bool (mayR m)) ∧ Below w.heap.size w w' := by
  have hA := alloc_below10 w (.cells (recA m (.slice ao L c) (.slice bo J d)) 37)
  have hX := box_new w (recA m (.slice ao L c) (.slice bo J d)) 37
  obtain ⟨wb, hwb⟩ : ∃ wb, wb = w.alloc (.cells (recA m (.slice ao L c) (.slice bo J d)) 37) := ⟨_, rfl⟩
  rw [← hwb] at hA hX
  have hW := hwb.symm
  have HA := hide hA
  have HX := hide hX
  have hsb := hs.below hA
  have htb := ht.below hA
  have hKs := keptW_src hsb
  have hKt := keptM_lies htb (Lies.nil .u64 wb)
  have hKo := keptP_ok hm
  have CK := hide (fun W => rkept11_any m ao bo L c J d W)
  obtain ⟨KP, hKP⟩ : ∃ KP, KP = keptP m := ⟨_, rfl⟩
  obtain ⟨KW, hKW⟩ : ∃ KW, KW = keptW m.kind (.slice ao L c) := ⟨_, rfl⟩
  obtain ⟨KM, hKM⟩ : ∃ KM, KM = keptM m.kind (.slice bo J d) := ⟨_, rfl⟩
  rw [← hKP] at hKs hKt hKo CK
  rw [← hKW] at hKs CK
  rw [← hKM] at hKt CK
  obtain ⟨ka, kc, rfl, -, -⟩ := hKs.shape
  obtain ⟨ja, jc, rfl⟩ := hKt.shape
  have hEQ : decide (KP = m) = true := by rw [hKP]; exact decide_eq_true hS
  have CS : Hid (∀ W, Below wb.heap.size wb W → Calls Tryz.prog 14 #[.agg (recA KP (.slice ka KP.wr.length kc) (.slice ja (misI KP.mis).length jc)), .agg (recA m (.slice ao L c) (.slice bo J d))] W fun e w' => e = .returned (.bool true) ∧ Below W.heap.size W w') := hide (fun W hB => by
    have h := rsame11_any KP m ka ao ja bo KP.wr.length kc L c (misI KP.mis).length jc J d W hKo hm (hKs.below hB) (hsb.below hB) (hKt.below hB) (htb.below hB)
    rw [hEQ] at h
    exact h)
  obtain ⟨kl, hkl⟩ : ∃ kl, kl = KP.wr.length := ⟨_, rfl⟩
  obtain ⟨jl, hjl⟩ : ∃ jl, jl = (misI KP.mis).length := ⟨_, rfl⟩
  rw [← hkl, ← hjl] at CS CK
  have hLL : L = m.wr.length := by obtain ⟨_, _, e, -, -⟩ := hs.shape; injection e
  have hJJ : J = m.mis.length := by obtain ⟨_, _, e⟩ := ht.shape; injection e with _ e; rw [e, misI_len]
  have CWM := hide (fun W (hB : Below wb.heap.size wb W) => rwrites_any (.slice ao L c) m.wr W (hsb.below hB) hm.wr hv hl)
  have hg1 : decide ((L : Int) ≥ 1) = decide (1 ≤ m.wr.length) := by rw [hLL, Bool.eq_iff_iff, decide_eq_true_eq, decide_eq_true_eq]; omega
  have HKD := hide hk
  have hR0 : mayR m = ([1, 2, 4] : List Nat).all (mayRf m) := by rw [mayR_of hS (by rw [hk]; rfl), hk]; rfl
  have CT : Hid (∀ W, Calls Tryz.prog 25 #[.agg #[.int .u8 (m.tx.1 : Int), .int .u32 (m.tx.2.1 : Int), .int .u32 (m.tx.2.2 : Int)]] W fun e w' => e = .returned (.bool (txMayB (txI m.tx))) ∧ Below W.heap.size W w') := hide (fun W => rtxMay_any (m.tx.1 : Int) (m.tx.2.1 : Int) (m.tx.2.2 : Int) W)
  have CG := hide (fun W => rregMay_any (m.reg.1 : Int) (m.reg.2 : Int) W)
  obtain ⟨R, hR⟩ : ∃ R, R = mayR m := ⟨_, rfl⟩
  rw [← hR]
  have HR : Hid (R = (txMayB (txI m.tx) && regMayB ((m.reg.1 : Int), (m.reg.2 : Int)) && (decide (1 ≤ m.wr.length) && wsMayB m.wr))) := hide (by rw [hR, hR0]; simp [mayRf, Bool.and_assoc])
  clear hA hX hwb hsb htb hm hs ht hv hl hKo hKs hKt hKP hKW hKM hkl hjl hS hEQ hLL hJJ hk hR0 hR
  generalize txMayB (txI m.tx) = r1 at *
  generalize regMayB ((m.reg.1 : Int), (m.reg.2 : Int)) = r2 at *
  generalize decide (1 ≤ m.wr.length) = b1 at *
  generalize wsMayB m.wr = b2 at *
  go_enter Tryz.func12, Tryz.ntmps12
  go_wp2_with fail
  refine wp_region_vals (by kernel_rfl) [(5, .agg (recA m (.slice ao L c) (.slice bo J d))), (6, .agg (recA KP (.slice ka kl kc) (.slice ja jl jc))), (7, .agg (recA m (.slice ao L c) (.slice bo J d))), (8, .bool true), (9, .bool false)] (by kernel_rfl) rfl ?_ ?_
  · intro i o hi A w1 hB hold hdeps
    have hlt : i < 5 := (Array.getElem?_eq_some_iff.1 hi).1
    have hc : i = 0 ∨ i = 1 ∨ i = 2 ∨ i = 3 ∨ i = 4 := by omega
    clear hlt
    rcases hc with rfl | rfl | rfl | rfl | rfl
    · obtain rfl := Option.some.inj hi
      have s1 : A.tmps.getD 1 undef = .pointer (some ⟨w.heap.size, 0, none⟩) := hold 1 (by kernel_rfl)
      exact r_pure hi rfl rfl (y_load _ _ s1 (HX.out.belowI hB) Tryz.underlying37 rfl infoRRec)
    · obtain rfl := Option.some.inj hi
      have s5 : A.tmps.getD 5 undef = .agg (recA m (.slice ao L c) (.slice bo J d)) := dep_of hdeps 0 (by kernel_rfl)
      exact r_enter hi rfl rfl (y_call 23 _ #[.agg (recA m (.slice ao L c) (.slice bo J d))] _ rfl (by simp only [List.map_toArray, List.map_cons, List.map_nil, show A.eval (.tmp 5) = .agg (recA m (.slice ao L c) (.slice bo J d)) from s5]; try rfl) en11_rkept) (CK.out w1)
    · obtain rfl := Option.some.inj hi
      have s1 : A.tmps.getD 1 undef = .pointer (some ⟨w.heap.size, 0, none⟩) := hold 1 (by kernel_rfl)
      exact r_pure hi rfl rfl (y_load _ _ s1 (HX.out.belowI hB) Tryz.underlying37 rfl infoRRec)
    · obtain rfl := Option.some.inj hi
      have s6 : A.tmps.getD 6 undef = .agg (recA KP (.slice ka kl kc) (.slice ja jl jc)) := dep_of hdeps 1 (by kernel_rfl)
      have s7 : A.tmps.getD 7 undef = .agg (recA m (.slice ao L c) (.slice bo J d)) := dep_of hdeps 2 (by kernel_rfl)
      exact r_enter hi rfl rfl (y_call 14 _ #[.agg (recA KP (.slice ka kl kc) (.slice ja jl jc)), .agg (recA m (.slice ao L c) (.slice bo J d))] _ rfl (by simp only [List.map_toArray, List.map_cons, List.map_nil, show A.eval (.tmp 6) = .agg (recA KP (.slice ka kl kc) (.slice ja jl jc)) from s6, show A.eval (.tmp 7) = .agg (recA m (.slice ao L c) (.slice bo J d)) from s7]; try rfl) en11_rsame) (CS.out w1 hB)
    · obtain rfl := Option.some.inj hi
      have s8 : A.tmps.getD 8 undef = .bool true := dep_of hdeps 3 (by kernel_rfl)
      exact r_pure hi rfl rfl (y_not (a := true) _ _ s8)
  · intro w8 hB8
    simp only [putAll, Act.put, List.setIfInBounds_toArray, List.set_cons_succ, List.set_cons_zero]
    have HB8 := hide hB8
    clear hB8 CK CS
    have x0 : w8.cell? ⟨w.heap.size, 0, none⟩ = some (.int .u8 2) := (by have h : w8.cell? ⟨w.heap.size, 0, none⟩ = some (.int .u8 (m.kind : Int)) := (HX.out.belowI HB8.out).cell 0 _ rfl; rw [HKD.out] at h; exact h)
    have x2 : w8.cell? ⟨w.heap.size, 2, none⟩ = some (.int .u8 (m.tx.1 : Int)) := (HX.out.belowI HB8.out).cell 2 _ rfl
    have x3 : w8.cell? ⟨w.heap.size, 3, none⟩ = some (.int .u32 (m.tx.2.1 : Int)) := (HX.out.belowI HB8.out).cell 3 _ rfl
    have x4 : w8.cell? ⟨w.heap.size, 4, none⟩ = some (.int .u32 (m.tx.2.2 : Int)) := (HX.out.belowI HB8.out).cell 4 _ rfl
    have x5 : w8.cell? ⟨w.heap.size, 5, none⟩ = some (.int .u32 (m.reg.1 : Int)) := (HX.out.belowI HB8.out).cell 5 _ rfl
    have x6 : w8.cell? ⟨w.heap.size, 6, none⟩ = some (.int .u32 (m.reg.2 : Int)) := (HX.out.belowI HB8.out).cell 6 _ rfl
    have x8 : w8.cell? ⟨w.heap.size, 8, none⟩ = some ((.slice ao L c)) := (HX.out.belowI HB8.out).cell 8 _ rfl
    cases b1 <;> cases r1 <;> cases r2 <;> cases b2
    all_goals
      go_wp2_with (first
        | (go_at_call 24; refine (CWM.out _ HB8.out).mono ?_; rintro e w9 ⟨rfl, hB9⟩; have HB9 := hide (HB8.out.trans (hB9.mono HB8.out.size)); have y0 : w9.cell? ⟨w.heap.size, 0, none⟩ = some (.int .u8 2) := (by have h : w9.cell? ⟨w.heap.size, 0, none⟩ = some (.int .u8 (m.kind : Int)) := (HX.out.belowI HB9.out).cell 0 _ rfl; rw [HKD.out] at h; exact h); have y2 : w9.cell? ⟨w.heap.size, 2, none⟩ = some (.int .u8 (m.tx.1 : Int)) := (HX.out.belowI HB9.out).cell 2 _ rfl; have y3 : w9.cell? ⟨w.heap.size, 3, none⟩ = some (.int .u32 (m.tx.2.1 : Int)) := (HX.out.belowI HB9.out).cell 3 _ rfl; have y4 : w9.cell? ⟨w.heap.size, 4, none⟩ = some (.int .u32 (m.tx.2.2 : Int)) := (HX.out.belowI HB9.out).cell 4 _ rfl; have y5 : w9.cell? ⟨w.heap.size, 5, none⟩ = some (.int .u32 (m.reg.1 : Int)) := (HX.out.belowI HB9.out).cell 5 _ rfl; have y6 : w9.cell? ⟨w.heap.size, 6, none⟩ = some (.int .u32 (m.reg.2 : Int)) := (HX.out.belowI HB9.out).cell 6 _ rfl; clear hB9)
        | (go_at_call 25; (first | (refine (CT.out _).mono ?_; rintro e w10 ⟨rfl, hB10⟩; have HB10 := hide (HB9.out.trans (hB10.mono HB9.out.size)); clear hB10) | (refine (CT.out _).mono ?_; rintro e w10 ⟨rfl, hB10⟩; have HB10 := hide (HB8.out.trans (hB10.mono HB8.out.size)); clear hB10)); have z5 : w10.cell? ⟨w.heap.size, 5, none⟩ = some (.int .u32 (m.reg.1 : Int)) := (HX.out.belowI HB10.out).cell 5 _ rfl; have z6 : w10.cell? ⟨w.heap.size, 6, none⟩ = some (.int .u32 (m.reg.2 : Int)) := (HX.out.belowI HB10.out).cell 6 _ rfl)
        | (go_at_call 26; (first | (refine (CG.out _).mono ?_; rintro e w11 ⟨rfl, hB11⟩; have HB11 := hide (HB10.out.trans (hB11.mono HB10.out.size)); clear hB11))))
      go_ret
      first
        | exact ⟨by rw [HR.out]; rfl, HA.out.trans (HB11.out.mono HA.out.size)⟩
        | exact ⟨by rw [HR.out]; rfl, HA.out.trans (HB10.out.mono HA.out.size)⟩
        | exact ⟨by rw [HR.out]; rfl, HA.out.trans (HB9.out.mono HA.out.size)⟩
        | exact ⟨by rw [HR.out]; rfl, HA.out.trans (HB8.out.mono HA.out.size)⟩
set_option maxRecDepth 100000 in
set_option maxHeartbeats 6400000 in
theorem rmay11_3 (m : RecP) (hS : keptP m = m) (hk : m.kind = 3) (ao bo : Option Addr) (L c J d : Nat) (w : World) (hm : RecOk m) (hs : RSrc wrE w (.slice ao L c) m.wr) (ht : Lies .u64 w (.slice bo J d) (misI m.mis)) (_hi : m.item.val.length ≤ 9223372036854775807) (hv : ∀ x ∈ m.wr, x.it.val.length ≤ 9223372036854775807) (hl : m.wr.length ≤ 100000) : Calls Tryz.prog 12 #[.agg (recA m (.slice ao L c) (.slice bo J d))] w fun e w' => e = .returned (.bool (mayR m)) ∧ Below w.heap.size w w' := by
  have hA := alloc_below10 w (.cells (recA m (.slice ao L c) (.slice bo J d)) 37)
  have hX := box_new w (recA m (.slice ao L c) (.slice bo J d)) 37
  obtain ⟨wb, hwb⟩ : ∃ wb, wb = w.alloc (.cells (recA m (.slice ao L c) (.slice bo J d)) 37) := ⟨_, rfl⟩
  rw [← hwb] at hA hX
  have hW := hwb.symm
  have HA := hide hA
  have HX := hide hX
  have hsb := hs.below hA
  have htb := ht.below hA
  have hKs := keptW_src hsb
  have hKt := keptM_lies htb (Lies.nil .u64 wb)
  have hKo := keptP_ok hm
  have CK := hide (fun W => rkept11_any m ao bo L c J d W)
  obtain ⟨KP, hKP⟩ : ∃ KP, KP = keptP m := ⟨_, rfl⟩
  obtain ⟨KW, hKW⟩ : ∃ KW, KW = keptW m.kind (.slice ao L c) := ⟨_, rfl⟩
  obtain ⟨KM, hKM⟩ : ∃ KM, KM = keptM m.kind (.slice bo J d) := ⟨_, rfl⟩
  rw [← hKP] at hKs hKt hKo CK
  rw [← hKW] at hKs CK
  rw [← hKM] at hKt CK
  obtain ⟨ka, kc, rfl, -, -⟩ := hKs.shape
  obtain ⟨ja, jc, rfl⟩ := hKt.shape
  have hEQ : decide (KP = m) = true := by rw [hKP]; exact decide_eq_true hS
  have CS : Hid (∀ W, Below wb.heap.size wb W → Calls Tryz.prog 14 #[.agg (recA KP (.slice ka KP.wr.length kc) (.slice ja (misI KP.mis).length jc)), .agg (recA m (.slice ao L c) (.slice bo J d))] W fun e w' => e = .returned (.bool true) ∧ Below W.heap.size W w') := hide (fun W hB => by
    have h := rsame11_any KP m ka ao ja bo KP.wr.length kc L c (misI KP.mis).length jc J d W hKo hm (hKs.below hB) (hsb.below hB) (hKt.below hB) (htb.below hB)
    rw [hEQ] at h
    exact h)
  obtain ⟨kl, hkl⟩ : ∃ kl, kl = KP.wr.length := ⟨_, rfl⟩
  obtain ⟨jl, hjl⟩ : ∃ jl, jl = (misI KP.mis).length := ⟨_, rfl⟩
  rw [← hkl, ← hjl] at CS CK
  have hLL : L = m.wr.length := by obtain ⟨_, _, e, -, -⟩ := hs.shape; injection e
  have hJJ : J = m.mis.length := by obtain ⟨_, _, e⟩ := ht.shape; injection e with _ e; rw [e, misI_len]
  have CWM := hide (fun W (hB : Below wb.heap.size wb W) => rwrites_any (.slice ao L c) m.wr W (hsb.below hB) hm.wr hv hl)
  have hg1 : decide ((L : Int) ≥ 1) = decide (1 ≤ m.wr.length) := by rw [hLL, Bool.eq_iff_iff, decide_eq_true_eq, decide_eq_true_eq]; omega
  have HKD := hide hk
  have hR0 : mayR m = ([1] : List Nat).all (mayRf m) := by rw [mayR_of hS (by rw [hk]; rfl), hk]; rfl
  have CT : Hid (∀ W, Calls Tryz.prog 25 #[.agg #[.int .u8 (m.tx.1 : Int), .int .u32 (m.tx.2.1 : Int), .int .u32 (m.tx.2.2 : Int)]] W fun e w' => e = .returned (.bool (txMayB (txI m.tx))) ∧ Below W.heap.size W w') := hide (fun W => rtxMay_any (m.tx.1 : Int) (m.tx.2.1 : Int) (m.tx.2.2 : Int) W)
  obtain ⟨R, hR⟩ : ∃ R, R = mayR m := ⟨_, rfl⟩
  rw [← hR]
  have HR : Hid (R = txMayB (txI m.tx)) := hide (by rw [hR, hR0]; simp [mayRf])
  clear hA hX hwb hsb htb hm hs ht hv hl hKo hKs hKt hKP hKW hKM hkl hjl hS hEQ hLL hJJ hk hR0 hR
  generalize txMayB (txI m.tx) = r1 at *
  generalize decide (1 ≤ m.wr.length) = b1 at *
  generalize wsMayB m.wr = b2 at *
  go_enter Tryz.func12, Tryz.ntmps12
  go_wp2_with fail
  refine wp_region_vals (by kernel_rfl) [(5, .agg (recA m (.slice ao L c) (.slice bo J d))), (6, .agg (recA KP (.slice ka kl kc) (.slice ja jl jc))), (7, .agg (recA m (.slice ao L c) (.slice bo J d))), (8, .bool true), (9, .bool false)] (by kernel_rfl) rfl ?_ ?_
  · intro i o hi A w1 hB hold hdeps
    have hlt : i < 5 := (Array.getElem?_eq_some_iff.1 hi).1
    have hc : i = 0 ∨ i = 1 ∨ i = 2 ∨ i = 3 ∨ i = 4 := by omega
    clear hlt
    rcases hc with rfl | rfl | rfl | rfl | rfl
    · obtain rfl := Option.some.inj hi
      have s1 : A.tmps.getD 1 undef = .pointer (some ⟨w.heap.size, 0, none⟩) := hold 1 (by kernel_rfl)
      exact r_pure hi rfl rfl (y_load _ _ s1 (HX.out.belowI hB) Tryz.underlying37 rfl infoRRec)
    · obtain rfl := Option.some.inj hi
      have s5 : A.tmps.getD 5 undef = .agg (recA m (.slice ao L c) (.slice bo J d)) := dep_of hdeps 0 (by kernel_rfl)
      exact r_enter hi rfl rfl (y_call 23 _ #[.agg (recA m (.slice ao L c) (.slice bo J d))] _ rfl (by simp only [List.map_toArray, List.map_cons, List.map_nil, show A.eval (.tmp 5) = .agg (recA m (.slice ao L c) (.slice bo J d)) from s5]; try rfl) en11_rkept) (CK.out w1)
    · obtain rfl := Option.some.inj hi
      have s1 : A.tmps.getD 1 undef = .pointer (some ⟨w.heap.size, 0, none⟩) := hold 1 (by kernel_rfl)
      exact r_pure hi rfl rfl (y_load _ _ s1 (HX.out.belowI hB) Tryz.underlying37 rfl infoRRec)
    · obtain rfl := Option.some.inj hi
      have s6 : A.tmps.getD 6 undef = .agg (recA KP (.slice ka kl kc) (.slice ja jl jc)) := dep_of hdeps 1 (by kernel_rfl)
      have s7 : A.tmps.getD 7 undef = .agg (recA m (.slice ao L c) (.slice bo J d)) := dep_of hdeps 2 (by kernel_rfl)
      exact r_enter hi rfl rfl (y_call 14 _ #[.agg (recA KP (.slice ka kl kc) (.slice ja jl jc)), .agg (recA m (.slice ao L c) (.slice bo J d))] _ rfl (by simp only [List.map_toArray, List.map_cons, List.map_nil, show A.eval (.tmp 6) = .agg (recA KP (.slice ka kl kc) (.slice ja jl jc)) from s6, show A.eval (.tmp 7) = .agg (recA m (.slice ao L c) (.slice bo J d)) from s7]; try rfl) en11_rsame) (CS.out w1 hB)
    · obtain rfl := Option.some.inj hi
      have s8 : A.tmps.getD 8 undef = .bool true := dep_of hdeps 3 (by kernel_rfl)
      exact r_pure hi rfl rfl (y_not (a := true) _ _ s8)
  · intro w8 hB8
    simp only [putAll, Act.put, List.setIfInBounds_toArray, List.set_cons_succ, List.set_cons_zero]
    have HB8 := hide hB8
    clear hB8 CK CS
    have x0 : w8.cell? ⟨w.heap.size, 0, none⟩ = some (.int .u8 3) := (by have h : w8.cell? ⟨w.heap.size, 0, none⟩ = some (.int .u8 (m.kind : Int)) := (HX.out.belowI HB8.out).cell 0 _ rfl; rw [HKD.out] at h; exact h)
    have x2 : w8.cell? ⟨w.heap.size, 2, none⟩ = some (.int .u8 (m.tx.1 : Int)) := (HX.out.belowI HB8.out).cell 2 _ rfl
    have x3 : w8.cell? ⟨w.heap.size, 3, none⟩ = some (.int .u32 (m.tx.2.1 : Int)) := (HX.out.belowI HB8.out).cell 3 _ rfl
    have x4 : w8.cell? ⟨w.heap.size, 4, none⟩ = some (.int .u32 (m.tx.2.2 : Int)) := (HX.out.belowI HB8.out).cell 4 _ rfl
    have x8 : w8.cell? ⟨w.heap.size, 8, none⟩ = some ((.slice ao L c)) := (HX.out.belowI HB8.out).cell 8 _ rfl
    cases b1
    all_goals
      go_wp2_with (first
        | (go_at_call 24; refine (CWM.out _ HB8.out).mono ?_; rintro e w9 ⟨rfl, hB9⟩; have HB9 := hide (HB8.out.trans (hB9.mono HB8.out.size)); have y0 : w9.cell? ⟨w.heap.size, 0, none⟩ = some (.int .u8 3) := (by have h : w9.cell? ⟨w.heap.size, 0, none⟩ = some (.int .u8 (m.kind : Int)) := (HX.out.belowI HB9.out).cell 0 _ rfl; rw [HKD.out] at h; exact h); have y2 : w9.cell? ⟨w.heap.size, 2, none⟩ = some (.int .u8 (m.tx.1 : Int)) := (HX.out.belowI HB9.out).cell 2 _ rfl; have y3 : w9.cell? ⟨w.heap.size, 3, none⟩ = some (.int .u32 (m.tx.2.1 : Int)) := (HX.out.belowI HB9.out).cell 3 _ rfl; have y4 : w9.cell? ⟨w.heap.size, 4, none⟩ = some (.int .u32 (m.tx.2.2 : Int)) := (HX.out.belowI HB9.out).cell 4 _ rfl; clear hB9)
        | (go_at_call 25; (first | (refine (CT.out _).mono ?_; rintro e w10 ⟨rfl, hB10⟩; have HB10 := hide (HB9.out.trans (hB10.mono HB9.out.size)); clear hB10) | (refine (CT.out _).mono ?_; rintro e w10 ⟨rfl, hB10⟩; have HB10 := hide (HB8.out.trans (hB10.mono HB8.out.size)); clear hB10))))
      go_ret
      first
        | exact ⟨by rw [HR.out]; rfl, HA.out.trans (HB11.out.mono HA.out.size)⟩
        | exact ⟨by rw [HR.out]; rfl, HA.out.trans (HB10.out.mono HA.out.size)⟩
        | exact ⟨by rw [HR.out]; rfl, HA.out.trans (HB9.out.mono HA.out.size)⟩
        | exact ⟨by rw [HR.out]; rfl, HA.out.trans (HB8.out.mono HA.out.size)⟩
set_option maxRecDepth 100000 in
set_option maxHeartbeats 6400000 in
theorem rmay11_4 (m : RecP) (hS : keptP m = m) (hk : m.kind = 4) (ao bo : Option Addr) (L c J d : Nat) (w : World) (hm : RecOk m) (hs : RSrc wrE w (.slice ao L c) m.wr) (ht : Lies .u64 w (.slice bo J d) (misI m.mis)) (_hi : m.item.val.length ≤ 9223372036854775807) (hv : ∀ x ∈ m.wr, x.it.val.length ≤ 9223372036854775807) (hl : m.wr.length ≤ 100000) : Calls Tryz.prog 12 #[.agg (recA m (.slice ao L c) (.slice bo J d))] w fun e w' => e = .returned (.bool (mayR m)) ∧ Below w.heap.size w w' := by
  have hA := alloc_below10 w (.cells (recA m (.slice ao L c) (.slice bo J d)) 37)
  have hX := box_new w (recA m (.slice ao L c) (.slice bo J d)) 37
  obtain ⟨wb, hwb⟩ : ∃ wb, wb = w.alloc (.cells (recA m (.slice ao L c) (.slice bo J d)) 37) := ⟨_, rfl⟩
  rw [← hwb] at hA hX
  have hW := hwb.symm
  have HA := hide hA
  have HX := hide hX
  have hsb := hs.below hA
  have htb := ht.below hA
  have hKs := keptW_src hsb
  have hKt := keptM_lies htb (Lies.nil .u64 wb)
  have hKo := keptP_ok hm
  have CK := hide (fun W => rkept11_any m ao bo L c J d W)
  obtain ⟨KP, hKP⟩ : ∃ KP, KP = keptP m := ⟨_, rfl⟩
  obtain ⟨KW, hKW⟩ : ∃ KW, KW = keptW m.kind (.slice ao L c) := ⟨_, rfl⟩
  obtain ⟨KM, hKM⟩ : ∃ KM, KM = keptM m.kind (.slice bo J d) := ⟨_, rfl⟩
  rw [← hKP] at hKs hKt hKo CK
  rw [← hKW] at hKs CK
  rw [← hKM] at hKt CK
  obtain ⟨ka, kc, rfl, -, -⟩ := hKs.shape
  obtain ⟨ja, jc, rfl⟩ := hKt.shape
  have hEQ : decide (KP = m) = true := by rw [hKP]; exact decide_eq_true hS
  have CS : Hid (∀ W, Below wb.heap.size wb W → Calls Tryz.prog 14 #[.agg (recA KP (.slice ka KP.wr.length kc) (.slice ja (misI KP.mis).length jc)), .agg (recA m (.slice ao L c) (.slice bo J d))] W fun e w' => e = .returned (.bool true) ∧ Below W.heap.size W w') := hide (fun W hB => by
    have h := rsame11_any KP m ka ao ja bo KP.wr.length kc L c (misI KP.mis).length jc J d W hKo hm (hKs.below hB) (hsb.below hB) (hKt.below hB) (htb.below hB)
    rw [hEQ] at h
    exact h)
  obtain ⟨kl, hkl⟩ : ∃ kl, kl = KP.wr.length := ⟨_, rfl⟩
  obtain ⟨jl, hjl⟩ : ∃ jl, jl = (misI KP.mis).length := ⟨_, rfl⟩
  rw [← hkl, ← hjl] at CS CK
  have hLL : L = m.wr.length := by obtain ⟨_, _, e, -, -⟩ := hs.shape; injection e
  have hJJ : J = m.mis.length := by obtain ⟨_, _, e⟩ := ht.shape; injection e with _ e; rw [e, misI_len]
  have CWM := hide (fun W (hB : Below wb.heap.size wb W) => rwrites_any (.slice ao L c) m.wr W (hsb.below hB) hm.wr hv hl)
  have hg1 : decide ((L : Int) ≥ 1) = decide (1 ≤ m.wr.length) := by rw [hLL, Bool.eq_iff_iff, decide_eq_true_eq, decide_eq_true_eq]; omega
  have HKD := hide hk
  have hR0 : mayR m = ([1] : List Nat).all (mayRf m) := by rw [mayR_of hS (by rw [hk]; rfl), hk]; rfl
  have CT : Hid (∀ W, Calls Tryz.prog 25 #[.agg #[.int .u8 (m.tx.1 : Int), .int .u32 (m.tx.2.1 : Int), .int .u32 (m.tx.2.2 : Int)]] W fun e w' => e = .returned (.bool (txMayB (txI m.tx))) ∧ Below W.heap.size W w') := hide (fun W => rtxMay_any (m.tx.1 : Int) (m.tx.2.1 : Int) (m.tx.2.2 : Int) W)
  obtain ⟨R, hR⟩ : ∃ R, R = mayR m := ⟨_, rfl⟩
  rw [← hR]
  have HR : Hid (R = txMayB (txI m.tx)) := hide (by rw [hR, hR0]; simp [mayRf])
  clear hA hX hwb hsb htb hm hs ht hv hl hKo hKs hKt hKP hKW hKM hkl hjl hS hEQ hLL hJJ hk hR0 hR
  generalize txMayB (txI m.tx) = r1 at *
  generalize decide (1 ≤ m.wr.length) = b1 at *
  generalize wsMayB m.wr = b2 at *
  go_enter Tryz.func12, Tryz.ntmps12
  go_wp2_with fail
  refine wp_region_vals (by kernel_rfl) [(5, .agg (recA m (.slice ao L c) (.slice bo J d))), (6, .agg (recA KP (.slice ka kl kc) (.slice ja jl jc))), (7, .agg (recA m (.slice ao L c) (.slice bo J d))), (8, .bool true), (9, .bool false)] (by kernel_rfl) rfl ?_ ?_
  · intro i o hi A w1 hB hold hdeps
    have hlt : i < 5 := (Array.getElem?_eq_some_iff.1 hi).1
    have hc : i = 0 ∨ i = 1 ∨ i = 2 ∨ i = 3 ∨ i = 4 := by omega
    clear hlt
    rcases hc with rfl | rfl | rfl | rfl | rfl
    · obtain rfl := Option.some.inj hi
      have s1 : A.tmps.getD 1 undef = .pointer (some ⟨w.heap.size, 0, none⟩) := hold 1 (by kernel_rfl)
      exact r_pure hi rfl rfl (y_load _ _ s1 (HX.out.belowI hB) Tryz.underlying37 rfl infoRRec)
    · obtain rfl := Option.some.inj hi
      have s5 : A.tmps.getD 5 undef = .agg (recA m (.slice ao L c) (.slice bo J d)) := dep_of hdeps 0 (by kernel_rfl)
      exact r_enter hi rfl rfl (y_call 23 _ #[.agg (recA m (.slice ao L c) (.slice bo J d))] _ rfl (by simp only [List.map_toArray, List.map_cons, List.map_nil, show A.eval (.tmp 5) = .agg (recA m (.slice ao L c) (.slice bo J d)) from s5]; try rfl) en11_rkept) (CK.out w1)
    · obtain rfl := Option.some.inj hi
      have s1 : A.tmps.getD 1 undef = .pointer (some ⟨w.heap.size, 0, none⟩) := hold 1 (by kernel_rfl)
      exact r_pure hi rfl rfl (y_load _ _ s1 (HX.out.belowI hB) Tryz.underlying37 rfl infoRRec)
    · obtain rfl := Option.some.inj hi
      have s6 : A.tmps.getD 6 undef = .agg (recA KP (.slice ka kl kc) (.slice ja jl jc)) := dep_of hdeps 1 (by kernel_rfl)
      have s7 : A.tmps.getD 7 undef = .agg (recA m (.slice ao L c) (.slice bo J d)) := dep_of hdeps 2 (by kernel_rfl)
      exact r_enter hi rfl rfl (y_call 14 _ #[.agg (recA KP (.slice ka kl kc) (.slice ja jl jc)), .agg (recA m (.slice ao L c) (.slice bo J d))] _ rfl (by simp only [List.map_toArray, List.map_cons, List.map_nil, show A.eval (.tmp 6) = .agg (recA KP (.slice ka kl kc) (.slice ja jl jc)) from s6, show A.eval (.tmp 7) = .agg (recA m (.slice ao L c) (.slice bo J d)) from s7]; try rfl) en11_rsame) (CS.out w1 hB)
    · obtain rfl := Option.some.inj hi
      have s8 : A.tmps.getD 8 undef = .bool true := dep_of hdeps 3 (by kernel_rfl)
      exact r_pure hi rfl rfl (y_not (a := true) _ _ s8)
  · intro w8 hB8
    simp only [putAll, Act.put, List.setIfInBounds_toArray, List.set_cons_succ, List.set_cons_zero]
    have HB8 := hide hB8
    clear hB8 CK CS
    have x0 : w8.cell? ⟨w.heap.size, 0, none⟩ = some (.int .u8 4) := (by have h : w8.cell? ⟨w.heap.size, 0, none⟩ = some (.int .u8 (m.kind : Int)) := (HX.out.belowI HB8.out).cell 0 _ rfl; rw [HKD.out] at h; exact h)
    have x2 : w8.cell? ⟨w.heap.size, 2, none⟩ = some (.int .u8 (m.tx.1 : Int)) := (HX.out.belowI HB8.out).cell 2 _ rfl
    have x3 : w8.cell? ⟨w.heap.size, 3, none⟩ = some (.int .u32 (m.tx.2.1 : Int)) := (HX.out.belowI HB8.out).cell 3 _ rfl
    have x4 : w8.cell? ⟨w.heap.size, 4, none⟩ = some (.int .u32 (m.tx.2.2 : Int)) := (HX.out.belowI HB8.out).cell 4 _ rfl
    have x8 : w8.cell? ⟨w.heap.size, 8, none⟩ = some ((.slice ao L c)) := (HX.out.belowI HB8.out).cell 8 _ rfl
    cases b1
    all_goals
      go_wp2_with (first
        | (go_at_call 24; refine (CWM.out _ HB8.out).mono ?_; rintro e w9 ⟨rfl, hB9⟩; have HB9 := hide (HB8.out.trans (hB9.mono HB8.out.size)); have y0 : w9.cell? ⟨w.heap.size, 0, none⟩ = some (.int .u8 4) := (by have h : w9.cell? ⟨w.heap.size, 0, none⟩ = some (.int .u8 (m.kind : Int)) := (HX.out.belowI HB9.out).cell 0 _ rfl; rw [HKD.out] at h; exact h); have y2 : w9.cell? ⟨w.heap.size, 2, none⟩ = some (.int .u8 (m.tx.1 : Int)) := (HX.out.belowI HB9.out).cell 2 _ rfl; have y3 : w9.cell? ⟨w.heap.size, 3, none⟩ = some (.int .u32 (m.tx.2.1 : Int)) := (HX.out.belowI HB9.out).cell 3 _ rfl; have y4 : w9.cell? ⟨w.heap.size, 4, none⟩ = some (.int .u32 (m.tx.2.2 : Int)) := (HX.out.belowI HB9.out).cell 4 _ rfl; clear hB9)
        | (go_at_call 25; (first | (refine (CT.out _).mono ?_; rintro e w10 ⟨rfl, hB10⟩; have HB10 := hide (HB9.out.trans (hB10.mono HB9.out.size)); clear hB10) | (refine (CT.out _).mono ?_; rintro e w10 ⟨rfl, hB10⟩; have HB10 := hide (HB8.out.trans (hB10.mono HB8.out.size)); clear hB10))))
      go_ret
      first
        | exact ⟨by rw [HR.out]; rfl, HA.out.trans (HB11.out.mono HA.out.size)⟩
        | exact ⟨by rw [HR.out]; rfl, HA.out.trans (HB10.out.mono HA.out.size)⟩
        | exact ⟨by rw [HR.out]; rfl, HA.out.trans (HB9.out.mono HA.out.size)⟩
        | exact ⟨by rw [HR.out]; rfl, HA.out.trans (HB8.out.mono HA.out.size)⟩
set_option maxRecDepth 100000 in
set_option maxHeartbeats 6400000 in
theorem rmay11_5 (m : RecP) (hS : keptP m = m) (hk : m.kind = 5) (ao bo : Option Addr) (L c J d : Nat) (w : World) (hm : RecOk m) (hs : RSrc wrE w (.slice ao L c) m.wr) (ht : Lies .u64 w (.slice bo J d) (misI m.mis)) (_hi : m.item.val.length ≤ 9223372036854775807) (hv : ∀ x ∈ m.wr, x.it.val.length ≤ 9223372036854775807) (hl : m.wr.length ≤ 100000) : Calls Tryz.prog 12 #[.agg (recA m (.slice ao L c) (.slice bo J d))] w fun e w' => e = .returned (.bool (mayR m)) ∧ Below w.heap.size w w' := by
  have hA := alloc_below10 w (.cells (recA m (.slice ao L c) (.slice bo J d)) 37)
  have hX := box_new w (recA m (.slice ao L c) (.slice bo J d)) 37
  obtain ⟨wb, hwb⟩ : ∃ wb, wb = w.alloc (.cells (recA m (.slice ao L c) (.slice bo J d)) 37) := ⟨_, rfl⟩
  rw [← hwb] at hA hX
  have hW := hwb.symm
  have HA := hide hA
  have HX := hide hX
  have hsb := hs.below hA
  have htb := ht.below hA
  have hKs := keptW_src hsb
  have hKt := keptM_lies htb (Lies.nil .u64 wb)
  have hKo := keptP_ok hm
  have CK := hide (fun W => rkept11_any m ao bo L c J d W)
  obtain ⟨KP, hKP⟩ : ∃ KP, KP = keptP m := ⟨_, rfl⟩
  obtain ⟨KW, hKW⟩ : ∃ KW, KW = keptW m.kind (.slice ao L c) := ⟨_, rfl⟩
  obtain ⟨KM, hKM⟩ : ∃ KM, KM = keptM m.kind (.slice bo J d) := ⟨_, rfl⟩
  rw [← hKP] at hKs hKt hKo CK
  rw [← hKW] at hKs CK
  rw [← hKM] at hKt CK
  obtain ⟨ka, kc, rfl, -, -⟩ := hKs.shape
  obtain ⟨ja, jc, rfl⟩ := hKt.shape
  have hEQ : decide (KP = m) = true := by rw [hKP]; exact decide_eq_true hS
  have CS : Hid (∀ W, Below wb.heap.size wb W → Calls Tryz.prog 14 #[.agg (recA KP (.slice ka KP.wr.length kc) (.slice ja (misI KP.mis).length jc)), .agg (recA m (.slice ao L c) (.slice bo J d))] W fun e w' => e = .returned (.bool true) ∧ Below W.heap.size W w') := hide (fun W hB => by
    have h := rsame11_any KP m ka ao ja bo KP.wr.length kc L c (misI KP.mis).length jc J d W hKo hm (hKs.below hB) (hsb.below hB) (hKt.below hB) (htb.below hB)
    rw [hEQ] at h
    exact h)
  obtain ⟨kl, hkl⟩ : ∃ kl, kl = KP.wr.length := ⟨_, rfl⟩
  obtain ⟨jl, hjl⟩ : ∃ jl, jl = (misI KP.mis).length := ⟨_, rfl⟩
  rw [← hkl, ← hjl] at CS CK
  have hLL : L = m.wr.length := by obtain ⟨_, _, e, -, -⟩ := hs.shape; injection e
  have hJJ : J = m.mis.length := by obtain ⟨_, _, e⟩ := ht.shape; injection e with _ e; rw [e, misI_len]
  have CWM := hide (fun W (hB : Below wb.heap.size wb W) => rwrites_any (.slice ao L c) m.wr W (hsb.below hB) hm.wr hv hl)
  have hg1 : decide ((L : Int) ≥ 1) = decide (1 ≤ m.wr.length) := by rw [hLL, Bool.eq_iff_iff, decide_eq_true_eq, decide_eq_true_eq]; omega
  have HKD := hide hk
  have hR0 : mayR m = ([1, 3, 4, 5] : List Nat).all (mayRf m) := by rw [mayR_of hS (by rw [hk]; rfl), hk]; rfl
  have CT : Hid (∀ W, Calls Tryz.prog 25 #[.agg #[.int .u8 (m.tx.1 : Int), .int .u32 (m.tx.2.1 : Int), .int .u32 (m.tx.2.2 : Int)]] W fun e w' => e = .returned (.bool (txMayB (txI m.tx))) ∧ Below W.heap.size W w') := hide (fun W => rtxMay_any (m.tx.1 : Int) (m.tx.2.1 : Int) (m.tx.2.2 : Int) W)
  obtain ⟨R, hR⟩ : ∃ R, R = mayR m := ⟨_, rfl⟩
  rw [← hR]
  have HR : Hid (R = (txMayB (txI m.tx) && decide (m.mem ≤ 255) && (decide (1 ≤ m.wr.length) && wsMayB m.wr) && (decide (m.mis.length = m.wr.length) && m.mis.all (fun x => decide (x ≤ 255))))) := hide (by rw [hR, hR0]; simp [mayRf, Bool.and_assoc])
  have hr3 : decide ((m.mem : Int) ≤ 255) = decide (m.mem ≤ 255) := by rw [Bool.eq_iff_iff, decide_eq_true_eq, decide_eq_true_eq]; omega
  have hb4 : ((J : Int) == (L : Int)) = decide (m.mis.length = m.wr.length) := by rw [hLL, hJJ, Bool.eq_iff_iff, beq_iff_eq, decide_eq_true_eq]; omega
  have hmx := ht.len
  unfold maxLen at hmx
  rw [misI_len, ← hJJ] at hmx
  have HT := hide htb
  have HJ := hide hJJ
  clear hA hX hwb hsb htb hm hs ht hv hl hKo hKs hKt hKP hKW hKM hkl hjl hS hEQ hLL hJJ hk hR0 hR
  generalize txMayB (txI m.tx) = r1 at *
  generalize decide (m.mem ≤ 255) = r3 at *
  generalize decide (m.mis.length = m.wr.length) = b4 at *
  generalize decide (1 ≤ m.wr.length) = b1 at *
  generalize wsMayB m.wr = b2 at *
  go_enter Tryz.func12, Tryz.ntmps12
  go_wp2_with fail
  refine wp_region_vals (by kernel_rfl) [(5, .agg (recA m (.slice ao L c) (.slice bo J d))), (6, .agg (recA KP (.slice ka kl kc) (.slice ja jl jc))), (7, .agg (recA m (.slice ao L c) (.slice bo J d))), (8, .bool true), (9, .bool false)] (by kernel_rfl) rfl ?_ ?_
  · intro i o hi A w1 hB hold hdeps
    have hlt : i < 5 := (Array.getElem?_eq_some_iff.1 hi).1
    have hc : i = 0 ∨ i = 1 ∨ i = 2 ∨ i = 3 ∨ i = 4 := by omega
    clear hlt
    rcases hc with rfl | rfl | rfl | rfl | rfl
    · obtain rfl := Option.some.inj hi
      have s1 : A.tmps.getD 1 undef = .pointer (some ⟨w.heap.size, 0, none⟩) := hold 1 (by kernel_rfl)
      exact r_pure hi rfl rfl (y_load _ _ s1 (HX.out.belowI hB) Tryz.underlying37 rfl infoRRec)
    · obtain rfl := Option.some.inj hi
      have s5 : A.tmps.getD 5 undef = .agg (recA m (.slice ao L c) (.slice bo J d)) := dep_of hdeps 0 (by kernel_rfl)
      exact r_enter hi rfl rfl (y_call 23 _ #[.agg (recA m (.slice ao L c) (.slice bo J d))] _ rfl (by simp only [List.map_toArray, List.map_cons, List.map_nil, show A.eval (.tmp 5) = .agg (recA m (.slice ao L c) (.slice bo J d)) from s5]; try rfl) en11_rkept) (CK.out w1)
    · obtain rfl := Option.some.inj hi
      have s1 : A.tmps.getD 1 undef = .pointer (some ⟨w.heap.size, 0, none⟩) := hold 1 (by kernel_rfl)
      exact r_pure hi rfl rfl (y_load _ _ s1 (HX.out.belowI hB) Tryz.underlying37 rfl infoRRec)
    · obtain rfl := Option.some.inj hi
      have s6 : A.tmps.getD 6 undef = .agg (recA KP (.slice ka kl kc) (.slice ja jl jc)) := dep_of hdeps 1 (by kernel_rfl)
      have s7 : A.tmps.getD 7 undef = .agg (recA m (.slice ao L c) (.slice bo J d)) := dep_of hdeps 2 (by kernel_rfl)
      exact r_enter hi rfl rfl (y_call 14 _ #[.agg (recA KP (.slice ka kl kc) (.slice ja jl jc)), .agg (recA m (.slice ao L c) (.slice bo J d))] _ rfl (by simp only [List.map_toArray, List.map_cons, List.map_nil, show A.eval (.tmp 6) = .agg (recA KP (.slice ka kl kc) (.slice ja jl jc)) from s6, show A.eval (.tmp 7) = .agg (recA m (.slice ao L c) (.slice bo J d)) from s7]; try rfl) en11_rsame) (CS.out w1 hB)
    · obtain rfl := Option.some.inj hi
      have s8 : A.tmps.getD 8 undef = .bool true := dep_of hdeps 3 (by kernel_rfl)
      exact r_pure hi rfl rfl (y_not (a := true) _ _ s8)
  · intro w8 hB8
    simp only [putAll, Act.put, List.setIfInBounds_toArray, List.set_cons_succ, List.set_cons_zero]
    have HB8 := hide hB8
    clear hB8 CK CS
    have x0 : w8.cell? ⟨w.heap.size, 0, none⟩ = some (.int .u8 5) := (by have h : w8.cell? ⟨w.heap.size, 0, none⟩ = some (.int .u8 (m.kind : Int)) := (HX.out.belowI HB8.out).cell 0 _ rfl; rw [HKD.out] at h; exact h)
    have x2 : w8.cell? ⟨w.heap.size, 2, none⟩ = some (.int .u8 (m.tx.1 : Int)) := (HX.out.belowI HB8.out).cell 2 _ rfl
    have x3 : w8.cell? ⟨w.heap.size, 3, none⟩ = some (.int .u32 (m.tx.2.1 : Int)) := (HX.out.belowI HB8.out).cell 3 _ rfl
    have x4 : w8.cell? ⟨w.heap.size, 4, none⟩ = some (.int .u32 (m.tx.2.2 : Int)) := (HX.out.belowI HB8.out).cell 4 _ rfl
    have x7 : w8.cell? ⟨w.heap.size, 7, none⟩ = some (.int .u64 (m.mem : Int)) := (HX.out.belowI HB8.out).cell 7 _ rfl
    have x8 : w8.cell? ⟨w.heap.size, 8, none⟩ = some ((.slice ao L c)) := (HX.out.belowI HB8.out).cell 8 _ rfl
    have x9 : w8.cell? ⟨w.heap.size, 9, none⟩ = some ((.slice bo J d)) := (HX.out.belowI HB8.out).cell 9 _ rfl
    cases b1 <;> cases b2
    all_goals
      go_wp2_with (first
        | (go_at_call 24; refine (CWM.out _ HB8.out).mono ?_; rintro e w9 ⟨rfl, hB9⟩; have HB9 := hide (HB8.out.trans (hB9.mono HB8.out.size)); have y0 : w9.cell? ⟨w.heap.size, 0, none⟩ = some (.int .u8 5) := (by have h : w9.cell? ⟨w.heap.size, 0, none⟩ = some (.int .u8 (m.kind : Int)) := (HX.out.belowI HB9.out).cell 0 _ rfl; rw [HKD.out] at h; exact h); have y2 : w9.cell? ⟨w.heap.size, 2, none⟩ = some (.int .u8 (m.tx.1 : Int)) := (HX.out.belowI HB9.out).cell 2 _ rfl; have y3 : w9.cell? ⟨w.heap.size, 3, none⟩ = some (.int .u32 (m.tx.2.1 : Int)) := (HX.out.belowI HB9.out).cell 3 _ rfl; have y4 : w9.cell? ⟨w.heap.size, 4, none⟩ = some (.int .u32 (m.tx.2.2 : Int)) := (HX.out.belowI HB9.out).cell 4 _ rfl; have y7 : w9.cell? ⟨w.heap.size, 7, none⟩ = some (.int .u64 (m.mem : Int)) := (HX.out.belowI HB9.out).cell 7 _ rfl; have y9 : w9.cell? ⟨w.heap.size, 9, none⟩ = some ((.slice bo J d)) := (HX.out.belowI HB9.out).cell 9 _ rfl; clear hB9))
      go_loopg [4] J (fun g i wr => ∃ k : Nat, k + g = J ∧ i = .int .i64 k ∧ Hid (Below wb.heap.size wb wr) ∧ Hid ((m.mis.take k).all (fun x => decide (x ≤ 255)) = true))
      case atStart => exact ⟨0, by omega, rfl, (by first | exact HB9 | exact HB8), hide rfl⟩
      case round =>
        obtain ⟨k, hk, rfl, HBW, HTK⟩ := hrel
        have u2 : wr.cell? ⟨w.heap.size, 2, none⟩ = some (.int .u8 (m.tx.1 : Int)) := (HX.out.belowI HBW.out).cell 2 _ rfl
        have u3 : wr.cell? ⟨w.heap.size, 3, none⟩ = some (.int .u32 (m.tx.2.1 : Int)) := (HX.out.belowI HBW.out).cell 3 _ rfl
        have u4 : wr.cell? ⟨w.heap.size, 4, none⟩ = some (.int .u32 (m.tx.2.2 : Int)) := (HX.out.belowI HBW.out).cell 4 _ rfl
        have u7 : wr.cell? ⟨w.heap.size, 7, none⟩ = some (.int .u64 (m.mem : Int)) := (HX.out.belowI HBW.out).cell 7 _ rfl
        have u8 : wr.cell? ⟨w.heap.size, 8, none⟩ = some ((.slice ao L c)) := (HX.out.belowI HBW.out).cell 8 _ rfl
        have u9 : wr.cell? ⟨w.heap.size, 9, none⟩ = some ((.slice bo J d)) := (HX.out.belowI HBW.out).cell 9 _ rfl
        cases gk with
        | zero =>
          obtain rfl : k = J := by omega
          have hz : ¬ ((k : Int) < (k : Int)) := by omega
          have HR2 := HR.out
          have HTK2 := HTK.out
          rw [HJ.out, List.take_length] at HTK2
          rw [HTK2] at HR2
          have HR := hide HR2
          clear HR2 HTK2 HTK HJ HT
          cases r1 <;> cases r3 <;> cases b4
          all_goals
            go_wp2_with (first
              | (go_at_call 25; refine (CT.out _).mono ?_; rintro e w10 ⟨rfl, hB10⟩; have HB10 := hide (HBW.out.trans (hB10.mono HBW.out.size)); clear hB10; have z7 : w10.cell? ⟨w.heap.size, 7, none⟩ = some (.int .u64 (m.mem : Int)) := (HX.out.belowI HB10.out).cell 7 _ rfl; have z8 : w10.cell? ⟨w.heap.size, 8, none⟩ = some ((.slice ao L c)) := (HX.out.belowI HB10.out).cell 8 _ rfl; have z9 : w10.cell? ⟨w.heap.size, 9, none⟩ = some ((.slice bo k d)) := (HX.out.belowI HB10.out).cell 9 _ rfl))
            go_ret
            exact ⟨by rw [HR.out]; rfl, HA.out.trans (HB10.out.mono HA.out.size)⟩
        | succ g =>
          have hz : (k : Int) < (J : Int) := by omega
          have hkJ : k < J := by omega
          have hkm : k < m.mis.length := by rw [← HJ.out]; omega
          obtain ⟨bb, o1, rfl, hbb, hr⟩ := lies_at (HT.out.below HBW.out) (show k < (misI m.mis).length by rw [misI_len]; exact hkm)
          have hgx : (misI m.mis).getD k 0 = (m.mis[k] : Int) := by simp [misI, List.getD, hkm]
          rw [hgx] at hr
          obtain ⟨x, hx⟩ : ∃ x, x = m.mis[k] := ⟨_, rfl⟩
          rw [← hx] at hr
          have HXK := hide hx
          clear hgx hx HT
          by_cases hx : x ≤ 255
          · have hgt : decide ((x : Int) > 255) = false := decide_eq_false (by omega)
            have HT2 : Hid ((m.mis.take (k + 1)).all (fun x => decide (x ≤ 255)) = true) := hide (by rw [List.take_succ_eq_append_getElem hkm, List.all_append, HTK.out, ← HXK.out]; simp [hx])
            go_wp2_with fail
            go_roundg g
            case measure => omega
            case rel => exact ⟨k + 1, by omega, by first | rfl | go_num, HBW, HT2⟩
          · have hgt : decide ((x : Int) > 255) = true := decide_eq_true (by omega)
            have HE : Hid (R = false) := hide (by
              have h : m.mis.all (fun x => decide (x ≤ 255)) = false := by
                rw [Bool.eq_false_iff]
                intro h
                rw [List.all_eq_true] at h
                have := h _ (List.getElem_mem hkm)
                rw [← HXK.out, decide_eq_true_eq] at this
                exact hx this
              rw [HR.out, h]
              simp)
            go_wp2_with fail
            go_ret
            exact ⟨by rw [HE.out]; rfl, HA.out.trans (HBW.out.mono HA.out.size)⟩
set_option maxRecDepth 100000 in
set_option maxHeartbeats 6400000 in
theorem rmay11_6 (m : RecP) (hS : keptP m = m) (hk : m.kind = 6) (ao bo : Option Addr) (L c J d : Nat) (w : World) (hm : RecOk m) (hs : RSrc wrE w (.slice ao L c) m.wr) (ht : Lies .u64 w (.slice bo J d) (misI m.mis)) (_hi : m.item.val.length ≤ 9223372036854775807) (hv : ∀ x ∈ m.wr, x.it.val.length ≤ 9223372036854775807) (hl : m.wr.length ≤ 100000) : Calls Tryz.prog 12 #[.agg (recA m (.slice ao L c) (.slice bo J d))] w fun e w' => e = .returned (.bool (mayR m)) ∧ Below w.heap.size w w' := by
  have hA := alloc_below10 w (.cells (recA m (.slice ao L c) (.slice bo J d)) 37)
  have hX := box_new w (recA m (.slice ao L c) (.slice bo J d)) 37
  obtain ⟨wb, hwb⟩ : ∃ wb, wb = w.alloc (.cells (recA m (.slice ao L c) (.slice bo J d)) 37) := ⟨_, rfl⟩
  rw [← hwb] at hA hX
  have hW := hwb.symm
  have HA := hide hA
  have HX := hide hX
  have hsb := hs.below hA
  have htb := ht.below hA
  have hKs := keptW_src hsb
  have hKt := keptM_lies htb (Lies.nil .u64 wb)
  have hKo := keptP_ok hm
  have CK := hide (fun W => rkept11_any m ao bo L c J d W)
  obtain ⟨KP, hKP⟩ : ∃ KP, KP = keptP m := ⟨_, rfl⟩
  obtain ⟨KW, hKW⟩ : ∃ KW, KW = keptW m.kind (.slice ao L c) := ⟨_, rfl⟩
  obtain ⟨KM, hKM⟩ : ∃ KM, KM = keptM m.kind (.slice bo J d) := ⟨_, rfl⟩
  rw [← hKP] at hKs hKt hKo CK
  rw [← hKW] at hKs CK
  rw [← hKM] at hKt CK
  obtain ⟨ka, kc, rfl, -, -⟩ := hKs.shape
  obtain ⟨ja, jc, rfl⟩ := hKt.shape
  have hEQ : decide (KP = m) = true := by rw [hKP]; exact decide_eq_true hS
  have CS : Hid (∀ W, Below wb.heap.size wb W → Calls Tryz.prog 14 #[.agg (recA KP (.slice ka KP.wr.length kc) (.slice ja (misI KP.mis).length jc)), .agg (recA m (.slice ao L c) (.slice bo J d))] W fun e w' => e = .returned (.bool true) ∧ Below W.heap.size W w') := hide (fun W hB => by
    have h := rsame11_any KP m ka ao ja bo KP.wr.length kc L c (misI KP.mis).length jc J d W hKo hm (hKs.below hB) (hsb.below hB) (hKt.below hB) (htb.below hB)
    rw [hEQ] at h
    exact h)
  obtain ⟨kl, hkl⟩ : ∃ kl, kl = KP.wr.length := ⟨_, rfl⟩
  obtain ⟨jl, hjl⟩ : ∃ jl, jl = (misI KP.mis).length := ⟨_, rfl⟩
  rw [← hkl, ← hjl] at CS CK
  have hLL : L = m.wr.length := by obtain ⟨_, _, e, -, -⟩ := hs.shape; injection e
  have hJJ : J = m.mis.length := by obtain ⟨_, _, e⟩ := ht.shape; injection e with _ e; rw [e, misI_len]
  have CWM := hide (fun W (hB : Below wb.heap.size wb W) => rwrites_any (.slice ao L c) m.wr W (hsb.below hB) hm.wr hv hl)
  have hg1 : decide ((L : Int) ≥ 1) = decide (1 ≤ m.wr.length) := by rw [hLL, Bool.eq_iff_iff, decide_eq_true_eq, decide_eq_true_eq]; omega
  have HKD := hide hk
  have hR0 : mayR m = ([1] : List Nat).all (mayRf m) := by rw [mayR_of hS (by rw [hk]; rfl), hk]; rfl
  have CT : Hid (∀ W, Calls Tryz.prog 25 #[.agg #[.int .u8 (m.tx.1 : Int), .int .u32 (m.tx.2.1 : Int), .int .u32 (m.tx.2.2 : Int)]] W fun e w' => e = .returned (.bool (txMayB (txI m.tx))) ∧ Below W.heap.size W w') := hide (fun W => rtxMay_any (m.tx.1 : Int) (m.tx.2.1 : Int) (m.tx.2.2 : Int) W)
  obtain ⟨R, hR⟩ : ∃ R, R = mayR m := ⟨_, rfl⟩
  rw [← hR]
  have HR : Hid (R = txMayB (txI m.tx)) := hide (by rw [hR, hR0]; simp [mayRf])
  clear hA hX hwb hsb htb hm hs ht hv hl hKo hKs hKt hKP hKW hKM hkl hjl hS hEQ hLL hJJ hk hR0 hR
  generalize txMayB (txI m.tx) = r1 at *
  generalize decide (1 ≤ m.wr.length) = b1 at *
  generalize wsMayB m.wr = b2 at *
  go_enter Tryz.func12, Tryz.ntmps12
  go_wp2_with fail
  refine wp_region_vals (by kernel_rfl) [(5, .agg (recA m (.slice ao L c) (.slice bo J d))), (6, .agg (recA KP (.slice ka kl kc) (.slice ja jl jc))), (7, .agg (recA m (.slice ao L c) (.slice bo J d))), (8, .bool true), (9, .bool false)] (by kernel_rfl) rfl ?_ ?_
  · intro i o hi A w1 hB hold hdeps
    have hlt : i < 5 := (Array.getElem?_eq_some_iff.1 hi).1
    have hc : i = 0 ∨ i = 1 ∨ i = 2 ∨ i = 3 ∨ i = 4 := by omega
    clear hlt
    rcases hc with rfl | rfl | rfl | rfl | rfl
    · obtain rfl := Option.some.inj hi
      have s1 : A.tmps.getD 1 undef = .pointer (some ⟨w.heap.size, 0, none⟩) := hold 1 (by kernel_rfl)
      exact r_pure hi rfl rfl (y_load _ _ s1 (HX.out.belowI hB) Tryz.underlying37 rfl infoRRec)
    · obtain rfl := Option.some.inj hi
      have s5 : A.tmps.getD 5 undef = .agg (recA m (.slice ao L c) (.slice bo J d)) := dep_of hdeps 0 (by kernel_rfl)
      exact r_enter hi rfl rfl (y_call 23 _ #[.agg (recA m (.slice ao L c) (.slice bo J d))] _ rfl (by simp only [List.map_toArray, List.map_cons, List.map_nil, show A.eval (.tmp 5) = .agg (recA m (.slice ao L c) (.slice bo J d)) from s5]; try rfl) en11_rkept) (CK.out w1)
    · obtain rfl := Option.some.inj hi
      have s1 : A.tmps.getD 1 undef = .pointer (some ⟨w.heap.size, 0, none⟩) := hold 1 (by kernel_rfl)
      exact r_pure hi rfl rfl (y_load _ _ s1 (HX.out.belowI hB) Tryz.underlying37 rfl infoRRec)
    · obtain rfl := Option.some.inj hi
      have s6 : A.tmps.getD 6 undef = .agg (recA KP (.slice ka kl kc) (.slice ja jl jc)) := dep_of hdeps 1 (by kernel_rfl)
      have s7 : A.tmps.getD 7 undef = .agg (recA m (.slice ao L c) (.slice bo J d)) := dep_of hdeps 2 (by kernel_rfl)
      exact r_enter hi rfl rfl (y_call 14 _ #[.agg (recA KP (.slice ka kl kc) (.slice ja jl jc)), .agg (recA m (.slice ao L c) (.slice bo J d))] _ rfl (by simp only [List.map_toArray, List.map_cons, List.map_nil, show A.eval (.tmp 6) = .agg (recA KP (.slice ka kl kc) (.slice ja jl jc)) from s6, show A.eval (.tmp 7) = .agg (recA m (.slice ao L c) (.slice bo J d)) from s7]; try rfl) en11_rsame) (CS.out w1 hB)
    · obtain rfl := Option.some.inj hi
      have s8 : A.tmps.getD 8 undef = .bool true := dep_of hdeps 3 (by kernel_rfl)
      exact r_pure hi rfl rfl (y_not (a := true) _ _ s8)
  · intro w8 hB8
    simp only [putAll, Act.put, List.setIfInBounds_toArray, List.set_cons_succ, List.set_cons_zero]
    have HB8 := hide hB8
    clear hB8 CK CS
    have x0 : w8.cell? ⟨w.heap.size, 0, none⟩ = some (.int .u8 6) := (by have h : w8.cell? ⟨w.heap.size, 0, none⟩ = some (.int .u8 (m.kind : Int)) := (HX.out.belowI HB8.out).cell 0 _ rfl; rw [HKD.out] at h; exact h)
    have x2 : w8.cell? ⟨w.heap.size, 2, none⟩ = some (.int .u8 (m.tx.1 : Int)) := (HX.out.belowI HB8.out).cell 2 _ rfl
    have x3 : w8.cell? ⟨w.heap.size, 3, none⟩ = some (.int .u32 (m.tx.2.1 : Int)) := (HX.out.belowI HB8.out).cell 3 _ rfl
    have x4 : w8.cell? ⟨w.heap.size, 4, none⟩ = some (.int .u32 (m.tx.2.2 : Int)) := (HX.out.belowI HB8.out).cell 4 _ rfl
    have x8 : w8.cell? ⟨w.heap.size, 8, none⟩ = some ((.slice ao L c)) := (HX.out.belowI HB8.out).cell 8 _ rfl
    cases b1
    all_goals
      go_wp2_with (first
        | (go_at_call 24; refine (CWM.out _ HB8.out).mono ?_; rintro e w9 ⟨rfl, hB9⟩; have HB9 := hide (HB8.out.trans (hB9.mono HB8.out.size)); have y0 : w9.cell? ⟨w.heap.size, 0, none⟩ = some (.int .u8 6) := (by have h : w9.cell? ⟨w.heap.size, 0, none⟩ = some (.int .u8 (m.kind : Int)) := (HX.out.belowI HB9.out).cell 0 _ rfl; rw [HKD.out] at h; exact h); have y2 : w9.cell? ⟨w.heap.size, 2, none⟩ = some (.int .u8 (m.tx.1 : Int)) := (HX.out.belowI HB9.out).cell 2 _ rfl; have y3 : w9.cell? ⟨w.heap.size, 3, none⟩ = some (.int .u32 (m.tx.2.1 : Int)) := (HX.out.belowI HB9.out).cell 3 _ rfl; have y4 : w9.cell? ⟨w.heap.size, 4, none⟩ = some (.int .u32 (m.tx.2.2 : Int)) := (HX.out.belowI HB9.out).cell 4 _ rfl; clear hB9)
        | (go_at_call 25; (first | (refine (CT.out _).mono ?_; rintro e w10 ⟨rfl, hB10⟩; have HB10 := hide (HB9.out.trans (hB10.mono HB9.out.size)); clear hB10) | (refine (CT.out _).mono ?_; rintro e w10 ⟨rfl, hB10⟩; have HB10 := hide (HB8.out.trans (hB10.mono HB8.out.size)); clear hB10))))
      go_ret
      first
        | exact ⟨by rw [HR.out]; rfl, HA.out.trans (HB11.out.mono HA.out.size)⟩
        | exact ⟨by rw [HR.out]; rfl, HA.out.trans (HB10.out.mono HA.out.size)⟩
        | exact ⟨by rw [HR.out]; rfl, HA.out.trans (HB9.out.mono HA.out.size)⟩
        | exact ⟨by rw [HR.out]; rfl, HA.out.trans (HB8.out.mono HA.out.size)⟩
set_option maxRecDepth 100000 in
set_option maxHeartbeats 6400000 in
theorem rmay11_7 (m : RecP) (hS : keptP m = m) (hk : m.kind = 7) (ao bo : Option Addr) (L c J d : Nat) (w : World) (hm : RecOk m) (hs : RSrc wrE w (.slice ao L c) m.wr) (ht : Lies .u64 w (.slice bo J d) (misI m.mis)) (hi : m.item.val.length ≤ 9223372036854775807) (hv : ∀ x ∈ m.wr, x.it.val.length ≤ 9223372036854775807) (hl : m.wr.length ≤ 100000) : Calls Tryz.prog 12 #[.agg (recA m (.slice ao L c) (.slice bo J d))] w fun e w' => e = .returned (.bool (mayR m)) ∧ Below w.heap.size w w' := by
  have hA := alloc_below10 w (.cells (recA m (.slice ao L c) (.slice bo J d)) 37)
  have hX := box_new w (recA m (.slice ao L c) (.slice bo J d)) 37
  obtain ⟨wb, hwb⟩ : ∃ wb, wb = w.alloc (.cells (recA m (.slice ao L c) (.slice bo J d)) 37) := ⟨_, rfl⟩
  rw [← hwb] at hA hX
  have hW := hwb.symm
  have HA := hide hA
  have HX := hide hX
  have hsb := hs.below hA
  have htb := ht.below hA
  have hKs := keptW_src hsb
  have hKt := keptM_lies htb (Lies.nil .u64 wb)
  have hKo := keptP_ok hm
  have CK := hide (fun W => rkept11_any m ao bo L c J d W)
  obtain ⟨KP, hKP⟩ : ∃ KP, KP = keptP m := ⟨_, rfl⟩
  obtain ⟨KW, hKW⟩ : ∃ KW, KW = keptW m.kind (.slice ao L c) := ⟨_, rfl⟩
  obtain ⟨KM, hKM⟩ : ∃ KM, KM = keptM m.kind (.slice bo J d) := ⟨_, rfl⟩
  rw [← hKP] at hKs hKt hKo CK
  rw [← hKW] at hKs CK
  rw [← hKM] at hKt CK
  obtain ⟨ka, kc, rfl, -, -⟩ := hKs.shape
  obtain ⟨ja, jc, rfl⟩ := hKt.shape
  have hEQ : decide (KP = m) = true := by rw [hKP]; exact decide_eq_true hS
  have CS : Hid (∀ W, Below wb.heap.size wb W → Calls Tryz.prog 14 #[.agg (recA KP (.slice ka KP.wr.length kc) (.slice ja (misI KP.mis).length jc)), .agg (recA m (.slice ao L c) (.slice bo J d))] W fun e w' => e = .returned (.bool true) ∧ Below W.heap.size W w') := hide (fun W hB => by
    have h := rsame11_any KP m ka ao ja bo KP.wr.length kc L c (misI KP.mis).length jc J d W hKo hm (hKs.below hB) (hsb.below hB) (hKt.below hB) (htb.below hB)
    rw [hEQ] at h
    exact h)
  obtain ⟨kl, hkl⟩ : ∃ kl, kl = KP.wr.length := ⟨_, rfl⟩
  obtain ⟨jl, hjl⟩ : ∃ jl, jl = (misI KP.mis).length := ⟨_, rfl⟩
  rw [← hkl, ← hjl] at CS CK
  have hLL : L = m.wr.length := by obtain ⟨_, _, e, -, -⟩ := hs.shape; injection e
  have hJJ : J = m.mis.length := by obtain ⟨_, _, e⟩ := ht.shape; injection e with _ e; rw [e, misI_len]
  have CWM := hide (fun W (hB : Below wb.heap.size wb W) => rwrites_any (.slice ao L c) m.wr W (hsb.below hB) hm.wr hv hl)
  have hg1 : decide ((L : Int) ≥ 1) = decide (1 ≤ m.wr.length) := by rw [hLL, Bool.eq_iff_iff, decide_eq_true_eq, decide_eq_true_eq]; omega
  have HKD := hide hk
  have hR0 : mayR m = ([6, 7] : List Nat).all (mayRf m) := by rw [mayR_of hS (by rw [hk]; rfl), hk]; rfl
  have CY := hide (fun W => rkeyMay_any m.key hm.key W)
  have CI := hide (fun W => ritem_any m.item hm.item hi W)
  obtain ⟨R, hR⟩ : ∃ R, R = mayR m := ⟨_, rfl⟩
  rw [← hR]
  have HR : Hid (R = ((nameF m.key).2 && itMayB m.item)) := hide (by rw [hR, hR0]; simp [mayRf])
  clear hA hX hwb hsb htb hm hs ht hv hl hKo hKs hKt hKP hKW hKM hkl hjl hS hEQ hLL hJJ hk hR0 hR
  generalize (nameF m.key).2 = r1 at *
  generalize itMayB m.item = r2 at *
  generalize decide (1 ≤ m.wr.length) = b1 at *
  generalize wsMayB m.wr = b2 at *
  go_enter Tryz.func12, Tryz.ntmps12
  go_wp2_with fail
  refine wp_region_vals (by kernel_rfl) [(5, .agg (recA m (.slice ao L c) (.slice bo J d))), (6, .agg (recA KP (.slice ka kl kc) (.slice ja jl jc))), (7, .agg (recA m (.slice ao L c) (.slice bo J d))), (8, .bool true), (9, .bool false)] (by kernel_rfl) rfl ?_ ?_
  · intro i o hi A w1 hB hold hdeps
    have hlt : i < 5 := (Array.getElem?_eq_some_iff.1 hi).1
    have hc : i = 0 ∨ i = 1 ∨ i = 2 ∨ i = 3 ∨ i = 4 := by omega
    clear hlt
    rcases hc with rfl | rfl | rfl | rfl | rfl
    · obtain rfl := Option.some.inj hi
      have s1 : A.tmps.getD 1 undef = .pointer (some ⟨w.heap.size, 0, none⟩) := hold 1 (by kernel_rfl)
      exact r_pure hi rfl rfl (y_load _ _ s1 (HX.out.belowI hB) Tryz.underlying37 rfl infoRRec)
    · obtain rfl := Option.some.inj hi
      have s5 : A.tmps.getD 5 undef = .agg (recA m (.slice ao L c) (.slice bo J d)) := dep_of hdeps 0 (by kernel_rfl)
      exact r_enter hi rfl rfl (y_call 23 _ #[.agg (recA m (.slice ao L c) (.slice bo J d))] _ rfl (by simp only [List.map_toArray, List.map_cons, List.map_nil, show A.eval (.tmp 5) = .agg (recA m (.slice ao L c) (.slice bo J d)) from s5]; try rfl) en11_rkept) (CK.out w1)
    · obtain rfl := Option.some.inj hi
      have s1 : A.tmps.getD 1 undef = .pointer (some ⟨w.heap.size, 0, none⟩) := hold 1 (by kernel_rfl)
      exact r_pure hi rfl rfl (y_load _ _ s1 (HX.out.belowI hB) Tryz.underlying37 rfl infoRRec)
    · obtain rfl := Option.some.inj hi
      have s6 : A.tmps.getD 6 undef = .agg (recA KP (.slice ka kl kc) (.slice ja jl jc)) := dep_of hdeps 1 (by kernel_rfl)
      have s7 : A.tmps.getD 7 undef = .agg (recA m (.slice ao L c) (.slice bo J d)) := dep_of hdeps 2 (by kernel_rfl)
      exact r_enter hi rfl rfl (y_call 14 _ #[.agg (recA KP (.slice ka kl kc) (.slice ja jl jc)), .agg (recA m (.slice ao L c) (.slice bo J d))] _ rfl (by simp only [List.map_toArray, List.map_cons, List.map_nil, show A.eval (.tmp 6) = .agg (recA KP (.slice ka kl kc) (.slice ja jl jc)) from s6, show A.eval (.tmp 7) = .agg (recA m (.slice ao L c) (.slice bo J d)) from s7]; try rfl) en11_rsame) (CS.out w1 hB)
    · obtain rfl := Option.some.inj hi
      have s8 : A.tmps.getD 8 undef = .bool true := dep_of hdeps 3 (by kernel_rfl)
      exact r_pure hi rfl rfl (y_not (a := true) _ _ s8)
  · intro w8 hB8
    simp only [putAll, Act.put, List.setIfInBounds_toArray, List.set_cons_succ, List.set_cons_zero]
    have HB8 := hide hB8
    clear hB8 CK CS
    have x0 : w8.cell? ⟨w.heap.size, 0, none⟩ = some (.int .u8 7) := (by have h : w8.cell? ⟨w.heap.size, 0, none⟩ = some (.int .u8 (m.kind : Int)) := (HX.out.belowI HB8.out).cell 0 _ rfl; rw [HKD.out] at h; exact h)
    have x8 : w8.cell? ⟨w.heap.size, 8, none⟩ = some ((.slice ao L c)) := (HX.out.belowI HB8.out).cell 8 _ rfl
    have x10 := (HX.out.belowI HB8.out).cell 10 _ rfl
    have x11 := (HX.out.belowI HB8.out).cell 11 _ rfl
    have x12 := (HX.out.belowI HB8.out).cell 12 _ rfl
    have x13 := (HX.out.belowI HB8.out).cell 13 _ rfl
    have x14 := (HX.out.belowI HB8.out).cell 14 _ rfl
    have x15 := (HX.out.belowI HB8.out).cell 15 _ rfl
    have x16 := (HX.out.belowI HB8.out).cell 16 _ rfl
    have x17 := (HX.out.belowI HB8.out).cell 17 _ rfl
    have x18 := (HX.out.belowI HB8.out).cell 18 _ rfl
    have x19 := (HX.out.belowI HB8.out).cell 19 _ rfl
    have x20 := (HX.out.belowI HB8.out).cell 20 _ rfl
    have x21 := (HX.out.belowI HB8.out).cell 21 _ rfl
    have x22 := (HX.out.belowI HB8.out).cell 22 _ rfl
    have x23 := (HX.out.belowI HB8.out).cell 23 _ rfl
    have x24 := (HX.out.belowI HB8.out).cell 24 _ rfl
    have x25 := (HX.out.belowI HB8.out).cell 25 _ rfl
    have x26 := (HX.out.belowI HB8.out).cell 26 _ rfl
    have x27 := (HX.out.belowI HB8.out).cell 27 _ rfl
    have x28 := (HX.out.belowI HB8.out).cell 28 _ rfl
    have x29 := (HX.out.belowI HB8.out).cell 29 _ rfl
    have x30 := (HX.out.belowI HB8.out).cell 30 _ rfl
    cases b1 <;> cases r1 <;> cases r2
    all_goals
      go_wp2_with (first
        | (go_at_call 24; refine (CWM.out _ HB8.out).mono ?_; rintro e w9 ⟨rfl, hB9⟩; have HB9 := hide (HB8.out.trans (hB9.mono HB8.out.size)); have y0 : w9.cell? ⟨w.heap.size, 0, none⟩ = some (.int .u8 7) := (by have h : w9.cell? ⟨w.heap.size, 0, none⟩ = some (.int .u8 (m.kind : Int)) := (HX.out.belowI HB9.out).cell 0 _ rfl; rw [HKD.out] at h; exact h); have y10 := (HX.out.belowI HB9.out).cell 10 _ rfl; have y11 := (HX.out.belowI HB9.out).cell 11 _ rfl; have y12 := (HX.out.belowI HB9.out).cell 12 _ rfl; have y13 := (HX.out.belowI HB9.out).cell 13 _ rfl; have y14 := (HX.out.belowI HB9.out).cell 14 _ rfl; have y15 := (HX.out.belowI HB9.out).cell 15 _ rfl; have y16 := (HX.out.belowI HB9.out).cell 16 _ rfl; have y17 := (HX.out.belowI HB9.out).cell 17 _ rfl; have y18 := (HX.out.belowI HB9.out).cell 18 _ rfl; have y19 := (HX.out.belowI HB9.out).cell 19 _ rfl; have y20 := (HX.out.belowI HB9.out).cell 20 _ rfl; have y21 := (HX.out.belowI HB9.out).cell 21 _ rfl; have y22 := (HX.out.belowI HB9.out).cell 22 _ rfl; have y23 := (HX.out.belowI HB9.out).cell 23 _ rfl; have y24 := (HX.out.belowI HB9.out).cell 24 _ rfl; have y25 := (HX.out.belowI HB9.out).cell 25 _ rfl; have y26 := (HX.out.belowI HB9.out).cell 26 _ rfl; have y27 := (HX.out.belowI HB9.out).cell 27 _ rfl; have y28 := (HX.out.belowI HB9.out).cell 28 _ rfl; have y29 := (HX.out.belowI HB9.out).cell 29 _ rfl; have y30 := (HX.out.belowI HB9.out).cell 30 _ rfl; clear hB9)
        | (go_at_call 27; (first | (refine (CY.out _).mono ?_; rintro e w10 ⟨rfl, hB10⟩; have HB10 := hide (HB9.out.trans (hB10.mono HB9.out.size)); clear hB10) | (refine (CY.out _).mono ?_; rintro e w10 ⟨rfl, hB10⟩; have HB10 := hide (HB8.out.trans (hB10.mono HB8.out.size)); clear hB10)); have z18 := (HX.out.belowI HB10.out).cell 18 _ rfl; have z19 := (HX.out.belowI HB10.out).cell 19 _ rfl; have z20 := (HX.out.belowI HB10.out).cell 20 _ rfl; have z21 := (HX.out.belowI HB10.out).cell 21 _ rfl; have z22 := (HX.out.belowI HB10.out).cell 22 _ rfl; have z23 := (HX.out.belowI HB10.out).cell 23 _ rfl; have z24 := (HX.out.belowI HB10.out).cell 24 _ rfl; have z25 := (HX.out.belowI HB10.out).cell 25 _ rfl; have z26 := (HX.out.belowI HB10.out).cell 26 _ rfl; have z27 := (HX.out.belowI HB10.out).cell 27 _ rfl; have z28 := (HX.out.belowI HB10.out).cell 28 _ rfl; have z29 := (HX.out.belowI HB10.out).cell 29 _ rfl; have z30 := (HX.out.belowI HB10.out).cell 30 _ rfl)
        | (go_at_call 28; (first | (refine (CI.out _).mono ?_; rintro e w11 ⟨rfl, hB11⟩; have HB11 := hide (HB10.out.trans (hB11.mono HB10.out.size)); clear hB11))))
      go_ret
      first
        | exact ⟨by rw [HR.out]; rfl, HA.out.trans (HB11.out.mono HA.out.size)⟩
        | exact ⟨by rw [HR.out]; rfl, HA.out.trans (HB10.out.mono HA.out.size)⟩
        | exact ⟨by rw [HR.out]; rfl, HA.out.trans (HB9.out.mono HA.out.size)⟩
        | exact ⟨by rw [HR.out]; rfl, HA.out.trans (HB8.out.mono HA.out.size)⟩
theorem rmay11_any (m : RecP) (ao bo : Option Addr) (L c J d : Nat) (w : World) (hm : RecOk m) (hs : RSrc wrE w (.slice ao L c) m.wr) (ht : Lies .u64 w (.slice bo J d) (misI m.mis)) (hi : m.item.val.length ≤ 9223372036854775807) (hv : ∀ x ∈ m.wr, x.it.val.length ≤ 9223372036854775807) (hl : m.wr.length ≤ 100000) : Calls Tryz.prog 12 #[.agg (recA m (.slice ao L c) (.slice bo J d))] w fun e w' => e = .returned (.bool (mayR m)) ∧ Below w.heap.size w w' := by
  by_cases hS : keptP m = m
  · by_cases h : (fieldsR m.kind).isEmpty = true
    · exact rmay11_0 m hS h ao bo L c J d w hm hs ht hi hv hl
    · rcases fieldsR_kind (fun e => h (by rw [e]; rfl)) with h | h | h | h | h | h | h
      · exact rmay11_1 m hS h ao bo L c J d w hm hs ht hi hv hl
      · exact rmay11_2 m hS h ao bo L c J d w hm hs ht hi hv hl
      · exact rmay11_3 m hS h ao bo L c J d w hm hs ht hi hv hl
      · exact rmay11_4 m hS h ao bo L c J d w hm hs ht hi hv hl
      · exact rmay11_5 m hS h ao bo L c J d w hm hs ht hi hv hl
      · exact rmay11_6 m hS h ao bo L c J d w hm hs ht hi hv hl
      · exact rmay11_7 m hS h ao bo L c J d w hm hs ht hi hv hl
  · exact rmay11_9 m hS ao bo L c J d w hm hs ht hi hv hl
end
end Go.Proofs.YtencmgepffdodaaGreat
