/-
  Proved: what may be a record, and which are the same, are the document's: whatever comes. For every input of the form's own reach. Own work.
-/
import Derived.Test.YtencmgepffdodaaGreatGB
import Derived.Test.YtencmgepffdodaaGreatGR4
import Derived.Test.YtencmgepffdodaaGreatG45
import Derived.Test.YtencmgepffdodaaGreatGA
import Derived.SizedLaws
import Derived.ChangeArms
namespace Go.Proofs.YtencmgepffdodaaGreat
section
open Go.RowKit Classical

theorem en11M_may : ∀ args w, (callFunc 10 args).run Tryz.prog w = .ok (.enter 10 args) w := enters_of Tryz.func10 (by kernel_rfl) rfl
theorem en11M_rmay : ∀ args w, (callFunc 12 args).run Tryz.prog w = .ok (.enter 12 args) w := enters_of Tryz.func12 (by kernel_rfl) rfl
theorem eql_bool11 (b : Bool) (w : World) : (binOp .eql 4 (.bool b) (.bool b)).run Tryz.prog w = .ok (.bool true) w := by cases b <;> kernel_rfl
theorem few_of11 {m : RecP} (h : longR m = false) : m.wr.length ≤ 40 := by
  unfold longR at h
  simp only [Bool.or_eq_false_iff, decide_eq_false_iff_not] at h
  omega
set_option maxRecDepth 100000 in
set_option maxHeartbeats 6400000 in
theorem walkM11 (H : RecDo) (m k : RecP) (a1 e1 a2 e2 : Option Addr) (c1 d1 c2 d2 : Nat) (w : World) (hok1 : RecOk m) (hok2 : RecOk k) (h1 : RV w m a1 m.wr.length c1 e1 m.mis.length d1) (h2 : RV w k a2 k.wr.length c2 e2 k.mis.length d2) (hv1 : m.item.val.length ≤ 140737488355328) (hv2 : k.item.val.length ≤ 140737488355328) (hw : ∀ x ∈ m.wr, x.it.val.length ≤ 9223372036854775807) :
    Calls Tryz.prog 3 #[.agg (recA m (.slice a1 m.wr.length c1) (.slice e1 m.mis.length d1)), .agg (recA k (.slice a2 k.wr.length c2) (.slice e2 k.mis.length d2))] w fun e w' => e = .returned (.bool true) ∧ Below w.heap.size w w' := by
  obtain ⟨L1, hL1⟩ : ∃ L1, L1 = m.wr.length := ⟨_, rfl⟩
  obtain ⟨L2, hL2⟩ : ∃ L2, L2 = k.wr.length := ⟨_, rfl⟩
  obtain ⟨J1, hJ1⟩ : ∃ J1, J1 = m.mis.length := ⟨_, rfl⟩
  obtain ⟨J2, hJ2⟩ : ∃ J2, J2 = k.mis.length := ⟨_, rfl⟩
  rw [← hL1, ← hJ1] at h1 ⊢
  rw [← hL2, ← hJ2] at h2 ⊢
  have hA := ((Below.refl w.heap.size w).alloc (Nat.le_refl _) (.cells (recA m (.slice a1 L1 c1) (.slice e1 J1 d1)) 37)).alloc (by simp) (.cells (recA k (.slice a2 L2 c2) (.slice e2 J2 d2)) 37)
  have hX := (box_new w (recA m (.slice a1 L1 c1) (.slice e1 J1 d1)) 37).belowI (alloc_below10 _ (.cells (recA k (.slice a2 L2 c2) (.slice e2 J2 d2)) 37))
  have hY := box_new (w.alloc (.cells (recA m (.slice a1 L1 c1) (.slice e1 J1 d1)) 37)) (recA k (.slice a2 L2 c2) (.slice e2 J2 d2)) 37
  rw [World.size_alloc] at hY
  obtain ⟨w2, hw2⟩ : ∃ w2, w2 = (w.alloc (.cells (recA m (.slice a1 L1 c1) (.slice e1 J1 d1)) 37)).alloc (.cells (recA k (.slice a2 L2 c2) (.slice e2 J2 d2)) 37) := ⟨_, rfl⟩
  rw [← hw2] at hA hX hY
  have hW := hw2.symm
  have HA := hide hA
  have HX := hide hX
  have HY := hide hY
  have h1 := h1.below hA
  have h2 := h2.below hA
  have CL1 : Hid (∀ W, Below w2.heap.size w2 W → Calls Tryz.prog 8 #[.agg (recA m (.slice a1 L1 c1) (.slice e1 J1 d1))] W fun e w' => e = .returned (.bool (longR m)) ∧ Below W.heap.size W w') := hide (fun W hB => by have h := (h1.below hB).1; rw [hL1] at h ⊢; rw [hJ1]; exact long_any11 m a1 e1 c1 d1 W h hv1)
  have CL2 : Hid (∀ W, Below w2.heap.size w2 W → Calls Tryz.prog 8 #[.agg (recA k (.slice a2 L2 c2) (.slice e2 J2 d2))] W fun e w' => e = .returned (.bool (longR k)) ∧ Below W.heap.size W w') := hide (fun W hB => by have h := (h2.below hB).1; rw [hL2] at h ⊢; rw [hJ2]; exact long_any11 k a2 e2 c2 d2 W h hv2)
  have HAL := hide (fun w => alive_by11 H w)
  have H1 := hide h1
  have H2 := hide h2
  have HO1 := hide hok1
  have HO2 := hide hok2
  have HL1 := hide (And.intro hL1 hJ1)
  have HL2 := hide (And.intro hL2 hJ2)
  have HV := hide (And.intro hv1 hw)
  clear h1 h2 hA hX hY hw2 hok1 hok2 hL1 hL2 hJ1 hJ2 hv1 hv2 hw
  have CT1 := hide (fun w => theirs_any11 m a1 e1 L1 c1 J1 d1 w)
  have CT2 := hide (fun w => theirs_any11 k a2 e2 L2 c2 J2 d2 w)
  cases hl1 : longR m with
  | true =>
    rw [hl1] at CL1
    clear hl1 CL2
    go_enter Tryz.func3, Tryz.ntmps3
    go_wp2_with (first | (refine wp_load_box rfl _ rfl w.heap.size rfl HX.out Tryz.underlying37 rfl infoRRec ?_) | (go_at_call 8; refine (CL1.out w2 (Below.refl _ _)).mono ?_; rintro e w3 ⟨rfl, hB3⟩; have HB3 := hide hB3; clear hB3) | (go_at_call 9; refine (HAL.out _).mono ?_; rintro e w5 ⟨rfl, hB5⟩; have HB5 := hide hB5; clear hB5))
    go_ret
    exact ⟨rfl, HA.out.trans ((HB3.out.trans (HB5.out.mono HB3.out.size)).mono HA.out.size)⟩
  | false =>
    have HF1 := hide (few_of11 hl1)
    rw [hl1] at CL1
    clear hl1
    cases hl2 : longR k with
    | true =>
      rw [hl2] at CL2
      clear hl2
      go_enter Tryz.func3, Tryz.ntmps3
      go_wp2_with (first | (refine wp_load_box rfl _ rfl w.heap.size rfl HX.out Tryz.underlying37 rfl infoRRec ?_) | (go_at_call 8; refine (CL1.out w2 (Below.refl _ _)).mono ?_; rintro e w3 ⟨rfl, hB3⟩; have HB3 := hide hB3; have HY3 := hide (HY.out.belowI hB3); clear hB3 CL1 HX) | (refine wp_load_box_g rfl _ rfl (w.heap.size + 1) rfl HY3.out Tryz.underlying37 rfl infoRRec ?_) | (go_at_call 8; refine (CL2.out w3 HB3.out).mono ?_; rintro e w4 ⟨rfl, hB4⟩; have HB4 := hide (HB3.out.trans (hB4.mono HB3.out.size)); clear hB4) | (go_at_call 9; refine (HAL.out _).mono ?_; rintro e w5 ⟨rfl, hB5⟩; have HB5 := hide hB5; clear hB5))
      go_ret
      exact ⟨rfl, HA.out.trans ((HB4.out.trans (HB5.out.mono HB4.out.size)).mono HA.out.size)⟩
    | false =>
      rw [hl2] at CL2
      clear hl2
      obtain ⟨b1, hb1⟩ : ∃ b, b = mayR m := ⟨_, rfl⟩
      obtain ⟨b4, hb4⟩ : ∃ b, b = decide (m = k) := ⟨_, rfl⟩
      have HLM : Hid (∀ W, Below w2.heap.size w2 W → RcLies W (.agg (recA m (.slice a1 L1 c1) (.slice e1 J1 d1))) m) := hide (fun W hB => ⟨a1, e1, c1, d1, by rw [HL1.out.1, HL1.out.2], by rw [← HL1.out.1]; exact (H1.out.below hB).1, by rw [← HL1.out.2]; exact (H1.out.below hB).2⟩)
      have HLK : Hid (∀ W, Below w2.heap.size w2 W → RcLies W (.agg (recA k (.slice a2 L2 c2) (.slice e2 J2 d2))) k) := hide (fun W hB => ⟨a2, e2, c2, d2, by rw [HL2.out.1, HL2.out.2], by rw [← HL2.out.1]; exact (H2.out.below hB).1, by rw [← HL2.out.2]; exact (H2.out.below hB).2⟩)
      have CM := hide (fun W hB => H.may HO1.out (HLM.out W hB))
      have CS := hide (fun W hB => H.same HO1.out HO2.out (HLM.out W hB) (HLK.out W hB))
      have CU : Hid (∀ W, Below w2.heap.size w2 W → Calls Tryz.prog 13 #[.agg (recA m (.slice a1 L1 c1) (.slice e1 J1 d1)), .agg (recA m (.slice a1 L1 c1) (.slice e1 J1 d1))] W fun e w' => e = .returned (.bool true) ∧ Below W.heap.size W w') := hide (fun W hB => by have := H.same HO1.out HO1.out (HLM.out W hB) (HLM.out W hB); rw [decide_eq_true rfl] at this; exact this)
      have CN := hide (fun W (hB : Below w2.heap.size w2 W) => rmay11_any m a1 e1 L1 c1 J1 d1 W HO1.out (H1.out.below hB).1 (H1.out.below hB).2 (by have := HV.out.1; omega) HV.out.2 (by have := HF1.out; omega))
      have CQ := hide (fun W (hB : Below w2.heap.size w2 W) => rsame11_any m k a1 a2 e1 e2 L1 c1 L2 c2 J1 d1 J2 d2 W HO1.out HO2.out (H1.out.below hB).1 (H2.out.below hB).1 (H1.out.below hB).2 (H2.out.below hB).2)
      rw [← hb1] at CM CN
      rw [← hb4] at CS CQ
      clear hb1 hb4
      go_enter Tryz.func3, Tryz.ntmps3
      go_wp2_with (first | (refine wp_load_box rfl _ rfl w.heap.size rfl HX.out Tryz.underlying37 rfl infoRRec ?_) | (go_at_call 8; refine (CL1.out w2 (Below.refl _ _)).mono ?_; rintro e w3 ⟨rfl, hB3⟩; have HB3 := hide hB3; have HY3 := hide (HY.out.belowI hB3); have HX3 := hide (HX.out.belowI hB3); clear hB3 CL1 HX) | (refine wp_load_box_g rfl _ rfl (w.heap.size + 1) rfl HY3.out Tryz.underlying37 rfl infoRRec ?_) | (go_at_call 8; refine (CL2.out w3 HB3.out).mono ?_; rintro e w4 ⟨rfl, hB4⟩; have HB4 := hide (HB3.out.trans (hB4.mono HB3.out.size)); have HX4 := hide (HX3.out.belowI hB4); have HY4 := hide (HY3.out.belowI hB4); clear hB4))
      refine wp_region_vals (by kernel_rfl) [(12, .agg (recA m (.slice a1 L1 c1) (.slice e1 J1 d1))), (13, .agg (recA m (.slice a1 L1 c1) (.slice e1 J1 d1))), (14, .bool b1), (15, .agg (recA m (.slice a1 L1 c1) (.slice e1 J1 d1))), (16, .bool b1), (17, .bool true), (18, .bool true), (19, .agg (recA m (.slice a1 L1 c1) (.slice e1 J1 d1))), (20, .agg (recA m (.slice a1 L1 c1) (.slice e1 J1 d1))), (21, .agg (recA k (.slice a2 L2 c2) (.slice e2 J2 d2))), (22, .agg (recA k (.slice a2 L2 c2) (.slice e2 J2 d2))), (23, .bool b4), (24, .agg (recA m (.slice a1 L1 c1) (.slice e1 J1 d1))), (25, .agg (recA k (.slice a2 L2 c2) (.slice e2 J2 d2))), (26, .bool b4), (27, .bool true), (28, .bool true), (29, .bool true), (30, .agg (recA m (.slice a1 L1 c1) (.slice e1 J1 d1))), (31, .agg (recA m (.slice a1 L1 c1) (.slice e1 J1 d1))), (32, .agg (recA m (.slice a1 L1 c1) (.slice e1 J1 d1))), (33, .agg (recA m (.slice a1 L1 c1) (.slice e1 J1 d1))), (34, .bool true), (35, .bool true), (36, .bool true), (37, .bool true), (38, .bool true), (4, .bool true)] (by kernel_rfl) rfl ?_ ?_
      · intro i o hi A w1 hB hold hdeps
        have hlt : i < 28 := (Array.getElem?_eq_some_iff.1 hi).1
        have hc : i = 0 ∨ i = 1 ∨ i = 2 ∨ i = 3 ∨ i = 4 ∨ i = 5 ∨ i = 6 ∨ i = 7 ∨ i = 8 ∨ i = 9 ∨ i = 10 ∨ i = 11 ∨ i = 12 ∨ i = 13 ∨ i = 14 ∨ i = 15 ∨ i = 16 ∨ i = 17 ∨ i = 18 ∨ i = 19 ∨ i = 20 ∨ i = 21 ∨ i = 22 ∨ i = 23 ∨ i = 24 ∨ i = 25 ∨ i = 26 ∨ i = 27 := by omega
        clear hlt
        rcases hc with rfl | rfl | rfl | rfl | rfl | rfl | rfl | rfl | rfl | rfl | rfl | rfl | rfl | rfl | rfl | rfl | rfl | rfl | rfl | rfl | rfl | rfl | rfl | rfl | rfl | rfl | rfl | rfl
        · obtain rfl := Option.some.inj hi
          have s2 : A.tmps.getD 2 undef = .pointer (some ⟨w.heap.size, 0, none⟩) := hold 2 (by kernel_rfl)
          exact r_pure hi rfl rfl (y_load _ _ s2 (HX4.out.belowI hB) Tryz.underlying37 rfl infoRRec)
        · obtain rfl := Option.some.inj hi
          have s12 : A.tmps.getD 12 undef = .agg (recA m (.slice a1 L1 c1) (.slice e1 J1 d1)) := dep_of hdeps 0 (by kernel_rfl)
          exact r_enter hi rfl rfl (y_call 11 _ #[.agg (recA m (.slice a1 L1 c1) (.slice e1 J1 d1))] _ rfl (by simp only [List.map_toArray, List.map_cons, List.map_nil, show A.eval (.tmp 12) = .agg (recA m (.slice a1 L1 c1) (.slice e1 J1 d1)) from s12]; try rfl) en11_theirs) (CT1.out w1)
        · obtain rfl := Option.some.inj hi
          have s13 : A.tmps.getD 13 undef = .agg (recA m (.slice a1 L1 c1) (.slice e1 J1 d1)) := dep_of hdeps 1 (by kernel_rfl)
          exact r_enter hi rfl rfl (y_call 10 _ #[.agg (recA m (.slice a1 L1 c1) (.slice e1 J1 d1))] _ rfl (by simp only [List.map_toArray, List.map_cons, List.map_nil, show A.eval (.tmp 13) = .agg (recA m (.slice a1 L1 c1) (.slice e1 J1 d1)) from s13]; try rfl) en11M_may) (CM.out w1 (HB4.out.trans (hB.mono HB4.out.size)))
        · obtain rfl := Option.some.inj hi
          have s2 : A.tmps.getD 2 undef = .pointer (some ⟨w.heap.size, 0, none⟩) := hold 2 (by kernel_rfl)
          exact r_pure hi rfl rfl (y_load _ _ s2 (HX4.out.belowI hB) Tryz.underlying37 rfl infoRRec)
        · obtain rfl := Option.some.inj hi
          have s15 : A.tmps.getD 15 undef = .agg (recA m (.slice a1 L1 c1) (.slice e1 J1 d1)) := dep_of hdeps 3 (by kernel_rfl)
          exact r_enter hi rfl rfl (y_call 12 _ #[.agg (recA m (.slice a1 L1 c1) (.slice e1 J1 d1))] _ rfl (by simp only [List.map_toArray, List.map_cons, List.map_nil, show A.eval (.tmp 15) = .agg (recA m (.slice a1 L1 c1) (.slice e1 J1 d1)) from s15]; try rfl) en11M_rmay) (CN.out w1 (HB4.out.trans (hB.mono HB4.out.size)))
        · obtain rfl := Option.some.inj hi
          have s14 : A.tmps.getD 14 undef = .bool b1 := dep_of hdeps 2 (by kernel_rfl)
          have s16 : A.tmps.getD 16 undef = .bool b1 := dep_of hdeps 4 (by kernel_rfl)
          exact r_pure hi rfl rfl (y_bin _ _ _ _ _ s14 s16 (eql_bool11 b1 w1) (by kernel_rfl))
        · obtain rfl := Option.some.inj hi
          have s17 : A.tmps.getD 17 undef = .bool true := dep_of hdeps 5 (by kernel_rfl)
          exact r_pure hi rfl rfl (y_move _ s17)
        · obtain rfl := Option.some.inj hi
          have g7 : A.tmps.getD 18 undef = .bool true := dep_of hdeps 6 (by kernel_rfl)
          have s2 : A.tmps.getD 2 undef = .pointer (some ⟨w.heap.size, 0, none⟩) := hold 2 (by kernel_rfl)
          exact r_pure hi (wanted_of rfl rfl g7) rfl (y_load _ _ s2 (HX4.out.belowI hB) Tryz.underlying37 rfl infoRRec)
        · obtain rfl := Option.some.inj hi
          have g8 : A.tmps.getD 18 undef = .bool true := dep_of hdeps 6 (by kernel_rfl)
          have s19 : A.tmps.getD 19 undef = .agg (recA m (.slice a1 L1 c1) (.slice e1 J1 d1)) := dep_of hdeps 7 (by kernel_rfl)
          exact r_enter hi (wanted_of rfl rfl g8) rfl (y_call 11 _ #[.agg (recA m (.slice a1 L1 c1) (.slice e1 J1 d1))] _ rfl (by simp only [List.map_toArray, List.map_cons, List.map_nil, show A.eval (.tmp 19) = .agg (recA m (.slice a1 L1 c1) (.slice e1 J1 d1)) from s19]; try rfl) en11_theirs) (CT1.out w1)
        · obtain rfl := Option.some.inj hi
          have g9 : A.tmps.getD 18 undef = .bool true := dep_of hdeps 6 (by kernel_rfl)
          have s3 : A.tmps.getD 3 undef = .pointer (some ⟨w.heap.size + 1, 0, none⟩) := hold 3 (by kernel_rfl)
          exact r_pure hi (wanted_of rfl rfl g9) rfl (y_load _ _ s3 (HY4.out.belowI hB) Tryz.underlying37 rfl infoRRec)
        · obtain rfl := Option.some.inj hi
          have g10 : A.tmps.getD 18 undef = .bool true := dep_of hdeps 6 (by kernel_rfl)
          have s21 : A.tmps.getD 21 undef = .agg (recA k (.slice a2 L2 c2) (.slice e2 J2 d2)) := dep_of hdeps 9 (by kernel_rfl)
          exact r_enter hi (wanted_of rfl rfl g10) rfl (y_call 11 _ #[.agg (recA k (.slice a2 L2 c2) (.slice e2 J2 d2))] _ rfl (by simp only [List.map_toArray, List.map_cons, List.map_nil, show A.eval (.tmp 21) = .agg (recA k (.slice a2 L2 c2) (.slice e2 J2 d2)) from s21]; try rfl) en11_theirs) (CT2.out w1)
        · obtain rfl := Option.some.inj hi
          have g11 : A.tmps.getD 18 undef = .bool true := dep_of hdeps 6 (by kernel_rfl)
          have s20 : A.tmps.getD 20 undef = .agg (recA m (.slice a1 L1 c1) (.slice e1 J1 d1)) := dep_of hdeps 8 (by kernel_rfl)
          have s22 : A.tmps.getD 22 undef = .agg (recA k (.slice a2 L2 c2) (.slice e2 J2 d2)) := dep_of hdeps 10 (by kernel_rfl)
          exact r_enter hi (wanted_of rfl rfl g11) rfl (y_call 13 _ #[.agg (recA m (.slice a1 L1 c1) (.slice e1 J1 d1)), .agg (recA k (.slice a2 L2 c2) (.slice e2 J2 d2))] _ rfl (by simp only [List.map_toArray, List.map_cons, List.map_nil, show A.eval (.tmp 20) = .agg (recA m (.slice a1 L1 c1) (.slice e1 J1 d1)) from s20, show A.eval (.tmp 22) = .agg (recA k (.slice a2 L2 c2) (.slice e2 J2 d2)) from s22]; try rfl) en11_same) (CS.out w1 (HB4.out.trans (hB.mono HB4.out.size)))
        · obtain rfl := Option.some.inj hi
          have g12 : A.tmps.getD 18 undef = .bool true := dep_of hdeps 6 (by kernel_rfl)
          have s2 : A.tmps.getD 2 undef = .pointer (some ⟨w.heap.size, 0, none⟩) := hold 2 (by kernel_rfl)
          exact r_pure hi (wanted_of rfl rfl g12) rfl (y_load _ _ s2 (HX4.out.belowI hB) Tryz.underlying37 rfl infoRRec)
        · obtain rfl := Option.some.inj hi
          have g13 : A.tmps.getD 18 undef = .bool true := dep_of hdeps 6 (by kernel_rfl)
          have s3 : A.tmps.getD 3 undef = .pointer (some ⟨w.heap.size + 1, 0, none⟩) := hold 3 (by kernel_rfl)
          exact r_pure hi (wanted_of rfl rfl g13) rfl (y_load _ _ s3 (HY4.out.belowI hB) Tryz.underlying37 rfl infoRRec)
        · obtain rfl := Option.some.inj hi
          have g14 : A.tmps.getD 18 undef = .bool true := dep_of hdeps 6 (by kernel_rfl)
          have s24 : A.tmps.getD 24 undef = .agg (recA m (.slice a1 L1 c1) (.slice e1 J1 d1)) := dep_of hdeps 12 (by kernel_rfl)
          have s25 : A.tmps.getD 25 undef = .agg (recA k (.slice a2 L2 c2) (.slice e2 J2 d2)) := dep_of hdeps 13 (by kernel_rfl)
          exact r_enter hi (wanted_of rfl rfl g14) rfl (y_call 14 _ #[.agg (recA m (.slice a1 L1 c1) (.slice e1 J1 d1)), .agg (recA k (.slice a2 L2 c2) (.slice e2 J2 d2))] _ rfl (by simp only [List.map_toArray, List.map_cons, List.map_nil, show A.eval (.tmp 24) = .agg (recA m (.slice a1 L1 c1) (.slice e1 J1 d1)) from s24, show A.eval (.tmp 25) = .agg (recA k (.slice a2 L2 c2) (.slice e2 J2 d2)) from s25]; try rfl) en11_rsame) (CQ.out w1 (HB4.out.trans (hB.mono HB4.out.size)))
        · obtain rfl := Option.some.inj hi
          have g15 : A.tmps.getD 18 undef = .bool true := dep_of hdeps 6 (by kernel_rfl)
          have s23 : A.tmps.getD 23 undef = .bool b4 := dep_of hdeps 11 (by kernel_rfl)
          have s26 : A.tmps.getD 26 undef = .bool b4 := dep_of hdeps 14 (by kernel_rfl)
          exact r_pure hi (wanted_of rfl rfl g15) rfl (y_bin _ _ _ _ _ s23 s26 (eql_bool11 b4 w1) (by kernel_rfl))
        · obtain rfl := Option.some.inj hi
          have s18 : A.tmps.getD 18 undef = .bool true := dep_of hdeps 6 (by kernel_rfl)
          have s27 : A.tmps.getD 27 undef = .bool true := dep_of hdeps 15 (by kernel_rfl)
          exact r_pure hi rfl rfl (y_pickT _ _ _ s18 s27)
        · obtain rfl := Option.some.inj hi
          have s28 : A.tmps.getD 28 undef = .bool true := dep_of hdeps 16 (by kernel_rfl)
          exact r_pure hi rfl rfl (y_move _ s28)
        · obtain rfl := Option.some.inj hi
          have g18 : A.tmps.getD 29 undef = .bool true := dep_of hdeps 17 (by kernel_rfl)
          have s2 : A.tmps.getD 2 undef = .pointer (some ⟨w.heap.size, 0, none⟩) := hold 2 (by kernel_rfl)
          exact r_pure hi (wanted_of rfl rfl g18) rfl (y_load _ _ s2 (HX4.out.belowI hB) Tryz.underlying37 rfl infoRRec)
        · obtain rfl := Option.some.inj hi
          have g19 : A.tmps.getD 29 undef = .bool true := dep_of hdeps 17 (by kernel_rfl)
          have s30 : A.tmps.getD 30 undef = .agg (recA m (.slice a1 L1 c1) (.slice e1 J1 d1)) := dep_of hdeps 18 (by kernel_rfl)
          exact r_enter hi (wanted_of rfl rfl g19) rfl (y_call 11 _ #[.agg (recA m (.slice a1 L1 c1) (.slice e1 J1 d1))] _ rfl (by simp only [List.map_toArray, List.map_cons, List.map_nil, show A.eval (.tmp 30) = .agg (recA m (.slice a1 L1 c1) (.slice e1 J1 d1)) from s30]; try rfl) en11_theirs) (CT1.out w1)
        · obtain rfl := Option.some.inj hi
          have g20 : A.tmps.getD 29 undef = .bool true := dep_of hdeps 17 (by kernel_rfl)
          have s2 : A.tmps.getD 2 undef = .pointer (some ⟨w.heap.size, 0, none⟩) := hold 2 (by kernel_rfl)
          exact r_pure hi (wanted_of rfl rfl g20) rfl (y_load _ _ s2 (HX4.out.belowI hB) Tryz.underlying37 rfl infoRRec)
        · obtain rfl := Option.some.inj hi
          have g21 : A.tmps.getD 29 undef = .bool true := dep_of hdeps 17 (by kernel_rfl)
          have s32 : A.tmps.getD 32 undef = .agg (recA m (.slice a1 L1 c1) (.slice e1 J1 d1)) := dep_of hdeps 20 (by kernel_rfl)
          exact r_enter hi (wanted_of rfl rfl g21) rfl (y_call 11 _ #[.agg (recA m (.slice a1 L1 c1) (.slice e1 J1 d1))] _ rfl (by simp only [List.map_toArray, List.map_cons, List.map_nil, show A.eval (.tmp 32) = .agg (recA m (.slice a1 L1 c1) (.slice e1 J1 d1)) from s32]; try rfl) en11_theirs) (CT1.out w1)
        · obtain rfl := Option.some.inj hi
          have g22 : A.tmps.getD 29 undef = .bool true := dep_of hdeps 17 (by kernel_rfl)
          have s31 : A.tmps.getD 31 undef = .agg (recA m (.slice a1 L1 c1) (.slice e1 J1 d1)) := dep_of hdeps 19 (by kernel_rfl)
          have s33 : A.tmps.getD 33 undef = .agg (recA m (.slice a1 L1 c1) (.slice e1 J1 d1)) := dep_of hdeps 21 (by kernel_rfl)
          exact r_enter hi (wanted_of rfl rfl g22) rfl (y_call 13 _ #[.agg (recA m (.slice a1 L1 c1) (.slice e1 J1 d1)), .agg (recA m (.slice a1 L1 c1) (.slice e1 J1 d1))] _ rfl (by simp only [List.map_toArray, List.map_cons, List.map_nil, show A.eval (.tmp 31) = .agg (recA m (.slice a1 L1 c1) (.slice e1 J1 d1)) from s31, show A.eval (.tmp 33) = .agg (recA m (.slice a1 L1 c1) (.slice e1 J1 d1)) from s33]; try rfl) en11_same) (CU.out w1 (HB4.out.trans (hB.mono HB4.out.size)))
        · obtain rfl := Option.some.inj hi
          have s29 : A.tmps.getD 29 undef = .bool true := dep_of hdeps 17 (by kernel_rfl)
          have s34 : A.tmps.getD 34 undef = .bool true := dep_of hdeps 22 (by kernel_rfl)
          exact r_pure hi rfl rfl (y_pickT _ _ _ s29 s34)
        · obtain rfl := Option.some.inj hi
          have s35 : A.tmps.getD 35 undef = .bool true := dep_of hdeps 23 (by kernel_rfl)
          exact r_pure hi rfl rfl (y_move _ s35)
        · obtain rfl := Option.some.inj hi
          have g25 : A.tmps.getD 36 undef = .bool true := dep_of hdeps 24 (by kernel_rfl)
          exact r_enter hi (wanted_of rfl rfl g25) rfl (y_call 9 _ #[] _ rfl (by simp) en11_alive) (HAL.out w1)
        · obtain rfl := Option.some.inj hi
          have s36 : A.tmps.getD 36 undef = .bool true := dep_of hdeps 24 (by kernel_rfl)
          have s37 : A.tmps.getD 37 undef = .bool true := dep_of hdeps 25 (by kernel_rfl)
          exact r_pure hi rfl rfl (y_pickT _ _ _ s36 s37)
        · obtain rfl := Option.some.inj hi
          have s38 : A.tmps.getD 38 undef = .bool true := dep_of hdeps 26 (by kernel_rfl)
          exact r_pure hi rfl rfl (y_assign _ s38)
      · intro w8 hB8
        simp only [putAll, Act.put, List.setIfInBounds_toArray, List.set_cons_succ, List.set_cons_zero]
        have HB8 := hide (HB4.out.trans (hB8.mono HB4.out.size))
        clear hB8
        go_wp2_with fail
        go_ret
        exact ⟨rfl, HA.out.trans (HB8.out.mono HA.out.size)⟩
end
section
open Go.RowKit Go.ChangeShapes Go.WideShapes Go.ChangeAt

namespace may11
set_option maxRecDepth 100000 in
theorem lifted (os : Os) (started : os.Started) (H : Type) (enc : TypeId × Value → H) :
    ReturnsInHanded {} Tryz.checked os 3 .any (Rows.recMaySpec.pre6 enc Tryz.prog Tryz.f3 Rows.recMayRow.domain false) (Rows.recMaySpec.post enc Tryz.prog Tryz.f3 false true false false) := by
  refine returnsInHanded_of_change_sized (C := Tryz.checked) own started (by kernel_rfl) Tryz.func3
    (ChangeSpec.witness6 (enc := enc) (C := Tryz.checked) false ⟨#[], #[.agg (recA (zeroR 0) (.slice none 0 0) (.slice none 0 0)), .agg (recA (zeroR 0) (.slice none 0 0) (.slice none 0 0))], []⟩ 8 (by kernel_rfl) (by kernel_rfl) (by kernel_rfl) (by kernel_rfl)) ?_
  intro W base args ds gs before hval0 hW hcnd hsz _
  have hval : ∀ (j : Nat) t v, Tryz.f3.params[j]? = some t → args[j]? = some v → Value.okWide Tryz.prog W .any base t v := hval0
  have hW' := hW
  obtain ⟨p, q, hA0, hV, rfl, hfz, hnd⟩ := hW
  have hA : DataW.TrodAll enc Tryz.prog W 0 (fun _ => true) true Tryz.f3.params.toList args.toList ds p := hA0
  have hsz2 : ∀ (j : Nat) (t : TypeId) (d : DataW H), Tryz.f3.params.toList[j]? = some t → ds[j]? = some d → ∀ n ∈ d.weights Tryz.prog t, n ≤ 140737488351232 := fun j t d ht hd n hn => by
    have h1 := List.all_eq_true.1 hsz n (DataW.weights_mem_each (j := j) (t := t) (d := d) (by rw [List.getElem?_append_left (List.getElem?_eq_some_iff.1 ht).1]; exact ht) (by rw [List.getElem?_append_left (List.getElem?_eq_some_iff.1 hd).1]; exact hd) n hn)
    have h2 : n ≤ reachBytes := by simpa using h1
    have h3 : reachBytes = 140737488351232 := rfl
    omega
  rw [Tryz.params3] at hA hval hsz2
  obtain ⟨v0, vs0, d0, ds0, p0, q0, hargs, rfl, rfl, h0, r0⟩ := trodAll_cons hA
  obtain ⟨v1, vs1, d1, ds1, p1, q1, rfl, rfl, rfl, h1, r1⟩ := trodAll_cons r0
  obtain ⟨rfl, rfl, rfl⟩ := trodAll_nil r1
  obtain rfl : args = #[v0, v1] := by cases args; simp_all
  obtain ⟨rfl, rfl⟩ := trodVars_none hV
  have k0 := h0
  have lt0 : ∀ x ∈ p0, x.block < W.heap.size := by obtain ⟨m, hm⟩ := k0; exact DataW.trod_lt m _ _ _ hm
  obtain ⟨mg0, pv0, qv0, rfl, ok0, src0, lie0, wt0, wv0⟩ := rrec_of_trod (hval 0 37 v0 rfl rfl) h0
  have sz0 : mg0.item.val.length ≤ 140737488351232 := hsz2 0 37 d0 rfl rfl _ wt0
  obtain ⟨ao0, cp0, hp0, _, _⟩ := src0.shape
  subst hp0
  obtain ⟨bo0, dp0, hq0⟩ := lie0.shape
  rw [misI_len] at hq0
  subst hq0
  have k1 := h1
  have lt1 : ∀ x ∈ p1, x.block < W.heap.size := by obtain ⟨m, hm⟩ := k1; exact DataW.trod_lt m _ _ _ hm
  obtain ⟨mg1, pv1, qv1, rfl, ok1, src1, lie1, wt1, wv1⟩ := rrec_of_trod (hval 1 37 v1 rfl rfl) h1
  have sz1 : mg1.item.val.length ≤ 140737488351232 := hsz2 1 37 d1 rfl rfl _ wt1
  obtain ⟨ao1, cp1, hp1, _, _⟩ := src1.shape
  subst hp1
  obtain ⟨bo1, dp1, hq1⟩ := lie1.shape
  rw [misI_len] at hq1
  subst hq1
  clear hA0 hval0
  refine (walkM11 rc_do mg0 mg1 ao0 bo0 ao1 bo1 cp0 dp0 cp1 dp1 W ok0 ok1 ⟨src0, lie0⟩ ⟨src1, lie1⟩ (by omega) (by omega) wv0).mono fun e W' ⟨he, bel⟩ => ?_
  subst he
  exact ⟨_, rfl, _, _, _, [], _, [], hW', trodAll_mk1 (shut_bool Tryz.underlying4 _), (trodAll_cons_mk (Below.trod laidOut (by kernel_rfl) (of_decide_eq_true (by kernel_rfl)) k0 bel lt0) (trodAll_cons_mk (Below.trod laidOut (by kernel_rfl) (of_decide_eq_true (by kernel_rfl)) k1 bel lt1) trodAll_mk0)), rfl, bel.frame _, fun h => by cases h⟩

theorem over : Rows.recMayRow.holds Tryz.pinned (OpenSpec.ofChange Rows.recMaySpec) :=
  OpenClaim.holds_of_wide 3 Tryz.f3 rfl rfl rfl rfl rfl rfl rfl ⟨rfl, rfl, rfl, rfl, rfl⟩ rfl rfl rfl rfl rfl (by kernel_rfl) Tryz.func3 (by kernel_rfl)
    (of_decide_eq_true (by kernel_rfl)) (by unfold Func.isWrapper; first | (rw [if_pos (by decide +kernel)]; kernel_rfl) | (rw [if_neg (by decide +kernel)]; exact ⟨rfl, rfl⟩))
    (fun os started H enc _ => lifted os started H enc)
end may11

/-- THE STATEMENT. -/
theorem recMay_holds : Rows.RecMaySaid := may11.over
#print axioms recMay_holds
end
end Go.Proofs.YtencmgepffdodaaGreat
