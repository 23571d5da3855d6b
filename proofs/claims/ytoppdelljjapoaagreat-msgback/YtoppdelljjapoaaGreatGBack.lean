/-
  Proved: what the program encodes it decodes as it was, and its bytes are no more than a frame has room for; what it refuses may not be: whatever comes. For every input of the form's own reach. Own work.
-/
import Derived.Test.YtoppdelljjapoaaGreatG26
import Derived.Test.YtoppdelljjapoaaGreatG20
import Derived.Test.YtoppdelljjapoaaGreatG41
import Derived.Test.YtoppdelljjapoaaGreatGA
import Derived.SizedLaws
import Derived.ChangeArms
namespace Go.Proofs.YtoppdelljjapoaaGreat
section
open Go.RowKit Classical

theorem en10_theirs : ∀ args w, (callFunc 12 args).run Tryz.prog w = .ok (.enter 12 args) w := enters_of Tryz.func12 (by kernel_rfl) rfl
theorem en10_same : ∀ args w, (callFunc 18 args).run Tryz.prog w = .ok (.enter 18 args) w := enters_of Tryz.func18 (by kernel_rfl) rfl
theorem en10_alive : ∀ args w, (callFunc 10 args).run Tryz.prog w = .ok (.enter 10 args) w := enters_of Tryz.func10 (by kernel_rfl) rfl
theorem buildFault (w : World) : (Instr.build 53 #[]).run Tryz.prog w = .ok (.agg #[.int .i64 0, .int .i64 0]) w := by kernel_rfl
set_option maxRecDepth 100000 in
set_option maxHeartbeats 6400000 in
theorem walkB10 (H : MsgDo) (m : MsgP) (ao : Option Addr) (cap : Nat) (w : World) (hok : MsgOk m) (h : RSrc wrE w (.slice ao m.wr.length cap) m.wr) (hv : m.item.val.length ≤ 140737488355328) :
    Calls Tryz.prog 7 #[.agg (msgA m (.slice ao m.wr.length cap))] w fun e w' => e = .returned (.bool true) ∧ Below w.heap.size w w' := by
  have hA := alloc_below10 w (.cells (msgA m (.slice ao m.wr.length cap)) 35)
  have hX := box_new w (msgA m (.slice ao m.wr.length cap)) 35
  obtain ⟨w1, hw1⟩ : ∃ w1, w1 = w.alloc (.cells (msgA m (.slice ao m.wr.length cap)) 35) := ⟨_, rfl⟩
  rw [← hw1] at hA hX
  have CL := hide (long_any10 m ao cap w1 (h.below hA) hv)
  have HA := hide hA
  have HX := hide hX
  have HR := hide (h.below hA)
  have HOK := hide hok
  have hW := hw1.symm
  have HAL := hide (fun w => alive_by10 H w)
  obtain ⟨LN, hLN⟩ : ∃ LN, LN = m.wr.length := ⟨_, rfl⟩
  rw [← hLN] at CL HX HR hW ⊢
  have HLN := hide hLN
  clear h hA hX hw1 hok hLN
  cases hlg : longB m with
  | true =>
    rw [hlg] at CL
    clear hlg
    go_enter Tryz.func7, Tryz.ntmps7
    go_wp2_with (first | (refine wp_load_box rfl _ rfl w.heap.size rfl HX.out Tryz.underlying35 rfl infoRMsg ?_) | (go_at_call 9; refine CL.out.mono ?_; rintro e w2 ⟨rfl, hB2⟩; have HB2 := hide hB2; clear hB2) | (go_at_call 10; refine (HAL.out _).mono ?_; rintro e w3 ⟨rfl, hB3⟩; have HB3 := hide hB3; clear hB3))
    go_ret
    exact ⟨rfl, HA.out.trans ((HB2.out.trans (HB3.out.mono HB2.out.size)).mono HA.out.size)⟩
  | false =>
    rw [hlg] at CL
    clear hlg
    have CT := hide (fun w => theirs_any m ao LN cap w)
    cases hmy : mayM m with
    | false =>
      have CE : Hid (∀ W, Below w1.heap.size w1 W → Calls Tryz.prog 20 #[.agg (msgA m (.slice ao LN cap))] W fun e w' => ∃ u, e = .returned (.tuple #[u, .int .i64 1]) ∧ Lies .u8 w' u [] ∧ Below W.heap.size W w') := hide (fun W hB => by
        have hz := HR.out.below hB
        have := H.enc (w := W) HOK.out (⟨ao, cap, rfl, by rw [← HLN.out]; exact hz⟩ : MgLies W (.agg (msgA m (.slice ao m.wr.length cap))) m)
        rw [hmy, ← HLN.out] at this
        exact this)
      have CM : Hid (∀ W, Below w1.heap.size w1 W → Calls Tryz.prog 11 #[.agg (msgA m (.slice ao LN cap))] W fun e w' => e = .returned (.bool false) ∧ Below W.heap.size W w') := hide (fun W hB => by
        have hz := HR.out.below hB
        have := H.may (w := W) HOK.out (⟨ao, cap, rfl, by rw [← HLN.out]; exact hz⟩ : MgLies W (.agg (msgA m (.slice ao m.wr.length cap))) m)
        rw [hmy, ← HLN.out] at this
        exact this)
      clear hmy
      go_enter Tryz.func7, Tryz.ntmps7
      go_wp2_with (first | (refine wp_load_box rfl _ rfl w.heap.size rfl HX.out Tryz.underlying35 rfl infoRMsg ?_) | (go_at_call 9; refine CL.out.mono ?_; rintro e w2 ⟨rfl, hB2⟩; have HB2 := hide hB2; have HX2 := hide (HX.out.belowI hB2); clear hB2 HX) | (refine wp_load_box rfl _ rfl w.heap.size rfl HX2.out Tryz.underlying35 rfl infoRMsg ?_) | (go_at_call 12; refine (CT.out w2).mono ?_; rintro e w3 ⟨rfl, hB3⟩; have HB3 := hide (HB2.out.trans (hB3.mono HB2.out.size)); have HX3 := hide (HX2.out.belowI hB3); clear hB3 HX2) | (go_at_call 20; refine (CE.out w3 HB3.out).mono ?_; rintro e w4 ⟨u, rfl, hL4, hB4⟩; have HB4 := hide (HB3.out.trans (hB4.mono HB3.out.size)); have HX4 := hide (HX3.out.belowI hB4); obtain ⟨ua, uc, hu⟩ := hL4.shape; subst hu; clear hB4 HX3 hL4) | (refine wp_load_box_g rfl _ rfl w.heap.size rfl HX4.out Tryz.underlying35 rfl infoRMsg ?_) | (go_at_call 12; refine (CT.out w4).mono ?_; rintro e w5 ⟨rfl, hB5⟩; have HB5 := hide (HB4.out.trans (hB5.mono HB4.out.size)); clear hB5) | (go_at_call 11; refine (CM.out w5 HB5.out).mono ?_; rintro e w6 ⟨rfl, hB6⟩; have HB6 := hide (HB5.out.trans (hB6.mono HB5.out.size)); clear hB6) | (go_at_call 10; refine (HAL.out _).mono ?_; rintro e w7 ⟨rfl, hB7⟩; have HB7 := hide (HB6.out.trans (hB7.mono HB6.out.size)); clear hB7))
      go_ret
      exact ⟨rfl, HA.out.trans (HB7.out.mono HA.out.size)⟩
    | true =>
      have CE : Hid (∀ W, Below w1.heap.size w1 W → Calls Tryz.prog 20 #[.agg (msgA m (.slice ao LN cap))] W fun e w' => ∃ u, e = .returned (.tuple #[u, .int .i64 0]) ∧ Lies .u8 w' u (encM m) ∧ Below W.heap.size W w') := hide (fun W hB => by
        have hz := HR.out.below hB
        have := H.enc (w := W) HOK.out (⟨ao, cap, rfl, by rw [← HLN.out]; exact hz⟩ : MgLies W (.agg (msgA m (.slice ao m.wr.length cap))) m)
        rw [hmy, ← HLN.out] at this
        exact this)
      have HEB : Hid (∀ c ∈ encM m, 0 ≤ c ∧ c < 256) := hide (enc_bytes HOK.out)
      have CD : Hid (∀ W u, Lies .u8 W u (encM m) → Calls Tryz.prog 23 #[u] W fun e w' => ∃ ao2 cap2, e = .returned (.tuple #[.agg (msgA m (.slice ao2 LN cap2)), .agg #[.int .i64 0, .int .i64 0]]) ∧ RSrc wrE w' (.slice ao2 LN cap2) m.wr ∧ Below W.heap.size W w') := hide (fun W u hL => by
        have := H.dec (by have := enc_len HOK.out hmy; omega) HEB.out hL
        rw [dec_enc HOK.out hmy] at this
        refine this.mono (fun e w' ⟨u2, e1, ⟨ao2, cap2, e2, e3⟩, e4⟩ => ⟨ao2, cap2, ?_, by rw [HLN.out]; exact e3, e4⟩)
        rw [e1, e2, HLN.out]
        rfl)
      obtain ⟨EL, hEL⟩ : ∃ EL, EL = (encM m).length := ⟨_, rfl⟩
      have hel : EL ≤ 4096 := by rw [hEL]; exact enc_len HOK.out hmy
      have HEL := hide hEL
      have hzm := zeroMsg
      clear hmy hEL
      go_enter Tryz.func7, Tryz.ntmps7
      go_wp2_with (first | (refine wp_load_box rfl _ rfl w.heap.size rfl HX.out Tryz.underlying35 rfl infoRMsg ?_) | (go_at_call 9; refine CL.out.mono ?_; rintro e w2 ⟨rfl, hB2⟩; have HB2 := hide hB2; have HX2 := hide (HX.out.belowI hB2); clear hB2 HX) | (refine wp_load_box rfl _ rfl w.heap.size rfl HX2.out Tryz.underlying35 rfl infoRMsg ?_) | (go_at_call 12; refine (CT.out w2).mono ?_; rintro e w3 ⟨rfl, hB3⟩; have HB3 := hide (HB2.out.trans (hB3.mono HB2.out.size)); have HX3 := hide (HX2.out.belowI hB3); clear hB3 HX2) | (go_at_call 20; refine (CE.out w3 HB3.out).mono ?_; rintro e w4 ⟨u, rfl, hL4, hB4⟩; have HB4 := hide (HB3.out.trans (hB4.mono HB3.out.size)); have HX4 := hide (HX3.out.belowI hB4); obtain ⟨ua, uc, hu⟩ := hL4.shape; rw [← HEL.out] at hu; subst hu; have HL4 := hide hL4; clear hB4 HX3 hL4) | (go_at_call 23; refine (CD.out w4 _ HL4.out).mono ?_; rintro e w5 ⟨ao2, cap2, rfl, hR5, hB5⟩; have HB5 := hide (HB4.out.trans (hB5.mono HB4.out.size)); have HX5 := hide (HX4.out.belowI hB5); have HR5 := hide hR5; have HZB : Hid (Below w5.heap.size w5 ((w5.alloc (.cells (msgA (zeroM 0) (.slice none 0 0)) 39)).alloc (.cells #[.int .i64 0, .int .i64 0] 53))) := hide (((Below.refl _ _).alloc (Nat.le_refl _) _).alloc (by simp) _); have HZ1 : Hid (Box ((w5.alloc (.cells (msgA (zeroM 0) (.slice none 0 0)) 39)).alloc (.cells #[.int .i64 0, .int .i64 0] 53)) w5.heap.size (msgA (zeroM 0) (.slice none 0 0)) 39) := hide ((box_new w5 _ _).belowI (alloc_below10 _ _)); have HZ2 : Hid (Box ((w5.alloc (.cells (msgA (zeroM 0) (.slice none 0 0)) 39)).alloc (.cells #[.int .i64 0, .int .i64 0] 53)) (w5.heap.size + 1) #[.int .i64 0, .int .i64 0] 53) := hide (by have := box_new (w5.alloc (.cells (msgA (zeroM 0) (.slice none 0 0)) 39)) #[.int .i64 0, .int .i64 0] 53; simpa using this); clear hB5 hR5 HX4) | (refine wp_store_box rfl rfl _ _ rfl w5.heap.size rfl (cs' := msgA m (.slice ao2 LN cap2)) rfl HZ1.out rfl infoMsg (msg_one _ _ _ _) ?_; intro w6 hb6 hk6; have HM6 := hide hb6; have HZ6 := hide (HZ2.out.keep hk6 (by omega)); have HA6 := hide (HZB.out.trans (hk6.below HZB.out.size (fun k hk => by omega))); clear hb6 hk6) | (refine wp_store_box rfl rfl _ _ rfl (w5.heap.size + 1) rfl (cs' := #[.int .i64 0, .int .i64 0]) rfl HZ6.out rfl infoFlt flt_one ?_; intro w7 hb7 hk7; have HM7 := hide (HM6.out.keep hk7 (by omega)); have HF7 := hide hb7; have HA7 := hide (HA6.out.trans (hk7.below HA6.out.size (fun k hk => by omega))); clear hb7 hk7))
      have HX7 := hide (HX5.out.belowI HA7.out)
      have HR7 := hide (HR5.out.below HA7.out)
      have HB7 := hide (HA.out.trans ((HB5.out.trans (HA7.out.mono HB5.out.size)).mono HA.out.size))
      have HRA := hide (HR.out.below (HB5.out.trans (HA7.out.mono HB5.out.size)))
      have CS : Hid (∀ W, Below w7.heap.size w7 W → Calls Tryz.prog 18 #[.agg (msgA m (.slice ao2 LN cap2)), .agg (msgA m (.slice ao LN cap))] W fun e w' => e = .returned (.bool true) ∧ Below W.heap.size W w') := hide (fun W hB => by
        have h1 := HR7.out.below hB
        have h2 := HRA.out.below hB
        rw [HLN.out] at h1 h2 ⊢
        have := H.same (w := W) HOK.out HOK.out (⟨ao2, cap2, rfl, h1⟩ : MgLies W (.agg (msgA m (.slice ao2 m.wr.length cap2))) m) (⟨ao, cap, rfl, h2⟩ : MgLies W (.agg (msgA m (.slice ao m.wr.length cap))) m)
        rw [decide_eq_true rfl] at this
        exact this)
      have hleq : ∀ W, (binOp .leq 3 (.int .i64 (EL : Int)) (.int .i64 4096)).run Tryz.prog W = .ok (.bool true) W := fun W => by
        have d : decide ((EL : Int) ≤ 4096) = true := decide_eq_true (by omega)
        simp [go_sem, d]
      refine wp_region_vals (by kernel_rfl) [(39, .agg #[.int .i64 0, .int .i64 0]), (40, .agg #[.int .i64 0, .int .i64 0]), (41, .bool true), (42, .bool true), (43, .agg (msgA m (.slice ao2 LN cap2))), (44, .agg (msgA m (.slice ao LN cap))), (45, .agg (msgA m (.slice ao LN cap))), (46, .bool true), (47, .bool true), (48, .bool true), (49, .slice ua EL uc), (50, .int .i64 (EL : Int)), (51, .bool true), (52, .bool true), (53, .bool true), (54, .bool true), (55, .bool true), (2, .bool true)] (by kernel_rfl) rfl ?_ ?_
      · intro i o hi A w1 hB hold hdeps
        have hlt : i < 18 := (Array.getElem?_eq_some_iff.1 hi).1
        have hc : i = 0 ∨ i = 1 ∨ i = 2 ∨ i = 3 ∨ i = 4 ∨ i = 5 ∨ i = 6 ∨ i = 7 ∨ i = 8 ∨ i = 9 ∨ i = 10 ∨ i = 11 ∨ i = 12 ∨ i = 13 ∨ i = 14 ∨ i = 15 ∨ i = 16 ∨ i = 17 := by omega
        clear hlt
        rcases hc with rfl | rfl | rfl | rfl | rfl | rfl | rfl | rfl | rfl | rfl | rfl | rfl | rfl | rfl | rfl | rfl | rfl | rfl
        · obtain rfl := Option.some.inj hi
          have s6 : A.tmps.getD 6 undef = .pointer (some ⟨w5.heap.size + 1, 0, none⟩) := hold 6 (by kernel_rfl)
          exact r_pure hi rfl rfl (y_load _ _ s6 (HF7.out.belowI hB) Tryz.underlying53 rfl infoFlt)
        · obtain rfl := Option.some.inj hi
          exact r_pure hi rfl rfl (y_build _ (buildFault w1))
        · obtain rfl := Option.some.inj hi
          have s39 : A.tmps.getD 39 undef = .agg #[.int .i64 0, .int .i64 0] := dep_of hdeps 0 (by kernel_rfl)
          have s40 : A.tmps.getD 40 undef = .agg #[.int .i64 0, .int .i64 0] := dep_of hdeps 1 (by kernel_rfl)
          exact r_pure hi rfl rfl (y_bin _ _ _ _ _ s39 s40 (eql_flt10 0 0 0 0 w1) (by kernel_rfl))
        · obtain rfl := Option.some.inj hi
          have s41 : A.tmps.getD 41 undef = .bool true := dep_of hdeps 2 (by kernel_rfl)
          exact r_pure hi rfl rfl (y_move _ s41)
        · obtain rfl := Option.some.inj hi
          have g4 : A.tmps.getD 42 undef = .bool true := dep_of hdeps 3 (by kernel_rfl)
          have s5 : A.tmps.getD 5 undef = .pointer (some ⟨w5.heap.size, 0, none⟩) := hold 5 (by kernel_rfl)
          exact r_pure hi (wanted_of rfl rfl g4) rfl (y_load _ _ s5 (HM7.out.belowI hB) Tryz.underlying39 rfl infoMsg)
        · obtain rfl := Option.some.inj hi
          have g5 : A.tmps.getD 42 undef = .bool true := dep_of hdeps 3 (by kernel_rfl)
          have s1 : A.tmps.getD 1 undef = .pointer (some ⟨w.heap.size, 0, none⟩) := hold 1 (by kernel_rfl)
          exact r_pure hi (wanted_of rfl rfl g5) rfl (y_load _ _ s1 (HX7.out.belowI hB) Tryz.underlying35 rfl infoRMsg)
        · obtain rfl := Option.some.inj hi
          have g6 : A.tmps.getD 42 undef = .bool true := dep_of hdeps 3 (by kernel_rfl)
          have s44 : A.tmps.getD 44 undef = .agg (msgA m (.slice ao LN cap)) := dep_of hdeps 5 (by kernel_rfl)
          exact r_enter hi (wanted_of rfl rfl g6) rfl (y_call 12 _ #[.agg (msgA m (.slice ao LN cap))] _ rfl (by simp only [List.map_toArray, List.map_cons, List.map_nil, show A.eval (.tmp 44) = .agg (msgA m (.slice ao LN cap)) from s44]; try rfl) en10_theirs) (CT.out w1)
        · obtain rfl := Option.some.inj hi
          have g7 : A.tmps.getD 42 undef = .bool true := dep_of hdeps 3 (by kernel_rfl)
          have s43 : A.tmps.getD 43 undef = .agg (msgA m (.slice ao2 LN cap2)) := dep_of hdeps 4 (by kernel_rfl)
          have s45 : A.tmps.getD 45 undef = .agg (msgA m (.slice ao LN cap)) := dep_of hdeps 6 (by kernel_rfl)
          exact r_enter hi (wanted_of rfl rfl g7) rfl (y_call 18 _ #[.agg (msgA m (.slice ao2 LN cap2)), .agg (msgA m (.slice ao LN cap))] _ rfl (by simp only [List.map_toArray, List.map_cons, List.map_nil, show A.eval (.tmp 43) = .agg (msgA m (.slice ao2 LN cap2)) from s43, show A.eval (.tmp 45) = .agg (msgA m (.slice ao LN cap)) from s45]; try rfl) en10_same) (CS.out w1 hB)
        · obtain rfl := Option.some.inj hi
          have s42 : A.tmps.getD 42 undef = .bool true := dep_of hdeps 3 (by kernel_rfl)
          have s46 : A.tmps.getD 46 undef = .bool true := dep_of hdeps 7 (by kernel_rfl)
          exact r_pure hi rfl rfl (y_pickT _ _ _ s42 s46)
        · obtain rfl := Option.some.inj hi
          have s47 : A.tmps.getD 47 undef = .bool true := dep_of hdeps 8 (by kernel_rfl)
          exact r_pure hi rfl rfl (y_move _ s47)
        · obtain rfl := Option.some.inj hi
          have g10 : A.tmps.getD 48 undef = .bool true := dep_of hdeps 9 (by kernel_rfl)
          have s3 : A.tmps.getD 3 undef = .slice ua EL uc := hold 3 (by kernel_rfl)
          exact r_pure hi (wanted_of rfl rfl g10) rfl (y_move _ s3)
        · obtain rfl := Option.some.inj hi
          have g11 : A.tmps.getD 48 undef = .bool true := dep_of hdeps 9 (by kernel_rfl)
          have s49 : A.tmps.getD 49 undef = .slice ua EL uc := dep_of hdeps 10 (by kernel_rfl)
          exact r_pure hi (wanted_of rfl rfl g11) rfl (y_len _ _ s49 Tryz.underlying45)
        · obtain rfl := Option.some.inj hi
          have g12 : A.tmps.getD 48 undef = .bool true := dep_of hdeps 9 (by kernel_rfl)
          have s50 : A.tmps.getD 50 undef = .int .i64 (EL : Int) := dep_of hdeps 11 (by kernel_rfl)
          exact r_pure hi (wanted_of rfl rfl g12) rfl (y_bin _ _ _ _ _ s50 rfl (hleq w1) (by kernel_rfl))
        · obtain rfl := Option.some.inj hi
          have s48 : A.tmps.getD 48 undef = .bool true := dep_of hdeps 9 (by kernel_rfl)
          have s51 : A.tmps.getD 51 undef = .bool true := dep_of hdeps 12 (by kernel_rfl)
          exact r_pure hi rfl rfl (y_pickT _ _ _ s48 s51)
        · obtain rfl := Option.some.inj hi
          have s52 : A.tmps.getD 52 undef = .bool true := dep_of hdeps 13 (by kernel_rfl)
          exact r_pure hi rfl rfl (y_move _ s52)
        · obtain rfl := Option.some.inj hi
          have g15 : A.tmps.getD 53 undef = .bool true := dep_of hdeps 14 (by kernel_rfl)
          exact r_enter hi (wanted_of rfl rfl g15) rfl (y_call 10 _ #[] _ rfl (by simp) en10_alive) (HAL.out w1)
        · obtain rfl := Option.some.inj hi
          have s53 : A.tmps.getD 53 undef = .bool true := dep_of hdeps 14 (by kernel_rfl)
          have s54 : A.tmps.getD 54 undef = .bool true := dep_of hdeps 15 (by kernel_rfl)
          exact r_pure hi rfl rfl (y_pickT _ _ _ s53 s54)
        · obtain rfl := Option.some.inj hi
          have s55 : A.tmps.getD 55 undef = .bool true := dep_of hdeps 16 (by kernel_rfl)
          exact r_pure hi rfl rfl (y_assign _ s55)
      · intro w8 hB
        simp only [putAll, Act.put, List.setIfInBounds_toArray, List.set_cons_succ, List.set_cons_zero]
        go_wp2_with fail
        go_ret
        exact ⟨rfl, HB7.out.trans (hB.mono HB7.out.size)⟩
end
section
open Go.RowKit Go.ChangeShapes Go.WideShapes Go.ChangeAt

namespace back10
set_option maxRecDepth 100000 in
theorem lifted (os : Os) (started : os.Started) (H : Type) (enc : TypeId × Value → H) :
    ReturnsInHanded {} Tryz.checked os 7 .any (Rows.msgBackSpec.pre6 enc Tryz.prog Tryz.f7 Rows.msgBackRow.domain false) (Rows.msgBackSpec.post enc Tryz.prog Tryz.f7 false true false false) := by
  refine returnsInHanded_of_change_sized (C := Tryz.checked) own started (by kernel_rfl) Tryz.func7
    (ChangeSpec.witness6 (enc := enc) (C := Tryz.checked) false ⟨#[], #[.agg (msgA (zeroM 0) (.slice none 0 0))], []⟩ 8 (by kernel_rfl) (by kernel_rfl) (by kernel_rfl) (by kernel_rfl)) ?_
  intro W base args ds gs before hval0 hW hcnd hsz _
  have hval : ∀ (j : Nat) t v, Tryz.f7.params[j]? = some t → args[j]? = some v → Value.okWide Tryz.prog W .any base t v := hval0
  have hW' := hW
  obtain ⟨p, q, hA0, hV, rfl, hfz, hnd⟩ := hW
  have hA : DataW.TrodAll enc Tryz.prog W 0 (fun _ => true) true Tryz.f7.params.toList args.toList ds p := hA0
  have hsz2 : ∀ (j : Nat) (t : TypeId) (d : DataW H), Tryz.f7.params.toList[j]? = some t → ds[j]? = some d → ∀ n ∈ d.weights Tryz.prog t, n ≤ 140737488351232 := fun j t d ht hd n hn => by
    have h1 := List.all_eq_true.1 hsz n (DataW.weights_mem_each (j := j) (t := t) (d := d) (by rw [List.getElem?_append_left (List.getElem?_eq_some_iff.1 ht).1]; exact ht) (by rw [List.getElem?_append_left (List.getElem?_eq_some_iff.1 hd).1]; exact hd) n hn)
    have h2 : n ≤ reachBytes := by simpa using h1
    have h3 : reachBytes = 140737488351232 := rfl
    omega
  rw [Tryz.params7] at hA hval hsz2
  obtain ⟨v0, vs0, d0, ds0, p0, q0, hargs, rfl, rfl, h0, r0⟩ := trodAll_cons hA
  obtain ⟨rfl, rfl, rfl⟩ := trodAll_nil r0
  obtain rfl : args = #[v0] := by cases args; simp_all
  obtain ⟨rfl, rfl⟩ := trodVars_none hV
  have k0 := h0
  have lt0 : ∀ x ∈ p0, x.block < W.heap.size := by obtain ⟨m, hm⟩ := k0; exact DataW.trod_lt m _ _ _ hm
  obtain ⟨mg0, pv0, rfl, ok0, src0, wt0, _⟩ := rmsg_of_trod (hval 0 35 v0 rfl rfl) h0
  have sz0 : mg0.item.val.length ≤ 140737488351232 := hsz2 0 35 d0 rfl rfl _ wt0
  obtain ⟨ao0, cp0, hp0, _, _⟩ := src0.shape
  subst hp0
  clear hA0 hval0
  refine (walkB10 mg_do mg0 ao0 cp0 W ok0 src0 (by omega)).mono fun e W' ⟨he, bel⟩ => ?_
  subst he
  exact ⟨_, rfl, _, _, _, [], _, [], hW', trodAll_mk1 (shut_bool Tryz.underlying4 _), (trodAll_cons_mk (Below.trod laidOut (by kernel_rfl) (of_decide_eq_true (by kernel_rfl)) k0 bel lt0) trodAll_mk0), rfl, bel.frame _, fun h => by cases h⟩

theorem over : Rows.msgBackRow.holds Tryz.pinned (OpenSpec.ofChange Rows.msgBackSpec) :=
  OpenClaim.holds_of_wide 7 Tryz.f7 rfl rfl rfl rfl rfl rfl rfl ⟨rfl, rfl, rfl, rfl, rfl⟩ rfl rfl rfl rfl rfl (by kernel_rfl) Tryz.func7 (by kernel_rfl)
    (of_decide_eq_true (by kernel_rfl)) (by unfold Func.isWrapper; first | (rw [if_pos (by decide +kernel)]; kernel_rfl) | (rw [if_neg (by decide +kernel)]; exact ⟨rfl, rfl⟩))
    (fun os started H enc _ => lifted os started H enc)
end back10

/-- THE STATEMENT. -/
theorem msgBack_holds : Rows.MsgBackSaid := back10.over
#print axioms msgBack_holds
end
end Go.Proofs.YtoppdelljjapoaaGreat
