/-
  RecBack, over any package rec that fulfils the bundle. Own work.
-/
import Derived.Test.YtencmgepffdodaaGreatG43
import Derived.Test.YtencmgepffdodaaGreatG21
namespace Go.Proofs.YtencmgepffdodaaGreat
section
open Go.RowKit Classical

def RV (w : World) (m : RecP) (ao : Option Addr) (LN cap : Nat) (bo : Option Addr) (LM dap : Nat) : Prop := RSrc wrE w (.slice ao LN cap) m.wr ∧ Lies .u64 w (.slice bo LM dap) (misI m.mis)
theorem RV.below {w w' : World} {m : RecP} {ao : Option Addr} {LN cap : Nat} {bo : Option Addr} {LM dap : Nat} (h : RV w m ao LN cap bo LM dap) (hB : Below w.heap.size w w') : RV w' m ao LN cap bo LM dap := ⟨h.1.below hB, h.2.below hB⟩
theorem en11_theirs : ∀ args w, (callFunc 11 args).run Tryz.prog w = .ok (.enter 11 args) w := enters_of Tryz.func11 (by kernel_rfl) rfl
theorem en11_same : ∀ args w, (callFunc 13 args).run Tryz.prog w = .ok (.enter 13 args) w := enters_of Tryz.func13 (by kernel_rfl) rfl
theorem en11_alive : ∀ args w, (callFunc 9 args).run Tryz.prog w = .ok (.enter 9 args) w := enters_of Tryz.func9 (by kernel_rfl) rfl
theorem buildFault11 (w : World) : (Instr.build 53 #[]).run Tryz.prog w = .ok (.agg #[.int .i64 0, .int .i64 0]) w := by kernel_rfl
set_option maxRecDepth 100000 in
set_option maxHeartbeats 6400000 in
theorem walkB11 (H : RecDo) (m : RecP) (ao bo : Option Addr) (cap dap : Nat) (w : World) (hok : RecOk m) (h : RV w m ao m.wr.length cap bo m.mis.length dap) (hv : m.item.val.length ≤ 140737488355328) :
    Calls Tryz.prog 6 #[.agg (recA m (.slice ao m.wr.length cap) (.slice bo m.mis.length dap))] w fun e w' => e = .returned (.bool true) ∧ Below w.heap.size w w' := by
  have hA := alloc_below10 w (.cells (recA m (.slice ao m.wr.length cap) (.slice bo m.mis.length dap)) 37)
  have hX := box_new w (recA m (.slice ao m.wr.length cap) (.slice bo m.mis.length dap)) 37
  obtain ⟨w1, hw1⟩ : ∃ w1, w1 = w.alloc (.cells (recA m (.slice ao m.wr.length cap) (.slice bo m.mis.length dap)) 37) := ⟨_, rfl⟩
  rw [← hw1] at hA hX
  have CL := hide (long_any11 m ao bo cap dap w1 (h.below hA).1 hv)
  have HA := hide hA
  have HX := hide hX
  have HR := hide (h.below hA)
  have HOK := hide hok
  have hW := hw1.symm
  have HAL := hide (fun w => alive_by11 H w)
  obtain ⟨LN, hLN⟩ : ∃ LN, LN = m.wr.length := ⟨_, rfl⟩
  obtain ⟨LM, hLM⟩ : ∃ LM, LM = m.mis.length := ⟨_, rfl⟩
  rw [← hLN, ← hLM] at CL HX HR hW ⊢
  have HLN := hide hLN
  have HLM := hide hLM
  clear h hA hX hw1 hok hLN hLM
  cases hlg : longR m with
  | true =>
    rw [hlg] at CL
    clear hlg
    go_enter Tryz.func6, Tryz.ntmps6
    go_wp2_with (first | (refine wp_load_box rfl _ rfl w.heap.size rfl HX.out Tryz.underlying37 rfl infoRRec ?_) | (go_at_call 8; refine CL.out.mono ?_; rintro e w2 ⟨rfl, hB2⟩; have HB2 := hide hB2; clear hB2) | (go_at_call 9; refine (HAL.out _).mono ?_; rintro e w3 ⟨rfl, hB3⟩; have HB3 := hide hB3; clear hB3))
    go_ret
    exact ⟨rfl, HA.out.trans ((HB2.out.trans (HB3.out.mono HB2.out.size)).mono HA.out.size)⟩
  | false =>
    rw [hlg] at CL
    clear hlg
    have CT := hide (fun w => theirs_any11 m ao bo LN cap LM dap w)
    cases hmy : mayR m with
    | false =>
      have CE : Hid (∀ W, Below w1.heap.size w1 W → Calls Tryz.prog 15 #[.agg (recA m (.slice ao LN cap) (.slice bo LM dap))] W fun e w' => ∃ u, e = .returned (.tuple #[u, .int .i64 1]) ∧ Lies .u8 w' u [] ∧ Below W.heap.size W w') := hide (fun W hB => by
        have hz := HR.out.below hB
        have := H.enc (w := W) HOK.out (⟨ao, bo, cap, dap, rfl, by rw [← HLN.out]; exact hz.1, by rw [← HLM.out]; exact hz.2⟩ : RcLies W (.agg (recA m (.slice ao m.wr.length cap) (.slice bo m.mis.length dap))) m)
        rw [hmy, ← HLN.out, ← HLM.out] at this
        exact this)
      have CM : Hid (∀ W, Below w1.heap.size w1 W → Calls Tryz.prog 10 #[.agg (recA m (.slice ao LN cap) (.slice bo LM dap))] W fun e w' => e = .returned (.bool false) ∧ Below W.heap.size W w') := hide (fun W hB => by
        have hz := HR.out.below hB
        have := H.may (w := W) HOK.out (⟨ao, bo, cap, dap, rfl, by rw [← HLN.out]; exact hz.1, by rw [← HLM.out]; exact hz.2⟩ : RcLies W (.agg (recA m (.slice ao m.wr.length cap) (.slice bo m.mis.length dap))) m)
        rw [hmy, ← HLN.out, ← HLM.out] at this
        exact this)
      clear hmy
      go_enter Tryz.func6, Tryz.ntmps6
      go_wp2_with (first | (refine wp_load_box rfl _ rfl w.heap.size rfl HX.out Tryz.underlying37 rfl infoRRec ?_) | (go_at_call 8; refine CL.out.mono ?_; rintro e w2 ⟨rfl, hB2⟩; have HB2 := hide hB2; have HX2 := hide (HX.out.belowI hB2); clear hB2 HX) | (refine wp_load_box rfl _ rfl w.heap.size rfl HX2.out Tryz.underlying37 rfl infoRRec ?_) | (go_at_call 11; refine (CT.out w2).mono ?_; rintro e w3 ⟨rfl, hB3⟩; have HB3 := hide (HB2.out.trans (hB3.mono HB2.out.size)); have HX3 := hide (HX2.out.belowI hB3); clear hB3 HX2) | (go_at_call 15; refine (CE.out w3 HB3.out).mono ?_; rintro e w4 ⟨u, rfl, hL4, hB4⟩; have HB4 := hide (HB3.out.trans (hB4.mono HB3.out.size)); have HX4 := hide (HX3.out.belowI hB4); obtain ⟨ua, uc, hu⟩ := hL4.shape; subst hu; clear hB4 HX3 hL4) | (refine wp_load_box_g rfl _ rfl w.heap.size rfl HX4.out Tryz.underlying37 rfl infoRRec ?_) | (go_at_call 11; refine (CT.out w4).mono ?_; rintro e w5 ⟨rfl, hB5⟩; have HB5 := hide (HB4.out.trans (hB5.mono HB4.out.size)); clear hB5) | (go_at_call 10; refine (CM.out w5 HB5.out).mono ?_; rintro e w6 ⟨rfl, hB6⟩; have HB6 := hide (HB5.out.trans (hB6.mono HB5.out.size)); clear hB6) | (go_at_call 9; refine (HAL.out _).mono ?_; rintro e w7 ⟨rfl, hB7⟩; have HB7 := hide (HB6.out.trans (hB7.mono HB6.out.size)); clear hB7))
      go_ret
      exact ⟨rfl, HA.out.trans (HB7.out.mono HA.out.size)⟩
    | true =>
      have CE : Hid (∀ W, Below w1.heap.size w1 W → Calls Tryz.prog 15 #[.agg (recA m (.slice ao LN cap) (.slice bo LM dap))] W fun e w' => ∃ u, e = .returned (.tuple #[u, .int .i64 0]) ∧ Lies .u8 w' u (encRec m) ∧ Below W.heap.size W w') := hide (fun W hB => by
        have hz := HR.out.below hB
        have := H.enc (w := W) HOK.out (⟨ao, bo, cap, dap, rfl, by rw [← HLN.out]; exact hz.1, by rw [← HLM.out]; exact hz.2⟩ : RcLies W (.agg (recA m (.slice ao m.wr.length cap) (.slice bo m.mis.length dap))) m)
        rw [hmy, ← HLN.out, ← HLM.out] at this
        exact this)
      have HEB : Hid (∀ c ∈ encRec m, 0 ≤ c ∧ c < 256) := hide (enc_bytesR HOK.out)
      have CD : Hid (∀ W u, Lies .u8 W u (encRec m) → Calls Tryz.prog 18 #[u] W fun e w' => ∃ ao2 cap2 bo2 dap2, e = .returned (.tuple #[.agg (recA m (.slice ao2 LN cap2) (.slice bo2 LM dap2)), .agg #[.int .i64 0, .int .i64 0]]) ∧ RV w' m ao2 LN cap2 bo2 LM dap2 ∧ Below W.heap.size W w') := hide (fun W u hL => by
        have := H.dec (by have := encRec_len HOK.out hmy; omega) HEB.out hL
        rw [dec_encR HOK.out hmy] at this
        refine this.mono (fun e w' ⟨u2, e1, ⟨ao2, bo2, cap2, dap2, e2, e3, e5⟩, e4⟩ => ⟨ao2, cap2, bo2, dap2, ?_, ⟨by rw [HLN.out]; exact e3, by rw [HLM.out]; exact e5⟩, e4⟩)
        rw [e1, e2, HLN.out, HLM.out]
        rfl)
      obtain ⟨EL, hEL⟩ : ∃ EL, EL = (encRec m).length := ⟨_, rfl⟩
      have hel : EL ≤ 4096 := by rw [hEL]; exact encRec_len HOK.out hmy
      have HEL := hide hEL
      have hzm := zeroRec
      clear hmy hEL
      go_enter Tryz.func6, Tryz.ntmps6
      go_wp2_with (first | (refine wp_load_box rfl _ rfl w.heap.size rfl HX.out Tryz.underlying37 rfl infoRRec ?_) | (go_at_call 8; refine CL.out.mono ?_; rintro e w2 ⟨rfl, hB2⟩; have HB2 := hide hB2; have HX2 := hide (HX.out.belowI hB2); clear hB2 HX) | (refine wp_load_box rfl _ rfl w.heap.size rfl HX2.out Tryz.underlying37 rfl infoRRec ?_) | (go_at_call 11; refine (CT.out w2).mono ?_; rintro e w3 ⟨rfl, hB3⟩; have HB3 := hide (HB2.out.trans (hB3.mono HB2.out.size)); have HX3 := hide (HX2.out.belowI hB3); clear hB3 HX2) | (go_at_call 15; refine (CE.out w3 HB3.out).mono ?_; rintro e w4 ⟨u, rfl, hL4, hB4⟩; have HB4 := hide (HB3.out.trans (hB4.mono HB3.out.size)); have HX4 := hide (HX3.out.belowI hB4); obtain ⟨ua, uc, hu⟩ := hL4.shape; rw [← HEL.out] at hu; subst hu; have HL4 := hide hL4; clear hB4 HX3 hL4) | (go_at_call 18; refine (CD.out w4 _ HL4.out).mono ?_; rintro e w5 ⟨ao2, cap2, bo2, dap2, rfl, hR5, hB5⟩; have HB5 := hide (HB4.out.trans (hB5.mono HB4.out.size)); have HX5 := hide (HX4.out.belowI hB5); have HR5 := hide hR5; have HZB : Hid (Below w5.heap.size w5 ((w5.alloc (.cells (recA (zeroR 0) (.slice none 0 0) (.slice none 0 0)) 41)).alloc (.cells #[.int .i64 0, .int .i64 0] 53))) := hide (((Below.refl _ _).alloc (Nat.le_refl _) _).alloc (by simp) _); have HZ1 : Hid (Box ((w5.alloc (.cells (recA (zeroR 0) (.slice none 0 0) (.slice none 0 0)) 41)).alloc (.cells #[.int .i64 0, .int .i64 0] 53)) w5.heap.size (recA (zeroR 0) (.slice none 0 0) (.slice none 0 0)) 41) := hide ((box_new w5 _ _).belowI (alloc_below10 _ _)); have HZ2 : Hid (Box ((w5.alloc (.cells (recA (zeroR 0) (.slice none 0 0) (.slice none 0 0)) 41)).alloc (.cells #[.int .i64 0, .int .i64 0] 53)) (w5.heap.size + 1) #[.int .i64 0, .int .i64 0] 53) := hide (by have := box_new (w5.alloc (.cells (recA (zeroR 0) (.slice none 0 0) (.slice none 0 0)) 41)) #[.int .i64 0, .int .i64 0] 53; simpa using this); clear hB5 hR5 HX4) | (refine wp_store_box rfl rfl _ _ rfl w5.heap.size rfl (cs' := recA m (.slice ao2 LN cap2) (.slice bo2 LM dap2)) rfl HZ1.out rfl infoRec (rec_one _ _ _ _ _ _ _) ?_; intro w6 hb6 hk6; have HM6 := hide hb6; have HZ6 := hide (HZ2.out.keep hk6 (by omega)); have HA6 := hide (HZB.out.trans (hk6.below HZB.out.size (fun k hk => by omega))); clear hb6 hk6) | (refine wp_store_box rfl rfl _ _ rfl (w5.heap.size + 1) rfl (cs' := #[.int .i64 0, .int .i64 0]) rfl HZ6.out rfl infoFlt flt_one ?_; intro w7 hb7 hk7; have HM7 := hide (HM6.out.keep hk7 (by omega)); have HF7 := hide hb7; have HA7 := hide (HA6.out.trans (hk7.below HA6.out.size (fun k hk => by omega))); clear hb7 hk7))
      have HX7 := hide (HX5.out.belowI HA7.out)
      have HR7 := hide (HR5.out.below HA7.out)
      have HB7 := hide (HA.out.trans ((HB5.out.trans (HA7.out.mono HB5.out.size)).mono HA.out.size))
      have HRA := hide (HR.out.below (HB5.out.trans (HA7.out.mono HB5.out.size)))
      have CS : Hid (∀ W, Below w7.heap.size w7 W → Calls Tryz.prog 13 #[.agg (recA m (.slice ao2 LN cap2) (.slice bo2 LM dap2)), .agg (recA m (.slice ao LN cap) (.slice bo LM dap))] W fun e w' => e = .returned (.bool true) ∧ Below W.heap.size W w') := hide (fun W hB => by
        have h1 := HR7.out.below hB
        have h2 := HRA.out.below hB
        rw [HLN.out, HLM.out] at h1 h2 ⊢
        have := H.same (w := W) HOK.out HOK.out (⟨ao2, bo2, cap2, dap2, rfl, h1.1, h1.2⟩ : RcLies W (.agg (recA m (.slice ao2 m.wr.length cap2) (.slice bo2 m.mis.length dap2))) m) (⟨ao, bo, cap, dap, rfl, h2.1, h2.2⟩ : RcLies W (.agg (recA m (.slice ao m.wr.length cap) (.slice bo m.mis.length dap))) m)
        rw [decide_eq_true rfl] at this
        exact this)
      have hleq : ∀ W, (binOp .leq 3 (.int .i64 (EL : Int)) (.int .i64 4096)).run Tryz.prog W = .ok (.bool true) W := fun W => by
        have d : decide ((EL : Int) ≤ 4096) = true := decide_eq_true (by omega)
        simp [go_sem, d]
      refine wp_region_vals (by kernel_rfl) [(39, .agg #[.int .i64 0, .int .i64 0]), (40, .agg #[.int .i64 0, .int .i64 0]), (41, .bool true), (42, .bool true), (43, .agg (recA m (.slice ao2 LN cap2) (.slice bo2 LM dap2))), (44, .agg (recA m (.slice ao LN cap) (.slice bo LM dap))), (45, .agg (recA m (.slice ao LN cap) (.slice bo LM dap))), (46, .bool true), (47, .bool true), (48, .bool true), (49, .slice ua EL uc), (50, .int .i64 (EL : Int)), (51, .bool true), (52, .bool true), (53, .bool true), (54, .bool true), (55, .bool true), (2, .bool true)] (by kernel_rfl) rfl ?_ ?_
      · intro i o hi A w1 hB hold hdeps
        have hlt : i < 18 := (Array.getElem?_eq_some_iff.1 hi).1
        have hc : i = 0 ∨ i = 1 ∨ i = 2 ∨ i = 3 ∨ i = 4 ∨ i = 5 ∨ i = 6 ∨ i = 7 ∨ i = 8 ∨ i = 9 ∨ i = 10 ∨ i = 11 ∨ i = 12 ∨ i = 13 ∨ i = 14 ∨ i = 15 ∨ i = 16 ∨ i = 17 := by omega
        clear hlt
        rcases hc with rfl | rfl | rfl | rfl | rfl | rfl | rfl | rfl | rfl | rfl | rfl | rfl | rfl | rfl | rfl | rfl | rfl | rfl
        · obtain rfl := Option.some.inj hi
          have s6 : A.tmps.getD 6 undef = .pointer (some ⟨w5.heap.size + 1, 0, none⟩) := hold 6 (by kernel_rfl)
          exact r_pure hi rfl rfl (y_load _ _ s6 (HF7.out.belowI hB) Tryz.underlying53 rfl infoFlt)
        · obtain rfl := Option.some.inj hi
          exact r_pure hi rfl rfl (y_build _ (buildFault11 w1))
        · obtain rfl := Option.some.inj hi
          have s39 : A.tmps.getD 39 undef = .agg #[.int .i64 0, .int .i64 0] := dep_of hdeps 0 (by kernel_rfl)
          have s40 : A.tmps.getD 40 undef = .agg #[.int .i64 0, .int .i64 0] := dep_of hdeps 1 (by kernel_rfl)
          exact r_pure hi rfl rfl (y_bin _ _ _ _ _ s39 s40 (eql_flt10 0 0 0 0 w1) (by kernel_rfl))
        · obtain rfl := Option.some.inj hi
          have s41 : A.tmps.getD 41 undef = .bool true := dep_of hdeps 2 (by kernel_rfl)
          exact r_pure hi rfl rfl (y_move _ s41)
        · obtain rfl := Option.some.inj hi
          have g4 : A.tmps.getD 42 undef = .bool true := dep_of hdeps 3 (by kernel_rfl)
          have s5 : A.tmps.getD 5 undef = .pointer (some ⟨w5.heap.size, 0, none⟩) := hold 5 (by kernel_rfl)
          exact r_pure hi (wanted_of rfl rfl g4) rfl (y_load _ _ s5 (HM7.out.belowI hB) Tryz.underlying41 rfl infoRec)
        · obtain rfl := Option.some.inj hi
          have g5 : A.tmps.getD 42 undef = .bool true := dep_of hdeps 3 (by kernel_rfl)
          have s1 : A.tmps.getD 1 undef = .pointer (some ⟨w.heap.size, 0, none⟩) := hold 1 (by kernel_rfl)
          exact r_pure hi (wanted_of rfl rfl g5) rfl (y_load _ _ s1 (HX7.out.belowI hB) Tryz.underlying37 rfl infoRRec)
        · obtain rfl := Option.some.inj hi
          have g6 : A.tmps.getD 42 undef = .bool true := dep_of hdeps 3 (by kernel_rfl)
          have s44 : A.tmps.getD 44 undef = .agg (recA m (.slice ao LN cap) (.slice bo LM dap)) := dep_of hdeps 5 (by kernel_rfl)
          exact r_enter hi (wanted_of rfl rfl g6) rfl (y_call 11 _ #[.agg (recA m (.slice ao LN cap) (.slice bo LM dap))] _ rfl (by simp only [List.map_toArray, List.map_cons, List.map_nil, show A.eval (.tmp 44) = .agg (recA m (.slice ao LN cap) (.slice bo LM dap)) from s44]; try rfl) en11_theirs) (CT.out w1)
        · obtain rfl := Option.some.inj hi
          have g7 : A.tmps.getD 42 undef = .bool true := dep_of hdeps 3 (by kernel_rfl)
          have s43 : A.tmps.getD 43 undef = .agg (recA m (.slice ao2 LN cap2) (.slice bo2 LM dap2)) := dep_of hdeps 4 (by kernel_rfl)
          have s45 : A.tmps.getD 45 undef = .agg (recA m (.slice ao LN cap) (.slice bo LM dap)) := dep_of hdeps 6 (by kernel_rfl)
          exact r_enter hi (wanted_of rfl rfl g7) rfl (y_call 13 _ #[.agg (recA m (.slice ao2 LN cap2) (.slice bo2 LM dap2)), .agg (recA m (.slice ao LN cap) (.slice bo LM dap))] _ rfl (by simp only [List.map_toArray, List.map_cons, List.map_nil, show A.eval (.tmp 43) = .agg (recA m (.slice ao2 LN cap2) (.slice bo2 LM dap2)) from s43, show A.eval (.tmp 45) = .agg (recA m (.slice ao LN cap) (.slice bo LM dap)) from s45]; try rfl) en11_same) (CS.out w1 hB)
        · obtain rfl := Option.some.inj hi
          have s42 : A.tmps.getD 42 undef = .bool true := dep_of hdeps 3 (by kernel_rfl)
          have s46 : A.tmps.getD 46 undef = .bool true := dep_of hdeps 7 (by kernel_rfl)
          exact r_pure hi rfl rfl (y_pickT _ _ _ s42 s46)
        · obtain rfl := Option.some.inj hi
          have s47 : A.tmps.getD 47 undef = .bool true := dep_of hdeps 8 (by kernel_rfl)
          exact r_pure hi rfl rfl (y_move _ s47)
        · obtain rfl := Option.some.inj hi
          have g10 : A.tmps.getD 48 undef = .bool true := dep_of hdeps 9 (by kernel_rfl)
          have s3 : A.tmps.getD 3 undef = .slice ua EL uc := hold 3 (by kernel_rfl)
          exact r_pure hi (wanted_of rfl rfl g10) rfl (y_move _ s3)
        · obtain rfl := Option.some.inj hi
          have g11 : A.tmps.getD 48 undef = .bool true := dep_of hdeps 9 (by kernel_rfl)
          have s49 : A.tmps.getD 49 undef = .slice ua EL uc := dep_of hdeps 10 (by kernel_rfl)
          exact r_pure hi (wanted_of rfl rfl g11) rfl (y_len _ _ s49 Tryz.underlying45)
        · obtain rfl := Option.some.inj hi
          have g12 : A.tmps.getD 48 undef = .bool true := dep_of hdeps 9 (by kernel_rfl)
          have s50 : A.tmps.getD 50 undef = .int .i64 (EL : Int) := dep_of hdeps 11 (by kernel_rfl)
          exact r_pure hi (wanted_of rfl rfl g12) rfl (y_bin _ _ _ _ _ s50 rfl (hleq w1) (by kernel_rfl))
        · obtain rfl := Option.some.inj hi
          have s48 : A.tmps.getD 48 undef = .bool true := dep_of hdeps 9 (by kernel_rfl)
          have s51 : A.tmps.getD 51 undef = .bool true := dep_of hdeps 12 (by kernel_rfl)
          exact r_pure hi rfl rfl (y_pickT _ _ _ s48 s51)
        · obtain rfl := Option.some.inj hi
          have s52 : A.tmps.getD 52 undef = .bool true := dep_of hdeps 13 (by kernel_rfl)
          exact r_pure hi rfl rfl (y_move _ s52)
        · obtain rfl := Option.some.inj hi
          have g15 : A.tmps.getD 53 undef = .bool true := dep_of hdeps 14 (by kernel_rfl)
          exact r_enter hi (wanted_of rfl rfl g15) rfl (y_call 9 _ #[] _ rfl (by simp) en11_alive) (HAL.out w1)
        · obtain rfl := Option.some.inj hi
          have s53 : A.tmps.getD 53 undef = .bool true := dep_of hdeps 14 (by kernel_rfl)
          have s54 : A.tmps.getD 54 undef = .bool true := dep_of hdeps 15 (by kernel_rfl)
          exact r_pure hi rfl rfl (y_pickT _ _ _ s53 s54)
        · obtain rfl := Option.some.inj hi
          have s55 : A.tmps.getD 55 undef = .bool true := dep_of hdeps 16 (by kernel_rfl)
          exact r_pure hi rfl rfl (y_assign _ s55)
      · intro w8 hB
        simp only [putAll, Act.put, List.setIfInBounds_toArray, List.set_cons_succ, List.set_cons_zero]
        go_wp2_with fail
        go_ret
        exact ⟨rfl, HB7.out.trans (hB.mono HB7.out.size)⟩
end
end Go.Proofs.YtencmgepffdodaaGreat
