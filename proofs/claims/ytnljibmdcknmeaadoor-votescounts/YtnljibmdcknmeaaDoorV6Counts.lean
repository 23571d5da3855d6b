/-
  For every configuration and every set the statement VotesCounts returns true: Total, Voters, Of, Reads and Writes answer as the reference does, and the probe 'alive' holds; nothing that was there is written.
  Conditions: the library's table math/bits.deBruijn64tab holds what its initialiser lays (the card ties that to the program's text); else none.
-/
import Derived.Test.YtnljibmdcknmeaaDoorVtAlive
import Derived.Test.YtnljibmdcknmeaaDoorVtOpen
namespace Go.Proofs.YtnljibmdcknmeaaDoor
open Go.ChangeShapes Go.WideShapes Go.ChangeAt Go.RowKit

namespace counts
set_option maxRecDepth 100000 in
set_option maxHeartbeats 6400000 in
theorem walkN (c : Cf) (s : Nat) (hok : c.Ok) (hs : s < 18446744073709551616) (w : World) (hT : Tab w) :
    Calls Tryd.prog 4 #[.agg c.arr, .int .u64 ((s : Nat) : Int)] w fun e w' => e = .returned (.bool true) ∧ Below w.heap.size w w' := by
  have hTp := hT.pos
  have hsz := hok.size
  have HO := hide hok
  have HX := hide (box_new w c.arr 25)
  have HB := hide (alloc_below w (.cells c.arr 25))
  have HT := hide (hT.below HB.out hTp)
  have C1 := hide (fun W => total_any c hok W)
  have C2 := hide (fun W => rtotal_any c hok W)
  have C3 := hide (fun W => votersB c hok W)
  have C4 := hide (fun W => rvoters_any c hok W)
  have C5 := hide (fun W => ofB c s hok hs W)
  have C6 := hide (fun W => rof_any c s hok hs W)
  have C7 := hide (fun W => reads_any c s hok hs W)
  have C8 := hide (fun W => writes_any c s hok hs W)
  have CA := hide (fun W hW => alive_any W hW)
  generalize totN c.vs 8 = T at *
  generalize votN c.vs 8 = V at *
  generalize ofN c.vs s 8 = O at *
  obtain ⟨rb, hrb⟩ : ∃ x, x = decide ((c.r : Int) ≤ ((O : Nat) : Int)) := ⟨_, rfl⟩
  obtain ⟨wb, hwb⟩ : ∃ x, x = decide ((c.w : Int) ≤ ((O : Nat) : Int)) := ⟨_, rfl⟩
  rw [← hrb] at C7
  rw [← hwb] at C8
  have HR := hide hrb
  have HW := hide hwb
  have HTT : Hid ((((T : Nat) : Int) == ((T : Nat) : Int)) = true) := hide (by simp)
  have HVV : Hid ((((V : Nat) : Int) == ((V : Nat) : Int)) = true) := hide (by simp)
  have HOO : Hid ((((O : Nat) : Int) == ((O : Nat) : Int)) = true) := hide (by simp)
  have HRR : Hid ((rb == rb) = true) := hide (by simp)
  have HWW : Hid ((wb == wb) = true) := hide (by simp)
  clear hok hT hrb hwb
  go_enter Tryd.func4, Tryd.ntmps4
  go_wp2_with (first | (refine wp_load_cfg rfl _ rfl _ rfl HO.out HX.out ?_) | (go_at_call 14; refine (C6.out _).mono ?_; rintro e w2 ⟨rfl, hB2⟩; have HX2 := hide (HX.out.belowV hB2); have HT2 := hide (HT.out.below hB2 HT.out.pos); have HB2 := hide (HB.out.trans (hB2.mono HB.out.size)); clear hB2))
  refine wp_region_vals (by kernel_rfl) [(9, .agg c.arr), (10, .int .i64 ((T : Nat) : Int)), (11, .agg c.arr), (12, .int .i64 ((T : Nat) : Int)), (13, .bool true), (14, .bool true), (15, .agg c.arr), (16, .int .u64 ((V : Nat) : Int)), (17, .agg c.arr), (18, .int .u64 ((V : Nat) : Int)), (19, .bool true), (20, .bool true), (21, .bool true), (22, .agg c.arr), (23, .int .u64 ((s : Nat) : Int)), (24, .int .i64 ((O : Nat) : Int)), (25, .int .i64 ((O : Nat) : Int)), (26, .bool true), (27, .bool true), (28, .bool true), (29, .agg c.arr), (30, .int .u64 ((s : Nat) : Int)), (31, .bool rb), (32, .int .i64 ((O : Nat) : Int)), (33, .pointer (some ⟨w.heap.size, 1, none⟩)), (34, .int .u8 (c.r : Int)), (35, .int .i64 (c.r : Int)), (36, .bool rb), (37, .bool true), (38, .bool true), (39, .bool true), (40, .agg c.arr), (41, .int .u64 ((s : Nat) : Int)), (42, .bool wb), (43, .int .i64 ((O : Nat) : Int)), (44, .pointer (some ⟨w.heap.size, 2, none⟩)), (45, .int .u8 (c.w : Int)), (46, .int .i64 (c.w : Int)), (47, .bool wb), (48, .bool true), (49, .bool true), (50, .bool true), (51, .bool true), (52, .bool true), (4, .bool true)] (by kernel_rfl) rfl ?_ ?_
  · intro i o hi A w1 hB hold hdeps
    have hX1 := HX2.out.belowV hB
    have hlt : i < 45 := (Array.getElem?_eq_some_iff.1 hi).1
    have hc : i = 0 ∨ i = 1 ∨ i = 2 ∨ i = 3 ∨ i = 4 ∨ i = 5 ∨ i = 6 ∨ i = 7 ∨ i = 8 ∨ i = 9 ∨ i = 10 ∨ i = 11 ∨ i = 12 ∨ i = 13 ∨ i = 14 ∨ i = 15 ∨ i = 16 ∨ i = 17 ∨ i = 18 ∨ i = 19 ∨ i = 20 ∨ i = 21 ∨ i = 22 ∨ i = 23 ∨ i = 24 ∨ i = 25 ∨ i = 26 ∨ i = 27 ∨ i = 28 ∨ i = 29 ∨ i = 30 ∨ i = 31 ∨ i = 32 ∨ i = 33 ∨ i = 34 ∨ i = 35 ∨ i = 36 ∨ i = 37 ∨ i = 38 ∨ i = 39 ∨ i = 40 ∨ i = 41 ∨ i = 42 ∨ i = 43 ∨ i = 44 := by omega
    clear hlt
    rcases hc with rfl | rfl | rfl | rfl | rfl | rfl | rfl | rfl | rfl | rfl | rfl | rfl | rfl | rfl | rfl | rfl | rfl | rfl | rfl | rfl | rfl | rfl | rfl | rfl | rfl | rfl | rfl | rfl | rfl | rfl | rfl | rfl | rfl | rfl | rfl | rfl | rfl | rfl | rfl | rfl | rfl | rfl | rfl | rfl | rfl
    · obtain rfl := Option.some.inj hi
      have s2 : A.tmps.getD 2 undef = .pointer (some ⟨w.heap.size, 0, none⟩) := hold 2 (by kernel_rfl)
      exact v_pure hi rfl rfl (x_loadC _ HO.out s2 hX1)
    · obtain rfl := Option.some.inj hi
      have s9 : A.tmps.getD 9 undef = .agg c.arr := dep_of hdeps 0 (by kernel_rfl)
      exact v_enter hi rfl rfl (x_call 15 _ #[.agg c.arr] _ rfl (by simp only [List.map_toArray, List.map_cons, List.map_nil, show A.eval (.tmp 9) = .agg c.arr from s9]; try rfl) en_total) (C1.out w1)
    · obtain rfl := Option.some.inj hi
      have s2 : A.tmps.getD 2 undef = .pointer (some ⟨w.heap.size, 0, none⟩) := hold 2 (by kernel_rfl)
      exact v_pure hi rfl rfl (x_loadC _ HO.out s2 hX1)
    · obtain rfl := Option.some.inj hi
      have s11 : A.tmps.getD 11 undef = .agg c.arr := dep_of hdeps 2 (by kernel_rfl)
      exact v_enter hi rfl rfl (x_call 16 _ #[.agg c.arr] _ rfl (by simp only [List.map_toArray, List.map_cons, List.map_nil, show A.eval (.tmp 11) = .agg c.arr from s11]; try rfl) en_rtotal) (C2.out w1)
    · obtain rfl := Option.some.inj hi
      have s10 : A.tmps.getD 10 undef = .int .i64 ((T : Nat) : Int) := dep_of hdeps 1 (by kernel_rfl)
      have s12 : A.tmps.getD 12 undef = .int .i64 ((T : Nat) : Int) := dep_of hdeps 3 (by kernel_rfl)
      exact v_pure hi rfl (congrArg Value.bool HTT.out.symm) (x_eql _ _ (.inl ⟨rfl, rfl⟩) s10 s12)
    · obtain rfl := Option.some.inj hi
      have s13 : A.tmps.getD 13 undef = .bool true := dep_of hdeps 4 (by kernel_rfl)
      exact v_pure hi rfl rfl (x_move _ s13)
    · obtain rfl := Option.some.inj hi
      have g6 : A.tmps.getD 14 undef = .bool true := dep_of hdeps 5 (by kernel_rfl)
      have s2 : A.tmps.getD 2 undef = .pointer (some ⟨w.heap.size, 0, none⟩) := hold 2 (by kernel_rfl)
      exact v_pure hi (wanted_of rfl rfl g6) rfl (x_loadC _ HO.out s2 hX1)
    · obtain rfl := Option.some.inj hi
      have g7 : A.tmps.getD 14 undef = .bool true := dep_of hdeps 5 (by kernel_rfl)
      have s15 : A.tmps.getD 15 undef = .agg c.arr := dep_of hdeps 6 (by kernel_rfl)
      exact v_enter hi (wanted_of rfl rfl g7) rfl (x_call 17 _ #[.agg c.arr] _ rfl (by simp only [List.map_toArray, List.map_cons, List.map_nil, show A.eval (.tmp 15) = .agg c.arr from s15]; try rfl) en_voters) (C3.out w1)
    · obtain rfl := Option.some.inj hi
      have g8 : A.tmps.getD 14 undef = .bool true := dep_of hdeps 5 (by kernel_rfl)
      have s2 : A.tmps.getD 2 undef = .pointer (some ⟨w.heap.size, 0, none⟩) := hold 2 (by kernel_rfl)
      exact v_pure hi (wanted_of rfl rfl g8) rfl (x_loadC _ HO.out s2 hX1)
    · obtain rfl := Option.some.inj hi
      have g9 : A.tmps.getD 14 undef = .bool true := dep_of hdeps 5 (by kernel_rfl)
      have s17 : A.tmps.getD 17 undef = .agg c.arr := dep_of hdeps 8 (by kernel_rfl)
      exact v_enter hi (wanted_of rfl rfl g9) rfl (x_call 18 _ #[.agg c.arr] _ rfl (by simp only [List.map_toArray, List.map_cons, List.map_nil, show A.eval (.tmp 17) = .agg c.arr from s17]; try rfl) en_rvoters) (C4.out w1)
    · obtain rfl := Option.some.inj hi
      have g10 : A.tmps.getD 14 undef = .bool true := dep_of hdeps 5 (by kernel_rfl)
      have s16 : A.tmps.getD 16 undef = .int .u64 ((V : Nat) : Int) := dep_of hdeps 7 (by kernel_rfl)
      have s18 : A.tmps.getD 18 undef = .int .u64 ((V : Nat) : Int) := dep_of hdeps 9 (by kernel_rfl)
      exact v_pure hi (wanted_of rfl rfl g10) (congrArg Value.bool HVV.out.symm) (x_eql _ _ (.inr ⟨rfl, rfl⟩) s16 s18)
    · obtain rfl := Option.some.inj hi
      have s14 : A.tmps.getD 14 undef = .bool true := dep_of hdeps 5 (by kernel_rfl)
      have s19 : A.tmps.getD 19 undef = .bool true := dep_of hdeps 10 (by kernel_rfl)
      exact v_pure hi rfl rfl (x_pickT _ _ _ s14 s19)
    · obtain rfl := Option.some.inj hi
      have s20 : A.tmps.getD 20 undef = .bool true := dep_of hdeps 11 (by kernel_rfl)
      exact v_pure hi rfl rfl (x_move _ s20)
    · obtain rfl := Option.some.inj hi
      have g13 : A.tmps.getD 21 undef = .bool true := dep_of hdeps 12 (by kernel_rfl)
      have s2 : A.tmps.getD 2 undef = .pointer (some ⟨w.heap.size, 0, none⟩) := hold 2 (by kernel_rfl)
      exact v_pure hi (wanted_of rfl rfl g13) rfl (x_loadC _ HO.out s2 hX1)
    · obtain rfl := Option.some.inj hi
      have g14 : A.tmps.getD 21 undef = .bool true := dep_of hdeps 12 (by kernel_rfl)
      have s1 : A.tmps.getD 1 undef = .int .u64 ((s : Nat) : Int) := hold 1 (by kernel_rfl)
      exact v_pure hi (wanted_of rfl rfl g14) rfl (x_move _ s1)
    · obtain rfl := Option.some.inj hi
      have g15 : A.tmps.getD 21 undef = .bool true := dep_of hdeps 12 (by kernel_rfl)
      have s22 : A.tmps.getD 22 undef = .agg c.arr := dep_of hdeps 13 (by kernel_rfl)
      have s23 : A.tmps.getD 23 undef = .int .u64 ((s : Nat) : Int) := dep_of hdeps 14 (by kernel_rfl)
      exact v_enter hi (wanted_of rfl rfl g15) rfl (x_call 19 _ #[.agg c.arr, .int .u64 ((s : Nat) : Int)] _ rfl (by simp only [List.map_toArray, List.map_cons, List.map_nil, show A.eval (.tmp 22) = .agg c.arr from s22, show A.eval (.tmp 23) = .int .u64 ((s : Nat) : Int) from s23]; try rfl) en_of) (C5.out w1)
    · obtain rfl := Option.some.inj hi
      have g16 : A.tmps.getD 21 undef = .bool true := dep_of hdeps 12 (by kernel_rfl)
      have s5 : A.tmps.getD 5 undef = .int .i64 ((O : Nat) : Int) := hold 5 (by kernel_rfl)
      exact v_pure hi (wanted_of rfl rfl g16) rfl (x_move _ s5)
    · obtain rfl := Option.some.inj hi
      have g17 : A.tmps.getD 21 undef = .bool true := dep_of hdeps 12 (by kernel_rfl)
      have s24 : A.tmps.getD 24 undef = .int .i64 ((O : Nat) : Int) := dep_of hdeps 15 (by kernel_rfl)
      have s25 : A.tmps.getD 25 undef = .int .i64 ((O : Nat) : Int) := dep_of hdeps 16 (by kernel_rfl)
      exact v_pure hi (wanted_of rfl rfl g17) (congrArg Value.bool HOO.out.symm) (x_eql _ _ (.inl ⟨rfl, rfl⟩) s24 s25)
    · obtain rfl := Option.some.inj hi
      have s21 : A.tmps.getD 21 undef = .bool true := dep_of hdeps 12 (by kernel_rfl)
      have s26 : A.tmps.getD 26 undef = .bool true := dep_of hdeps 17 (by kernel_rfl)
      exact v_pure hi rfl rfl (x_pickT _ _ _ s21 s26)
    · obtain rfl := Option.some.inj hi
      have s27 : A.tmps.getD 27 undef = .bool true := dep_of hdeps 18 (by kernel_rfl)
      exact v_pure hi rfl rfl (x_move _ s27)
    · obtain rfl := Option.some.inj hi
      have g20 : A.tmps.getD 28 undef = .bool true := dep_of hdeps 19 (by kernel_rfl)
      have s2 : A.tmps.getD 2 undef = .pointer (some ⟨w.heap.size, 0, none⟩) := hold 2 (by kernel_rfl)
      exact v_pure hi (wanted_of rfl rfl g20) rfl (x_loadC _ HO.out s2 hX1)
    · obtain rfl := Option.some.inj hi
      have g21 : A.tmps.getD 28 undef = .bool true := dep_of hdeps 19 (by kernel_rfl)
      have s1 : A.tmps.getD 1 undef = .int .u64 ((s : Nat) : Int) := hold 1 (by kernel_rfl)
      exact v_pure hi (wanted_of rfl rfl g21) rfl (x_move _ s1)
    · obtain rfl := Option.some.inj hi
      have g22 : A.tmps.getD 28 undef = .bool true := dep_of hdeps 19 (by kernel_rfl)
      have s29 : A.tmps.getD 29 undef = .agg c.arr := dep_of hdeps 20 (by kernel_rfl)
      have s30 : A.tmps.getD 30 undef = .int .u64 ((s : Nat) : Int) := dep_of hdeps 21 (by kernel_rfl)
      exact v_enter hi (wanted_of rfl rfl g22) rfl (x_call 20 _ #[.agg c.arr, .int .u64 ((s : Nat) : Int)] _ rfl (by simp only [List.map_toArray, List.map_cons, List.map_nil, show A.eval (.tmp 29) = .agg c.arr from s29, show A.eval (.tmp 30) = .int .u64 ((s : Nat) : Int) from s30]; try rfl) en_reads) (C7.out w1)
    · obtain rfl := Option.some.inj hi
      have g23 : A.tmps.getD 28 undef = .bool true := dep_of hdeps 19 (by kernel_rfl)
      have s5 : A.tmps.getD 5 undef = .int .i64 ((O : Nat) : Int) := hold 5 (by kernel_rfl)
      exact v_pure hi (wanted_of rfl rfl g23) rfl (x_move _ s5)
    · obtain rfl := Option.some.inj hi
      have g24 : A.tmps.getD 28 undef = .bool true := dep_of hdeps 19 (by kernel_rfl)
      have s2 : A.tmps.getD 2 undef = .pointer (some ⟨w.heap.size, 0, none⟩) := hold 2 (by kernel_rfl)
      exact v_pure hi (wanted_of rfl rfl g24) rfl (x_field1 _ s2)
    · obtain rfl := Option.some.inj hi
      have g25 : A.tmps.getD 28 undef = .bool true := dep_of hdeps 19 (by kernel_rfl)
      have s33 : A.tmps.getD 33 undef = .pointer (some ⟨w.heap.size, 1, none⟩) := dep_of hdeps 24 (by kernel_rfl)
      exact v_pure hi (wanted_of rfl rfl g25) rfl (x_load8 _ s33 (arr_r hX1))
    · obtain rfl := Option.some.inj hi
      have g26 : A.tmps.getD 28 undef = .bool true := dep_of hdeps 19 (by kernel_rfl)
      have s34 : A.tmps.getD 34 undef = .int .u8 (c.r : Int) := dep_of hdeps 25 (by kernel_rfl)
      exact v_pure hi (wanted_of rfl rfl g26) rfl (x_conv _ s34 HO.out.r)
    · obtain rfl := Option.some.inj hi
      have g27 : A.tmps.getD 28 undef = .bool true := dep_of hdeps 19 (by kernel_rfl)
      have s32 : A.tmps.getD 32 undef = .int .i64 ((O : Nat) : Int) := dep_of hdeps 23 (by kernel_rfl)
      have s35 : A.tmps.getD 35 undef = .int .i64 (c.r : Int) := dep_of hdeps 26 (by kernel_rfl)
      exact v_pure hi (wanted_of rfl rfl g27) (congrArg Value.bool HR.out) (x_geq _ _ s32 s35)
    · obtain rfl := Option.some.inj hi
      have g28 : A.tmps.getD 28 undef = .bool true := dep_of hdeps 19 (by kernel_rfl)
      have s31 : A.tmps.getD 31 undef = .bool rb := dep_of hdeps 22 (by kernel_rfl)
      have s36 : A.tmps.getD 36 undef = .bool rb := dep_of hdeps 27 (by kernel_rfl)
      exact v_pure hi (wanted_of rfl rfl g28) (congrArg Value.bool HRR.out.symm) (x_eqlB _ _ s31 s36)
    · obtain rfl := Option.some.inj hi
      have s28 : A.tmps.getD 28 undef = .bool true := dep_of hdeps 19 (by kernel_rfl)
      have s37 : A.tmps.getD 37 undef = .bool true := dep_of hdeps 28 (by kernel_rfl)
      exact v_pure hi rfl rfl (x_pickT _ _ _ s28 s37)
    · obtain rfl := Option.some.inj hi
      have s38 : A.tmps.getD 38 undef = .bool true := dep_of hdeps 29 (by kernel_rfl)
      exact v_pure hi rfl rfl (x_move _ s38)
    · obtain rfl := Option.some.inj hi
      have g31 : A.tmps.getD 39 undef = .bool true := dep_of hdeps 30 (by kernel_rfl)
      have s2 : A.tmps.getD 2 undef = .pointer (some ⟨w.heap.size, 0, none⟩) := hold 2 (by kernel_rfl)
      exact v_pure hi (wanted_of rfl rfl g31) rfl (x_loadC _ HO.out s2 hX1)
    · obtain rfl := Option.some.inj hi
      have g32 : A.tmps.getD 39 undef = .bool true := dep_of hdeps 30 (by kernel_rfl)
      have s1 : A.tmps.getD 1 undef = .int .u64 ((s : Nat) : Int) := hold 1 (by kernel_rfl)
      exact v_pure hi (wanted_of rfl rfl g32) rfl (x_move _ s1)
    · obtain rfl := Option.some.inj hi
      have g33 : A.tmps.getD 39 undef = .bool true := dep_of hdeps 30 (by kernel_rfl)
      have s40 : A.tmps.getD 40 undef = .agg c.arr := dep_of hdeps 31 (by kernel_rfl)
      have s41 : A.tmps.getD 41 undef = .int .u64 ((s : Nat) : Int) := dep_of hdeps 32 (by kernel_rfl)
      exact v_enter hi (wanted_of rfl rfl g33) rfl (x_call 21 _ #[.agg c.arr, .int .u64 ((s : Nat) : Int)] _ rfl (by simp only [List.map_toArray, List.map_cons, List.map_nil, show A.eval (.tmp 40) = .agg c.arr from s40, show A.eval (.tmp 41) = .int .u64 ((s : Nat) : Int) from s41]; try rfl) en_writes) (C8.out w1)
    · obtain rfl := Option.some.inj hi
      have g34 : A.tmps.getD 39 undef = .bool true := dep_of hdeps 30 (by kernel_rfl)
      have s5 : A.tmps.getD 5 undef = .int .i64 ((O : Nat) : Int) := hold 5 (by kernel_rfl)
      exact v_pure hi (wanted_of rfl rfl g34) rfl (x_move _ s5)
    · obtain rfl := Option.some.inj hi
      have g35 : A.tmps.getD 39 undef = .bool true := dep_of hdeps 30 (by kernel_rfl)
      have s2 : A.tmps.getD 2 undef = .pointer (some ⟨w.heap.size, 0, none⟩) := hold 2 (by kernel_rfl)
      exact v_pure hi (wanted_of rfl rfl g35) rfl (x_field2 _ s2)
    · obtain rfl := Option.some.inj hi
      have g36 : A.tmps.getD 39 undef = .bool true := dep_of hdeps 30 (by kernel_rfl)
      have s44 : A.tmps.getD 44 undef = .pointer (some ⟨w.heap.size, 2, none⟩) := dep_of hdeps 35 (by kernel_rfl)
      exact v_pure hi (wanted_of rfl rfl g36) rfl (x_load8 _ s44 (arr_w hX1))
    · obtain rfl := Option.some.inj hi
      have g37 : A.tmps.getD 39 undef = .bool true := dep_of hdeps 30 (by kernel_rfl)
      have s45 : A.tmps.getD 45 undef = .int .u8 (c.w : Int) := dep_of hdeps 36 (by kernel_rfl)
      exact v_pure hi (wanted_of rfl rfl g37) rfl (x_conv _ s45 HO.out.w)
    · obtain rfl := Option.some.inj hi
      have g38 : A.tmps.getD 39 undef = .bool true := dep_of hdeps 30 (by kernel_rfl)
      have s43 : A.tmps.getD 43 undef = .int .i64 ((O : Nat) : Int) := dep_of hdeps 34 (by kernel_rfl)
      have s46 : A.tmps.getD 46 undef = .int .i64 (c.w : Int) := dep_of hdeps 37 (by kernel_rfl)
      exact v_pure hi (wanted_of rfl rfl g38) (congrArg Value.bool HW.out) (x_geq _ _ s43 s46)
    · obtain rfl := Option.some.inj hi
      have g39 : A.tmps.getD 39 undef = .bool true := dep_of hdeps 30 (by kernel_rfl)
      have s42 : A.tmps.getD 42 undef = .bool wb := dep_of hdeps 33 (by kernel_rfl)
      have s47 : A.tmps.getD 47 undef = .bool wb := dep_of hdeps 38 (by kernel_rfl)
      exact v_pure hi (wanted_of rfl rfl g39) (congrArg Value.bool HWW.out.symm) (x_eqlB _ _ s42 s47)
    · obtain rfl := Option.some.inj hi
      have s39 : A.tmps.getD 39 undef = .bool true := dep_of hdeps 30 (by kernel_rfl)
      have s48 : A.tmps.getD 48 undef = .bool true := dep_of hdeps 39 (by kernel_rfl)
      exact v_pure hi rfl rfl (x_pickT _ _ _ s39 s48)
    · obtain rfl := Option.some.inj hi
      have s49 : A.tmps.getD 49 undef = .bool true := dep_of hdeps 40 (by kernel_rfl)
      exact v_pure hi rfl rfl (x_move _ s49)
    · obtain rfl := Option.some.inj hi
      have g42 : A.tmps.getD 50 undef = .bool true := dep_of hdeps 41 (by kernel_rfl)
      exact v_enter hi (wanted_of rfl rfl g42) rfl (x_call 9 _ #[] _ rfl (by simp) en_alive) (CA.out w1 (HT2.out.below hB HT2.out.pos))
    · obtain rfl := Option.some.inj hi
      have s50 : A.tmps.getD 50 undef = .bool true := dep_of hdeps 41 (by kernel_rfl)
      have s51 : A.tmps.getD 51 undef = .bool true := dep_of hdeps 42 (by kernel_rfl)
      exact v_pure hi rfl rfl (x_pickT _ _ _ s50 s51)
    · obtain rfl := Option.some.inj hi
      have s52 : A.tmps.getD 52 undef = .bool true := dep_of hdeps 43 (by kernel_rfl)
      exact v_pure hi rfl rfl (x_assign _ s52)
  · intro w1 hB
    simp only [putAll, Act.put, List.setIfInBounds_toArray, List.set_cons_succ, List.set_cons_zero]
    go_wp2_with fail
    go_ret
    exact ⟨rfl, HB2.out.trans (hB.mono HB2.out.size)⟩
end counts
namespace counts
set_option maxRecDepth 100000 in
theorem contract (H : Type) (enc : TypeId × Value → H) (W : World) (base : Nat) (args : Array Value) (ds gs : List (DataW H)) (before : List MemPlace)
    (hval : ∀ (j : Nat) t v, Tryd.f4.params[j]? = some t → args[j]? = some v → Value.okWide Tryd.prog W .any base t v)
    (hW : DataW.Whole enc Tryd.prog Tryd.f4.params.toList Rows.votesCountsSpec.vars false W args.toList ds gs before) (hL : laidMet Tryd.prog laidList W) :
    Calls Tryd.prog 4 args W fun e W' => ∃ v, e = .returned v ∧ Rows.votesCountsSpec.post enc Tryd.prog Tryd.f4 false true false false W args v W' := by
  have hW' := hW
  obtain ⟨p, q, hA0, hV, rfl, hfz, hnd⟩ := hW
  have hA : DataW.TrodAll enc Tryd.prog W 0 (fun _ => true) true Tryd.f4.params.toList args.toList ds p := hA0
  rw [Tryd.params4] at hA hval
  obtain ⟨v0, vs0, d0, ds0, p0, q0, hargs, rfl, rfl, h0, r0⟩ := trodAll_cons hA
  obtain ⟨v1, vs1, d1, ds1, p1, q1, rfl, rfl, rfl, h1, r1⟩ := trodAll_cons r0
  obtain ⟨rfl, rfl, rfl⟩ := trodAll_nil r1
  obtain rfl : args = #[v0, v1] := by cases args; simp_all
  obtain ⟨rfl, rfl⟩ := trodVars_none hV
  have k0 := h0
  have lt0 : ∀ x ∈ p0, x.block < W.heap.size := by obtain ⟨m, hm⟩ := k0; exact DataW.trod_lt m _ _ _ hm
  obtain ⟨c0, rfl, ok0⟩ := cfg_of_trod (hval 0 25 v0 rfl rfl) h0
  obtain ⟨a1, rfl, rfl, rfl, w1⟩ := open_int Tryd.underlying35 (hval 1 35 v1 rfl rfl) h1
  have b1 := bounds_u64 w1
  obtain ⟨m1, rfl⟩ := Int.eq_ofNat_of_zero_le b1.1
  clear hA0
  refine (counts.walkN c0 m1 ok0 (by omega) W (tab_of_laid hL)).mono fun e W' ⟨he, bel⟩ => ?_
  subst he
  exact ⟨_, rfl, _, _, _, [], _, [], hW', trodAll_mk1 (shut_bool Tryd.underlying4 _), (trodAll_cons_mk (Below.trod laidOut (by kernel_rfl) (of_decide_eq_true (by kernel_rfl)) k0 bel lt0) (trodAll_cons_mk (shut_int Tryd.underlying35 w1) trodAll_mk0)), rfl, bel.frame _, fun h => by cases h⟩

theorem laid_met (os : Os) : laidMet Tryd.prog laidList ((layTab (World.holding Tryd.prog os ⟨#[], #[], []⟩)).forCall (fun _ _ => 0) ⟨#[], #[.agg #[.int .u32 0, .int .u8 0, .int .u8 0, .int .u8 0, .int .u8 0, .int .u8 0, .int .u8 0, .int .u8 0, .int .u8 0, .int .u8 0, .int .u8 0], .int .u64 0], []⟩).memory :=
  laidMet_of_run' 8 (by kernel_rfl) (by kernel_rfl)
theorem reads (os : Os) {H : Type} (enc : TypeId × Value → H) : ∃ places, DataW.whole enc Tryd.prog ((layTab (World.holding Tryd.prog os ⟨#[], #[], []⟩)).forCall (fun _ _ => 0) ⟨#[], #[.agg #[.int .u32 0, .int .u8 0, .int .u8 0, .int .u8 0, .int .u8 0, .int .u8 0, .int .u8 0, .int .u8 0, .int .u8 0, .int .u8 0, .int .u8 0], .int .u64 0], []⟩).memory Tryd.f4.params.toList Rows.votesCountsSpec.vars false #[Value.agg #[.int .u32 0, .int .u8 0, .int .u8 0, .int .u8 0, .int .u8 0, .int .u8 0, .int .u8 0, .int .u8 0, .int .u8 0, .int .u8 0, .int .u8 0], Value.int .u64 0].toList 8 = some ([.agg [.lit (.int .u32 0), .lit (.int .u8 0), .lit (.int .u8 0), .agg [.lit (.int .u8 0), .lit (.int .u8 0), .lit (.int .u8 0), .lit (.int .u8 0), .lit (.int .u8 0), .lit (.int .u8 0), .lit (.int .u8 0), .lit (.int .u8 0)]], .lit (.int .u64 0)], [], places) :=
  ⟨[], by kernel_rfl⟩

set_option maxRecDepth 100000 in
theorem lifted (os : Os) (started : os.Started) (H : Type) (enc : TypeId × Value → H) (F : Stop.Interp) :
    ReturnsInHanded {} Tryd.checked os 4 .any ((OpenSpec.ofChange Rows.votesCountsSpec).preRow enc Tryd.prog Tryd.f4 Rows.votesCountsRow.domain false Rows.votesCountsRow.laid) (((OpenSpec.ofChange Rows.votesCountsSpec).at F).post enc Tryd.prog Tryd.f4 false true false false) := by
  obtain ⟨places, hx⟩ := reads os enc
  refine returnsInHanded_of_row (C := Tryd.checked) (s := OpenSpec.ofChange Rows.votesCountsSpec) own started (by kernel_rfl) Tryd.func4
    (witness_row_at (enc := enc) (C := Tryd.checked) false (layTab (World.holding Tryd.prog os ⟨#[], #[], []⟩)) #[.agg #[.int .u32 0, .int .u8 0, .int .u8 0, .int .u8 0, .int .u8 0, .int .u8 0, .int .u8 0, .int .u8 0, .int .u8 0, .int .u8 0, .int .u8 0], .int .u64 0] rfl (by kernel_rfl) (by kernel_rfl) (by kernel_rfl)
      (OpenSpec.preRow_of_cond 8 hx (by kernel_rfl) (fun k hk => by cases hk) (by kernel_rfl) (laid_met os))) ?_
  intro W base args ds gs before hval hW _ _ _ hL _ _
  exact contract H enc W base args ds gs before hval hW hL

theorem said : Rows.VotesCountsSaid :=
  OpenClaim.holds_of_cond 4 Tryd.f4 rfl rfl rfl rfl rfl rfl rfl ⟨rfl, rfl, rfl, rfl, rfl⟩ rfl rfl rfl rfl rfl (by kernel_rfl) Tryd.func4 (by kernel_rfl)
    (of_decide_eq_true (by kernel_rfl)) (by unfold Func.isWrapper; first | (rw [if_pos (by decide +kernel)]; kernel_rfl) | (rw [if_neg (by decide +kernel)]; exact ⟨rfl, rfl⟩))
    (fun os started H enc _ F => by rw [OpenClaim.pre_eq_preRow]; exact lifted os started H enc F)

theorem plain (f : FuncId) (fn : Func) (hf : Tryd.pinned.checked.prog.funcNamed Tryd.f4.name = some f) (hfn : Tryd.pinned.checked.prog.funcs[f]? = some fn) :
    false = Tryd.pinned.checked.prog.looks [] ∧ ∀ (j : Nat) t, fn.params[j]? = some t → Tryd.pinned.checked.prog.wantsStandIn t = false := by
  obtain rfl : f = 4 := Option.some.inj ((show Tryd.prog.funcNamed Tryd.f4.name = some 4 by kernel_rfl).symm.trans hf) |>.symm
  obtain rfl : fn = Tryd.f4 := (Option.some.inj (Tryd.func4.symm.trans hfn)).symm
  refine ⟨by kernel_rfl, fun j t ht => ?_⟩
  rw [Tryd.params4] at ht
  have : t = 25 ∨ t = 35 := by simpa using Array.mem_of_getElem? ht
  rcases this with rfl | rfl
  · exact (show Tryd.prog.wantsStandIn 25 = false by kernel_rfl)
  · exact (show Tryd.prog.wantsStandIn 35 = false by kernel_rfl)
end counts

/-- THE CARD. -/
theorem votesCounts_card : Rows.VotesCountsCardSaid :=
  Claim7.holds_tied_plain_at .later [] _ _ _ _ counts.said (fun _ h => by cases h) (by kernel_rfl) (fun _ h => by cases h) votesCounts_row_tie rfl ⟨rfl, rfl⟩ (by kernel_rfl) rfl counts.plain (by kernel_rfl)
#print axioms votesCounts_card
end Go.Proofs.YtnljibmdcknmeaaDoor
