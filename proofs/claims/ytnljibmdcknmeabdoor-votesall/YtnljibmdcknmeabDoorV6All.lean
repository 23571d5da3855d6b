/-
  For every configuration and every two sets the statement VotesAll returns true: more nodes never have fewer votes, votes of two sets are those of both and of what they share, and all voters of a configuration that may be read and write; the probe 'alive' holds; nothing that was there is written.
  Conditions: the library's table math/bits.deBruijn64tab holds what its initialiser lays (the card ties that to the program's text); else none.
-/
import Derived.Test.YtnljibmdcknmeabDoorVtAlive
import Derived.Test.YtnljibmdcknmeabDoorVtOpen
namespace Go.Proofs.YtnljibmdcknmeabDoor
open Go.ChangeShapes Go.WideShapes Go.ChangeAt Go.RowKit

namespace all
theorem may_parts {c : Cf} (h : mayB c = true) : c.r ≤ totN c.vs 8 ∧ c.w ≤ totN c.vs 8 := by
  unfold mayB at h
  simp only [Bool.and_eq_true, decide_eq_true_eq] at h
  exact ⟨h.1.1.1.1.2, h.1.1.2⟩
set_option maxRecDepth 100000 in
set_option maxHeartbeats 12800000 in
theorem walkN (c : Cf) (a b : Nat) (hok : c.Ok) (ha : a < 18446744073709551616) (hb : b < 18446744073709551616) (w : World) (hT : Tab w) :
    Calls Tryd.prog 4 #[.agg c.arr, .int .u64 ((a : Nat) : Int), .int .u64 ((b : Nat) : Int)] w fun e w' => e = .returned (.bool true) ∧ Below w.heap.size w w' := by
  have hTp := hT.pos
  have hsz := hok.size
  have HO := hide hok
  have HX := hide (box_new w c.arr 25)
  have HB := hide (alloc_below w (.cells c.arr 25))
  have HT := hide (hT.below HB.out hTp)
  have hor : a ||| b < 18446744073709551616 := Nat.or_lt_two_pow (n := 64) ha hb
  have hand : a &&& b < 18446744073709551616 := Nat.lt_of_le_of_lt Nat.and_le_left ha
  have C1 := hide (fun W => ofB c a hok ha W)
  have C2 := hide (fun W => ofB c b hok hb W)
  have C3 := hide (fun W => ofB c (a ||| b) hok hor W)
  have C4 := hide (fun W => ofB c (a &&& b) hok hand W)
  have C5 := hide (fun W => total_any c hok W)
  have C6 := hide (fun W => votersB c hok W)
  have C7 := hide (fun W => may_any c hok W)
  have C8 := hide (fun W => reads_any c (votN c.vs 8) hok (vot64 c.vs) W)
  have C9 := hide (fun W => writes_any c (votN c.vs 8) hok (vot64 c.vs) W)
  have C10 := hide (fun W => ofB c (votN c.vs 8) hok (vot64 c.vs) W)
  rw [of_vot c.vs 8 8 (Nat.le_refl _)] at C8 C9 C10
  have CA := hide (fun W hW => alive_any W hW)
  have HMP : Hid (mayB c = true → c.r ≤ totN c.vs 8 ∧ c.w ≤ totN c.vs 8) := hide may_parts
  have hm1 : ofN c.vs a 8 ≤ ofN c.vs (a ||| b) 8 := of_part c.vs (fun i hi => by rw [Nat.testBit_or, hi]; rfl) 8
  have hm2 := of_le c.vs (a ||| b) 8
  have hm3 := of_both c.vs a b 8
  have b1 := hok.of a 8
  have b2 := hok.of b 8
  have b3 := hok.of (a ||| b) 8
  have b4 := hok.of (a &&& b) 8
  have b5 := hok.tot 8
  obtain ⟨ab, hab⟩ : ∃ x, x = a ||| b := ⟨_, rfl⟩
  obtain ⟨an, han⟩ : ∃ x, x = a &&& b := ⟨_, rfl⟩
  rw [← hab] at C3 hm1 hm2 hm3 b3
  rw [← han] at C4 hm3 b4
  have HAB := hide hab
  have HAN := hide han
  have HA := hide ha
  have HB2 := hide hb
  generalize votN c.vs 8 = V at *
  generalize totN c.vs 8 = T at *
  generalize ofN c.vs a 8 = oa at *
  generalize ofN c.vs b 8 = ob at *
  generalize ofN c.vs ab 8 = oab at *
  generalize ofN c.vs an 8 = oan at *
  have G1 : Hid (decide (((oab : Nat) : Int) < ((oa : Nat) : Int)) = false) := hide (decide_eq_false (by omega))
  have G2 : Hid (decide (((T : Nat) : Int) < ((oab : Nat) : Int)) = false) := hide (decide_eq_false (by omega))
  have G3 : Hid ((((oa + ob : Nat) : Int) != ((oab + oan : Nat) : Int)) = false) := hide (by rw [hm3]; simp)
  have HS1 : Hid (oa + ob < 1000000) := hide (by omega)
  have HS2 : Hid (oab + oan < 1000000) := hide (by omega)
  have HTT : Hid ((((T : Nat) : Int) == ((T : Nat) : Int)) = true) := hide (by simp)
  clear hok hT hab han ha hb hor hand hm1 hm2 hm3 b1 b2 b3 b4 b5
  go_enter Tryd.func4, Tryd.ntmps4
  go_wp2_with fail
  refine wp_region_vals (by kernel_rfl) [(8, .agg c.arr), (9, .int .u64 ((a : Nat) : Int)), (10, .int .i64 ((oa : Nat) : Int)), (11, .agg c.arr), (12, .int .u64 ((a : Nat) : Int)), (13, .int .u64 ((b : Nat) : Int)), (14, .int .u64 ((ab : Nat) : Int)), (15, .int .i64 ((oab : Nat) : Int)), (16, .bool false), (17, .bool false), (18, .agg c.arr), (19, .int .u64 ((a : Nat) : Int)), (20, .int .u64 ((b : Nat) : Int)), (21, .int .u64 ((ab : Nat) : Int)), (22, .int .i64 ((oab : Nat) : Int)), (23, .agg c.arr), (24, .int .i64 ((T : Nat) : Int)), (25, .bool false), (26, .bool false), (27, .bool false), (28, .agg c.arr), (29, .int .u64 ((a : Nat) : Int)), (30, .int .i64 ((oa : Nat) : Int)), (31, .agg c.arr), (32, .int .u64 ((b : Nat) : Int)), (33, .int .i64 ((ob : Nat) : Int)), (34, .int .i64 ((oa + ob : Nat) : Int)), (35, .agg c.arr), (36, .int .u64 ((a : Nat) : Int)), (37, .int .u64 ((b : Nat) : Int)), (38, .int .u64 ((ab : Nat) : Int)), (39, .int .i64 ((oab : Nat) : Int)), (40, .agg c.arr), (41, .int .u64 ((a : Nat) : Int)), (42, .int .u64 ((b : Nat) : Int)), (43, .int .u64 ((an : Nat) : Int)), (44, .int .i64 ((oan : Nat) : Int)), (45, .int .i64 ((oab + oan : Nat) : Int)), (46, .bool false), (47, .bool false)] (by kernel_rfl) rfl ?_ ?_
  · intro i o hi A w1 hB hold hdeps
    have hX1 := HX.out.belowV hB
    have hlt : i < 40 := (Array.getElem?_eq_some_iff.1 hi).1
    have hc : i = 0 ∨ i = 1 ∨ i = 2 ∨ i = 3 ∨ i = 4 ∨ i = 5 ∨ i = 6 ∨ i = 7 ∨ i = 8 ∨ i = 9 ∨ i = 10 ∨ i = 11 ∨ i = 12 ∨ i = 13 ∨ i = 14 ∨ i = 15 ∨ i = 16 ∨ i = 17 ∨ i = 18 ∨ i = 19 ∨ i = 20 ∨ i = 21 ∨ i = 22 ∨ i = 23 ∨ i = 24 ∨ i = 25 ∨ i = 26 ∨ i = 27 ∨ i = 28 ∨ i = 29 ∨ i = 30 ∨ i = 31 ∨ i = 32 ∨ i = 33 ∨ i = 34 ∨ i = 35 ∨ i = 36 ∨ i = 37 ∨ i = 38 ∨ i = 39 := by omega
    clear hlt
    rcases hc with rfl | rfl | rfl | rfl | rfl | rfl | rfl | rfl | rfl | rfl | rfl | rfl | rfl | rfl | rfl | rfl | rfl | rfl | rfl | rfl | rfl | rfl | rfl | rfl | rfl | rfl | rfl | rfl | rfl | rfl | rfl | rfl | rfl | rfl | rfl | rfl | rfl | rfl | rfl | rfl
    · obtain rfl := Option.some.inj hi
      have s3 : A.tmps.getD 3 undef = .pointer (some ⟨w.heap.size, 0, none⟩) := hold 3 (by kernel_rfl)
      exact v_pure hi rfl rfl (x_loadC _ HO.out s3 hX1)
    · obtain rfl := Option.some.inj hi
      have s1 : A.tmps.getD 1 undef = .int .u64 ((a : Nat) : Int) := hold 1 (by kernel_rfl)
      exact v_pure hi rfl rfl (x_move _ s1)
    · obtain rfl := Option.some.inj hi
      have s8 : A.tmps.getD 8 undef = .agg c.arr := dep_of hdeps 0 (by kernel_rfl)
      have s9 : A.tmps.getD 9 undef = .int .u64 ((a : Nat) : Int) := dep_of hdeps 1 (by kernel_rfl)
      exact v_enter hi rfl rfl (x_call 10 _ #[.agg c.arr, .int .u64 ((a : Nat) : Int)] _ rfl (by simp only [List.map_toArray, List.map_cons, List.map_nil, show A.eval (.tmp 8) = .agg c.arr from s8, show A.eval (.tmp 9) = .int .u64 ((a : Nat) : Int) from s9]; try rfl) en_of) (C1.out w1)
    · obtain rfl := Option.some.inj hi
      have s3 : A.tmps.getD 3 undef = .pointer (some ⟨w.heap.size, 0, none⟩) := hold 3 (by kernel_rfl)
      exact v_pure hi rfl rfl (x_loadC _ HO.out s3 hX1)
    · obtain rfl := Option.some.inj hi
      have s1 : A.tmps.getD 1 undef = .int .u64 ((a : Nat) : Int) := hold 1 (by kernel_rfl)
      exact v_pure hi rfl rfl (x_move _ s1)
    · obtain rfl := Option.some.inj hi
      have s2 : A.tmps.getD 2 undef = .int .u64 ((b : Nat) : Int) := hold 2 (by kernel_rfl)
      exact v_pure hi rfl rfl (x_move _ s2)
    · obtain rfl := Option.some.inj hi
      have s12 : A.tmps.getD 12 undef = .int .u64 ((a : Nat) : Int) := dep_of hdeps 4 (by kernel_rfl)
      have s13 : A.tmps.getD 13 undef = .int .u64 ((b : Nat) : Int) := dep_of hdeps 5 (by kernel_rfl)
      exact v_pure hi rfl (by rw [HAB.out]; rfl) (x_or _ _ HA.out HB2.out s12 s13)
    · obtain rfl := Option.some.inj hi
      have s11 : A.tmps.getD 11 undef = .agg c.arr := dep_of hdeps 3 (by kernel_rfl)
      have s14 : A.tmps.getD 14 undef = .int .u64 ((ab : Nat) : Int) := dep_of hdeps 6 (by kernel_rfl)
      exact v_enter hi rfl rfl (x_call 10 _ #[.agg c.arr, .int .u64 ((ab : Nat) : Int)] _ rfl (by simp only [List.map_toArray, List.map_cons, List.map_nil, show A.eval (.tmp 11) = .agg c.arr from s11, show A.eval (.tmp 14) = .int .u64 ((ab : Nat) : Int) from s14]; try rfl) en_of) (C3.out w1)
    · obtain rfl := Option.some.inj hi
      have s10 : A.tmps.getD 10 undef = .int .i64 ((oa : Nat) : Int) := dep_of hdeps 2 (by kernel_rfl)
      have s15 : A.tmps.getD 15 undef = .int .i64 ((oab : Nat) : Int) := dep_of hdeps 7 (by kernel_rfl)
      exact v_pure hi rfl (congrArg Value.bool G1.out.symm) (x_gtr _ _ s10 s15)
    · obtain rfl := Option.some.inj hi
      have s16 : A.tmps.getD 16 undef = .bool false := dep_of hdeps 8 (by kernel_rfl)
      exact v_pure hi rfl rfl (x_move _ s16)
    · obtain rfl := Option.some.inj hi
      have g10 : A.tmps.getD 17 undef = .bool false := dep_of hdeps 9 (by kernel_rfl)
      have s3 : A.tmps.getD 3 undef = .pointer (some ⟨w.heap.size, 0, none⟩) := hold 3 (by kernel_rfl)
      exact v_pure hi (wanted_not rfl rfl g10) rfl (x_loadC _ HO.out s3 hX1)
    · obtain rfl := Option.some.inj hi
      have g11 : A.tmps.getD 17 undef = .bool false := dep_of hdeps 9 (by kernel_rfl)
      have s1 : A.tmps.getD 1 undef = .int .u64 ((a : Nat) : Int) := hold 1 (by kernel_rfl)
      exact v_pure hi (wanted_not rfl rfl g11) rfl (x_move _ s1)
    · obtain rfl := Option.some.inj hi
      have g12 : A.tmps.getD 17 undef = .bool false := dep_of hdeps 9 (by kernel_rfl)
      have s2 : A.tmps.getD 2 undef = .int .u64 ((b : Nat) : Int) := hold 2 (by kernel_rfl)
      exact v_pure hi (wanted_not rfl rfl g12) rfl (x_move _ s2)
    · obtain rfl := Option.some.inj hi
      have g13 : A.tmps.getD 17 undef = .bool false := dep_of hdeps 9 (by kernel_rfl)
      have s19 : A.tmps.getD 19 undef = .int .u64 ((a : Nat) : Int) := dep_of hdeps 11 (by kernel_rfl)
      have s20 : A.tmps.getD 20 undef = .int .u64 ((b : Nat) : Int) := dep_of hdeps 12 (by kernel_rfl)
      exact v_pure hi (wanted_not rfl rfl g13) (by rw [HAB.out]; rfl) (x_or _ _ HA.out HB2.out s19 s20)
    · obtain rfl := Option.some.inj hi
      have g14 : A.tmps.getD 17 undef = .bool false := dep_of hdeps 9 (by kernel_rfl)
      have s18 : A.tmps.getD 18 undef = .agg c.arr := dep_of hdeps 10 (by kernel_rfl)
      have s21 : A.tmps.getD 21 undef = .int .u64 ((ab : Nat) : Int) := dep_of hdeps 13 (by kernel_rfl)
      exact v_enter hi (wanted_not rfl rfl g14) rfl (x_call 10 _ #[.agg c.arr, .int .u64 ((ab : Nat) : Int)] _ rfl (by simp only [List.map_toArray, List.map_cons, List.map_nil, show A.eval (.tmp 18) = .agg c.arr from s18, show A.eval (.tmp 21) = .int .u64 ((ab : Nat) : Int) from s21]; try rfl) en_of) (C3.out w1)
    · obtain rfl := Option.some.inj hi
      have g15 : A.tmps.getD 17 undef = .bool false := dep_of hdeps 9 (by kernel_rfl)
      have s3 : A.tmps.getD 3 undef = .pointer (some ⟨w.heap.size, 0, none⟩) := hold 3 (by kernel_rfl)
      exact v_pure hi (wanted_not rfl rfl g15) rfl (x_loadC _ HO.out s3 hX1)
    · obtain rfl := Option.some.inj hi
      have g16 : A.tmps.getD 17 undef = .bool false := dep_of hdeps 9 (by kernel_rfl)
      have s23 : A.tmps.getD 23 undef = .agg c.arr := dep_of hdeps 15 (by kernel_rfl)
      exact v_enter hi (wanted_not rfl rfl g16) rfl (x_call 12 _ #[.agg c.arr] _ rfl (by simp only [List.map_toArray, List.map_cons, List.map_nil, show A.eval (.tmp 23) = .agg c.arr from s23]; try rfl) en_total) (C5.out w1)
    · obtain rfl := Option.some.inj hi
      have g17 : A.tmps.getD 17 undef = .bool false := dep_of hdeps 9 (by kernel_rfl)
      have s22 : A.tmps.getD 22 undef = .int .i64 ((oab : Nat) : Int) := dep_of hdeps 14 (by kernel_rfl)
      have s24 : A.tmps.getD 24 undef = .int .i64 ((T : Nat) : Int) := dep_of hdeps 16 (by kernel_rfl)
      exact v_pure hi (wanted_not rfl rfl g17) (congrArg Value.bool G2.out.symm) (x_gtr _ _ s22 s24)
    · obtain rfl := Option.some.inj hi
      have s17 : A.tmps.getD 17 undef = .bool false := dep_of hdeps 9 (by kernel_rfl)
      have s25 : A.tmps.getD 25 undef = .bool false := dep_of hdeps 17 (by kernel_rfl)
      exact v_pure hi rfl rfl (x_pickF _ _ _ s17 s25)
    · obtain rfl := Option.some.inj hi
      have s26 : A.tmps.getD 26 undef = .bool false := dep_of hdeps 18 (by kernel_rfl)
      exact v_pure hi rfl rfl (x_move _ s26)
    · obtain rfl := Option.some.inj hi
      have g20 : A.tmps.getD 27 undef = .bool false := dep_of hdeps 19 (by kernel_rfl)
      have s3 : A.tmps.getD 3 undef = .pointer (some ⟨w.heap.size, 0, none⟩) := hold 3 (by kernel_rfl)
      exact v_pure hi (wanted_not rfl rfl g20) rfl (x_loadC _ HO.out s3 hX1)
    · obtain rfl := Option.some.inj hi
      have g21 : A.tmps.getD 27 undef = .bool false := dep_of hdeps 19 (by kernel_rfl)
      have s1 : A.tmps.getD 1 undef = .int .u64 ((a : Nat) : Int) := hold 1 (by kernel_rfl)
      exact v_pure hi (wanted_not rfl rfl g21) rfl (x_move _ s1)
    · obtain rfl := Option.some.inj hi
      have g22 : A.tmps.getD 27 undef = .bool false := dep_of hdeps 19 (by kernel_rfl)
      have s28 : A.tmps.getD 28 undef = .agg c.arr := dep_of hdeps 20 (by kernel_rfl)
      have s29 : A.tmps.getD 29 undef = .int .u64 ((a : Nat) : Int) := dep_of hdeps 21 (by kernel_rfl)
      exact v_enter hi (wanted_not rfl rfl g22) rfl (x_call 10 _ #[.agg c.arr, .int .u64 ((a : Nat) : Int)] _ rfl (by simp only [List.map_toArray, List.map_cons, List.map_nil, show A.eval (.tmp 28) = .agg c.arr from s28, show A.eval (.tmp 29) = .int .u64 ((a : Nat) : Int) from s29]; try rfl) en_of) (C1.out w1)
    · obtain rfl := Option.some.inj hi
      have g23 : A.tmps.getD 27 undef = .bool false := dep_of hdeps 19 (by kernel_rfl)
      have s3 : A.tmps.getD 3 undef = .pointer (some ⟨w.heap.size, 0, none⟩) := hold 3 (by kernel_rfl)
      exact v_pure hi (wanted_not rfl rfl g23) rfl (x_loadC _ HO.out s3 hX1)
    · obtain rfl := Option.some.inj hi
      have g24 : A.tmps.getD 27 undef = .bool false := dep_of hdeps 19 (by kernel_rfl)
      have s2 : A.tmps.getD 2 undef = .int .u64 ((b : Nat) : Int) := hold 2 (by kernel_rfl)
      exact v_pure hi (wanted_not rfl rfl g24) rfl (x_move _ s2)
    · obtain rfl := Option.some.inj hi
      have g25 : A.tmps.getD 27 undef = .bool false := dep_of hdeps 19 (by kernel_rfl)
      have s31 : A.tmps.getD 31 undef = .agg c.arr := dep_of hdeps 23 (by kernel_rfl)
      have s32 : A.tmps.getD 32 undef = .int .u64 ((b : Nat) : Int) := dep_of hdeps 24 (by kernel_rfl)
      exact v_enter hi (wanted_not rfl rfl g25) rfl (x_call 10 _ #[.agg c.arr, .int .u64 ((b : Nat) : Int)] _ rfl (by simp only [List.map_toArray, List.map_cons, List.map_nil, show A.eval (.tmp 31) = .agg c.arr from s31, show A.eval (.tmp 32) = .int .u64 ((b : Nat) : Int) from s32]; try rfl) en_of) (C2.out w1)
    · obtain rfl := Option.some.inj hi
      have g26 : A.tmps.getD 27 undef = .bool false := dep_of hdeps 19 (by kernel_rfl)
      have s30 : A.tmps.getD 30 undef = .int .i64 ((oa : Nat) : Int) := dep_of hdeps 22 (by kernel_rfl)
      have s33 : A.tmps.getD 33 undef = .int .i64 ((ob : Nat) : Int) := dep_of hdeps 25 (by kernel_rfl)
      exact v_pure hi (wanted_not rfl rfl g26) rfl (x_add _ _ s30 s33 HS1.out)
    · obtain rfl := Option.some.inj hi
      have g27 : A.tmps.getD 27 undef = .bool false := dep_of hdeps 19 (by kernel_rfl)
      have s3 : A.tmps.getD 3 undef = .pointer (some ⟨w.heap.size, 0, none⟩) := hold 3 (by kernel_rfl)
      exact v_pure hi (wanted_not rfl rfl g27) rfl (x_loadC _ HO.out s3 hX1)
    · obtain rfl := Option.some.inj hi
      have g28 : A.tmps.getD 27 undef = .bool false := dep_of hdeps 19 (by kernel_rfl)
      have s1 : A.tmps.getD 1 undef = .int .u64 ((a : Nat) : Int) := hold 1 (by kernel_rfl)
      exact v_pure hi (wanted_not rfl rfl g28) rfl (x_move _ s1)
    · obtain rfl := Option.some.inj hi
      have g29 : A.tmps.getD 27 undef = .bool false := dep_of hdeps 19 (by kernel_rfl)
      have s2 : A.tmps.getD 2 undef = .int .u64 ((b : Nat) : Int) := hold 2 (by kernel_rfl)
      exact v_pure hi (wanted_not rfl rfl g29) rfl (x_move _ s2)
    · obtain rfl := Option.some.inj hi
      have g30 : A.tmps.getD 27 undef = .bool false := dep_of hdeps 19 (by kernel_rfl)
      have s36 : A.tmps.getD 36 undef = .int .u64 ((a : Nat) : Int) := dep_of hdeps 28 (by kernel_rfl)
      have s37 : A.tmps.getD 37 undef = .int .u64 ((b : Nat) : Int) := dep_of hdeps 29 (by kernel_rfl)
      exact v_pure hi (wanted_not rfl rfl g30) (by rw [HAB.out]; rfl) (x_or _ _ HA.out HB2.out s36 s37)
    · obtain rfl := Option.some.inj hi
      have g31 : A.tmps.getD 27 undef = .bool false := dep_of hdeps 19 (by kernel_rfl)
      have s35 : A.tmps.getD 35 undef = .agg c.arr := dep_of hdeps 27 (by kernel_rfl)
      have s38 : A.tmps.getD 38 undef = .int .u64 ((ab : Nat) : Int) := dep_of hdeps 30 (by kernel_rfl)
      exact v_enter hi (wanted_not rfl rfl g31) rfl (x_call 10 _ #[.agg c.arr, .int .u64 ((ab : Nat) : Int)] _ rfl (by simp only [List.map_toArray, List.map_cons, List.map_nil, show A.eval (.tmp 35) = .agg c.arr from s35, show A.eval (.tmp 38) = .int .u64 ((ab : Nat) : Int) from s38]; try rfl) en_of) (C3.out w1)
    · obtain rfl := Option.some.inj hi
      have g32 : A.tmps.getD 27 undef = .bool false := dep_of hdeps 19 (by kernel_rfl)
      have s3 : A.tmps.getD 3 undef = .pointer (some ⟨w.heap.size, 0, none⟩) := hold 3 (by kernel_rfl)
      exact v_pure hi (wanted_not rfl rfl g32) rfl (x_loadC _ HO.out s3 hX1)
    · obtain rfl := Option.some.inj hi
      have g33 : A.tmps.getD 27 undef = .bool false := dep_of hdeps 19 (by kernel_rfl)
      have s1 : A.tmps.getD 1 undef = .int .u64 ((a : Nat) : Int) := hold 1 (by kernel_rfl)
      exact v_pure hi (wanted_not rfl rfl g33) rfl (x_move _ s1)
    · obtain rfl := Option.some.inj hi
      have g34 : A.tmps.getD 27 undef = .bool false := dep_of hdeps 19 (by kernel_rfl)
      have s2 : A.tmps.getD 2 undef = .int .u64 ((b : Nat) : Int) := hold 2 (by kernel_rfl)
      exact v_pure hi (wanted_not rfl rfl g34) rfl (x_move _ s2)
    · obtain rfl := Option.some.inj hi
      have g35 : A.tmps.getD 27 undef = .bool false := dep_of hdeps 19 (by kernel_rfl)
      have s41 : A.tmps.getD 41 undef = .int .u64 ((a : Nat) : Int) := dep_of hdeps 33 (by kernel_rfl)
      have s42 : A.tmps.getD 42 undef = .int .u64 ((b : Nat) : Int) := dep_of hdeps 34 (by kernel_rfl)
      exact v_pure hi (wanted_not rfl rfl g35) (by rw [HAN.out]; rfl) (x_and _ _ HA.out HB2.out s41 s42)
    · obtain rfl := Option.some.inj hi
      have g36 : A.tmps.getD 27 undef = .bool false := dep_of hdeps 19 (by kernel_rfl)
      have s40 : A.tmps.getD 40 undef = .agg c.arr := dep_of hdeps 32 (by kernel_rfl)
      have s43 : A.tmps.getD 43 undef = .int .u64 ((an : Nat) : Int) := dep_of hdeps 35 (by kernel_rfl)
      exact v_enter hi (wanted_not rfl rfl g36) rfl (x_call 10 _ #[.agg c.arr, .int .u64 ((an : Nat) : Int)] _ rfl (by simp only [List.map_toArray, List.map_cons, List.map_nil, show A.eval (.tmp 40) = .agg c.arr from s40, show A.eval (.tmp 43) = .int .u64 ((an : Nat) : Int) from s43]; try rfl) en_of) (C4.out w1)
    · obtain rfl := Option.some.inj hi
      have g37 : A.tmps.getD 27 undef = .bool false := dep_of hdeps 19 (by kernel_rfl)
      have s39 : A.tmps.getD 39 undef = .int .i64 ((oab : Nat) : Int) := dep_of hdeps 31 (by kernel_rfl)
      have s44 : A.tmps.getD 44 undef = .int .i64 ((oan : Nat) : Int) := dep_of hdeps 36 (by kernel_rfl)
      exact v_pure hi (wanted_not rfl rfl g37) rfl (x_add _ _ s39 s44 HS2.out)
    · obtain rfl := Option.some.inj hi
      have g38 : A.tmps.getD 27 undef = .bool false := dep_of hdeps 19 (by kernel_rfl)
      have s34 : A.tmps.getD 34 undef = .int .i64 ((oa + ob : Nat) : Int) := dep_of hdeps 26 (by kernel_rfl)
      have s45 : A.tmps.getD 45 undef = .int .i64 ((oab + oan : Nat) : Int) := dep_of hdeps 37 (by kernel_rfl)
      exact v_pure hi (wanted_not rfl rfl g38) (congrArg Value.bool G3.out.symm) (x_neq _ _ s34 s45)
    · obtain rfl := Option.some.inj hi
      have s27 : A.tmps.getD 27 undef = .bool false := dep_of hdeps 19 (by kernel_rfl)
      have s46 : A.tmps.getD 46 undef = .bool false := dep_of hdeps 38 (by kernel_rfl)
      exact v_pure hi rfl rfl (x_pickF _ _ _ s27 s46)
  · intro w1 hB
    have HX1 := hide (HX.out.belowV hB)
    have HT1 := hide (HT.out.below hB HT.out.pos)
    have HB1 := hide (HB.out.trans (hB.mono HB.out.size))
    clear hB HX HT HB C1 C2 C3 C4 G1 G2 G3
    simp only [putAll, Act.put, List.setIfInBounds_toArray, List.set_cons_succ, List.set_cons_zero]
    go_wp2_with (first
      | (refine wp_load_cfg rfl _ rfl _ rfl HO.out HX1.out ?_)
      | (go_at_call 7; refine (C6.out _).mono ?_; rintro e w3 ⟨rfl, hB3⟩; have HX3 := hide (HX1.out.belowV hB3); have HT3 := hide (HT1.out.below hB3 HT1.out.pos); have HB3 := hide (HB1.out.trans (hB3.mono HB1.out.size)); clear hB3 HX1 HT1))
    cases hm : mayB c
    · rw [hm] at C7
      clear HMP hm
      refine wp_region_vals (by kernel_rfl) [(50, .agg c.arr), (51, .bool false), (52, .bool true), (53, .bool true), (54, undef), (55, undef), (56, undef), (57, undef), (58, undef), (59, undef), (60, undef), (61, undef), (62, .bool true), (63, .bool true), (64, .agg c.arr), (65, .int .u64 ((V : Nat) : Int)), (66, .int .i64 ((T : Nat) : Int)), (67, .agg c.arr), (68, .int .i64 ((T : Nat) : Int)), (69, .bool true), (70, .bool true), (71, .bool true), (72, .bool true), (73, .bool true), (6, .bool true)] (by kernel_rfl) rfl ?_ ?_
      · intro i o hi A w4 hB hold hdeps
        have hX4 := HX3.out.belowV hB
        have hlt : i < 25 := (Array.getElem?_eq_some_iff.1 hi).1
        have hc : i = 0 ∨ i = 1 ∨ i = 2 ∨ i = 3 ∨ i = 4 ∨ i = 5 ∨ i = 6 ∨ i = 7 ∨ i = 8 ∨ i = 9 ∨ i = 10 ∨ i = 11 ∨ i = 12 ∨ i = 13 ∨ i = 14 ∨ i = 15 ∨ i = 16 ∨ i = 17 ∨ i = 18 ∨ i = 19 ∨ i = 20 ∨ i = 21 ∨ i = 22 ∨ i = 23 ∨ i = 24 := by omega
        clear hlt
        rcases hc with rfl | rfl | rfl | rfl | rfl | rfl | rfl | rfl | rfl | rfl | rfl | rfl | rfl | rfl | rfl | rfl | rfl | rfl | rfl | rfl | rfl | rfl | rfl | rfl | rfl
        · obtain rfl := Option.some.inj hi
          have s3 : A.tmps.getD 3 undef = .pointer (some ⟨w.heap.size, 0, none⟩) := hold 3 (by kernel_rfl)
          exact v_pure hi rfl rfl (x_loadC _ HO.out s3 hX4)
        · obtain rfl := Option.some.inj hi
          have s50 : A.tmps.getD 50 undef = .agg c.arr := dep_of hdeps 0 (by kernel_rfl)
          exact v_enter hi rfl rfl (x_call 13 _ #[.agg c.arr] _ rfl (by simp only [List.map_toArray, List.map_cons, List.map_nil, show A.eval (.tmp 50) = .agg c.arr from s50]; try rfl) en_may) (C7.out w4)
        · obtain rfl := Option.some.inj hi
          have s51 : A.tmps.getD 51 undef = .bool false := dep_of hdeps 1 (by kernel_rfl)
          exact v_pure hi rfl rfl (x_not (b := false) _ s51)
        · obtain rfl := Option.some.inj hi
          have s52 : A.tmps.getD 52 undef = .bool true := dep_of hdeps 2 (by kernel_rfl)
          exact v_pure hi rfl rfl (x_move _ s52)
        · obtain rfl := Option.some.inj hi
          have g4 : A.tmps.getD 53 undef = .bool true := dep_of hdeps 3 (by kernel_rfl)
          exact each_skip hi rfl rfl (fun e => absurd (g4.symm.trans e) (by simp)) rfl
        · obtain rfl := Option.some.inj hi
          have g5 : A.tmps.getD 53 undef = .bool true := dep_of hdeps 3 (by kernel_rfl)
          exact each_skip hi rfl rfl (fun e => absurd (g5.symm.trans e) (by simp)) rfl
        · obtain rfl := Option.some.inj hi
          have g6 : A.tmps.getD 53 undef = .bool true := dep_of hdeps 3 (by kernel_rfl)
          exact each_skip hi rfl rfl (fun e => absurd (g6.symm.trans e) (by simp)) rfl
        · obtain rfl := Option.some.inj hi
          have g7 : A.tmps.getD 53 undef = .bool true := dep_of hdeps 3 (by kernel_rfl)
          exact each_skip hi rfl rfl (fun e => absurd (g7.symm.trans e) (by simp)) rfl
        · obtain rfl := Option.some.inj hi
          have g8 : A.tmps.getD 57 undef = undef := dep_of hdeps 7 (by kernel_rfl)
          exact each_skip hi rfl rfl (fun e => absurd (g8.symm.trans e) (by simp [undef])) rfl
        · obtain rfl := Option.some.inj hi
          have g9 : A.tmps.getD 57 undef = undef := dep_of hdeps 7 (by kernel_rfl)
          exact each_skip hi rfl rfl (fun e => absurd (g9.symm.trans e) (by simp [undef])) rfl
        · obtain rfl := Option.some.inj hi
          have g10 : A.tmps.getD 57 undef = undef := dep_of hdeps 7 (by kernel_rfl)
          exact each_skip hi rfl rfl (fun e => absurd (g10.symm.trans e) (by simp [undef])) rfl
        · obtain rfl := Option.some.inj hi
          have g11 : A.tmps.getD 53 undef = .bool true := dep_of hdeps 3 (by kernel_rfl)
          exact each_skip hi rfl rfl (fun e => absurd (g11.symm.trans e) (by simp)) rfl
        · obtain rfl := Option.some.inj hi
          have s53 : A.tmps.getD 53 undef = .bool true := dep_of hdeps 3 (by kernel_rfl)
          exact v_pure hi rfl rfl (x_pickT _ _ _ s53 rfl)
        · obtain rfl := Option.some.inj hi
          have s62 : A.tmps.getD 62 undef = .bool true := dep_of hdeps 12 (by kernel_rfl)
          exact v_pure hi rfl rfl (x_move _ s62)
        · obtain rfl := Option.some.inj hi
          have g14 : A.tmps.getD 63 undef = .bool true := dep_of hdeps 13 (by kernel_rfl)
          have s3 : A.tmps.getD 3 undef = .pointer (some ⟨w.heap.size, 0, none⟩) := hold 3 (by kernel_rfl)
          exact v_pure hi (wanted_of rfl rfl g14) rfl (x_loadC _ HO.out s3 hX4)
        · obtain rfl := Option.some.inj hi
          have g15 : A.tmps.getD 63 undef = .bool true := dep_of hdeps 13 (by kernel_rfl)
          have s7 : A.tmps.getD 7 undef = .int .u64 ((V : Nat) : Int) := hold 7 (by kernel_rfl)
          exact v_pure hi (wanted_of rfl rfl g15) rfl (x_move _ s7)
        · obtain rfl := Option.some.inj hi
          have g16 : A.tmps.getD 63 undef = .bool true := dep_of hdeps 13 (by kernel_rfl)
          have s64 : A.tmps.getD 64 undef = .agg c.arr := dep_of hdeps 14 (by kernel_rfl)
          have s65 : A.tmps.getD 65 undef = .int .u64 ((V : Nat) : Int) := dep_of hdeps 15 (by kernel_rfl)
          exact v_enter hi (wanted_of rfl rfl g16) rfl (x_call 10 _ #[.agg c.arr, .int .u64 ((V : Nat) : Int)] _ rfl (by simp only [List.map_toArray, List.map_cons, List.map_nil, show A.eval (.tmp 64) = .agg c.arr from s64, show A.eval (.tmp 65) = .int .u64 ((V : Nat) : Int) from s65]; try rfl) en_of) (C10.out w4)
        · obtain rfl := Option.some.inj hi
          have g17 : A.tmps.getD 63 undef = .bool true := dep_of hdeps 13 (by kernel_rfl)
          have s3 : A.tmps.getD 3 undef = .pointer (some ⟨w.heap.size, 0, none⟩) := hold 3 (by kernel_rfl)
          exact v_pure hi (wanted_of rfl rfl g17) rfl (x_loadC _ HO.out s3 hX4)
        · obtain rfl := Option.some.inj hi
          have g18 : A.tmps.getD 63 undef = .bool true := dep_of hdeps 13 (by kernel_rfl)
          have s67 : A.tmps.getD 67 undef = .agg c.arr := dep_of hdeps 17 (by kernel_rfl)
          exact v_enter hi (wanted_of rfl rfl g18) rfl (x_call 12 _ #[.agg c.arr] _ rfl (by simp only [List.map_toArray, List.map_cons, List.map_nil, show A.eval (.tmp 67) = .agg c.arr from s67]; try rfl) en_total) (C5.out w4)
        · obtain rfl := Option.some.inj hi
          have g19 : A.tmps.getD 63 undef = .bool true := dep_of hdeps 13 (by kernel_rfl)
          have s66 : A.tmps.getD 66 undef = .int .i64 ((T : Nat) : Int) := dep_of hdeps 16 (by kernel_rfl)
          have s68 : A.tmps.getD 68 undef = .int .i64 ((T : Nat) : Int) := dep_of hdeps 18 (by kernel_rfl)
          exact v_pure hi (wanted_of rfl rfl g19) (congrArg Value.bool HTT.out.symm) (x_eql _ _ (.inl ⟨rfl, rfl⟩) s66 s68)
        · obtain rfl := Option.some.inj hi
          have s63 : A.tmps.getD 63 undef = .bool true := dep_of hdeps 13 (by kernel_rfl)
          have s69 : A.tmps.getD 69 undef = .bool true := dep_of hdeps 19 (by kernel_rfl)
          exact v_pure hi rfl rfl (x_pickT _ _ _ s63 s69)
        · obtain rfl := Option.some.inj hi
          have s70 : A.tmps.getD 70 undef = .bool true := dep_of hdeps 20 (by kernel_rfl)
          exact v_pure hi rfl rfl (x_move _ s70)
        · obtain rfl := Option.some.inj hi
          have g22 : A.tmps.getD 71 undef = .bool true := dep_of hdeps 21 (by kernel_rfl)
          exact v_enter hi (wanted_of rfl rfl g22) rfl (x_call 11 _ #[] _ rfl (by simp) en_alive) (CA.out w4 (HT3.out.below hB HT3.out.pos))
        · obtain rfl := Option.some.inj hi
          have s71 : A.tmps.getD 71 undef = .bool true := dep_of hdeps 21 (by kernel_rfl)
          have s72 : A.tmps.getD 72 undef = .bool true := dep_of hdeps 22 (by kernel_rfl)
          exact v_pure hi rfl rfl (x_pickT _ _ _ s71 s72)
        · obtain rfl := Option.some.inj hi
          have s73 : A.tmps.getD 73 undef = .bool true := dep_of hdeps 23 (by kernel_rfl)
          exact v_pure hi rfl rfl (x_assign _ s73)
      · intro w4 hB
        simp only [putAll, Act.put, List.setIfInBounds_toArray, List.set_cons_succ, List.set_cons_zero]
        go_wp2_with fail
        go_ret
        exact ⟨rfl, HB3.out.trans (hB.mono HB3.out.size)⟩
    · rw [hm] at C7
      obtain ⟨g1, g2⟩ := HMP.out hm
      rw [decide_eq_true (show (c.r : Int) ≤ ((T : Nat) : Int) by omega)] at C8
      rw [decide_eq_true (show (c.w : Int) ≤ ((T : Nat) : Int) by omega)] at C9
      clear HMP hm
      refine wp_region_vals (by kernel_rfl) [(50, .agg c.arr), (51, .bool true), (52, .bool false), (53, .bool false), (54, .agg c.arr), (55, .int .u64 ((V : Nat) : Int)), (56, .bool true), (57, .bool true), (58, .agg c.arr), (59, .int .u64 ((V : Nat) : Int)), (60, .bool true), (61, .bool true), (62, .bool true), (63, .bool true), (64, .agg c.arr), (65, .int .u64 ((V : Nat) : Int)), (66, .int .i64 ((T : Nat) : Int)), (67, .agg c.arr), (68, .int .i64 ((T : Nat) : Int)), (69, .bool true), (70, .bool true), (71, .bool true), (72, .bool true), (73, .bool true), (6, .bool true)] (by kernel_rfl) rfl ?_ ?_
      · intro i o hi A w4 hB hold hdeps
        have hX4 := HX3.out.belowV hB
        have hlt : i < 25 := (Array.getElem?_eq_some_iff.1 hi).1
        have hc : i = 0 ∨ i = 1 ∨ i = 2 ∨ i = 3 ∨ i = 4 ∨ i = 5 ∨ i = 6 ∨ i = 7 ∨ i = 8 ∨ i = 9 ∨ i = 10 ∨ i = 11 ∨ i = 12 ∨ i = 13 ∨ i = 14 ∨ i = 15 ∨ i = 16 ∨ i = 17 ∨ i = 18 ∨ i = 19 ∨ i = 20 ∨ i = 21 ∨ i = 22 ∨ i = 23 ∨ i = 24 := by omega
        clear hlt
        rcases hc with rfl | rfl | rfl | rfl | rfl | rfl | rfl | rfl | rfl | rfl | rfl | rfl | rfl | rfl | rfl | rfl | rfl | rfl | rfl | rfl | rfl | rfl | rfl | rfl | rfl
        · obtain rfl := Option.some.inj hi
          have s3 : A.tmps.getD 3 undef = .pointer (some ⟨w.heap.size, 0, none⟩) := hold 3 (by kernel_rfl)
          exact v_pure hi rfl rfl (x_loadC _ HO.out s3 hX4)
        · obtain rfl := Option.some.inj hi
          have s50 : A.tmps.getD 50 undef = .agg c.arr := dep_of hdeps 0 (by kernel_rfl)
          exact v_enter hi rfl rfl (x_call 13 _ #[.agg c.arr] _ rfl (by simp only [List.map_toArray, List.map_cons, List.map_nil, show A.eval (.tmp 50) = .agg c.arr from s50]; try rfl) en_may) (C7.out w4)
        · obtain rfl := Option.some.inj hi
          have s51 : A.tmps.getD 51 undef = .bool true := dep_of hdeps 1 (by kernel_rfl)
          exact v_pure hi rfl rfl (x_not (b := true) _ s51)
        · obtain rfl := Option.some.inj hi
          have s52 : A.tmps.getD 52 undef = .bool false := dep_of hdeps 2 (by kernel_rfl)
          exact v_pure hi rfl rfl (x_move _ s52)
        · obtain rfl := Option.some.inj hi
          have g4 : A.tmps.getD 53 undef = .bool false := dep_of hdeps 3 (by kernel_rfl)
          have s3 : A.tmps.getD 3 undef = .pointer (some ⟨w.heap.size, 0, none⟩) := hold 3 (by kernel_rfl)
          exact v_pure hi (wanted_not rfl rfl g4) rfl (x_loadC _ HO.out s3 hX4)
        · obtain rfl := Option.some.inj hi
          have g5 : A.tmps.getD 53 undef = .bool false := dep_of hdeps 3 (by kernel_rfl)
          have s7 : A.tmps.getD 7 undef = .int .u64 ((V : Nat) : Int) := hold 7 (by kernel_rfl)
          exact v_pure hi (wanted_not rfl rfl g5) rfl (x_move _ s7)
        · obtain rfl := Option.some.inj hi
          have g6 : A.tmps.getD 53 undef = .bool false := dep_of hdeps 3 (by kernel_rfl)
          have s54 : A.tmps.getD 54 undef = .agg c.arr := dep_of hdeps 4 (by kernel_rfl)
          have s55 : A.tmps.getD 55 undef = .int .u64 ((V : Nat) : Int) := dep_of hdeps 5 (by kernel_rfl)
          exact v_enter hi (wanted_not rfl rfl g6) rfl (x_call 14 _ #[.agg c.arr, .int .u64 ((V : Nat) : Int)] _ rfl (by simp only [List.map_toArray, List.map_cons, List.map_nil, show A.eval (.tmp 54) = .agg c.arr from s54, show A.eval (.tmp 55) = .int .u64 ((V : Nat) : Int) from s55]; try rfl) en_reads) (C8.out w4)
        · obtain rfl := Option.some.inj hi
          have g7 : A.tmps.getD 53 undef = .bool false := dep_of hdeps 3 (by kernel_rfl)
          have s56 : A.tmps.getD 56 undef = .bool true := dep_of hdeps 6 (by kernel_rfl)
          exact v_pure hi (wanted_not rfl rfl g7) rfl (x_move _ s56)
        · obtain rfl := Option.some.inj hi
          have g8 : A.tmps.getD 57 undef = .bool true := dep_of hdeps 7 (by kernel_rfl)
          have s3 : A.tmps.getD 3 undef = .pointer (some ⟨w.heap.size, 0, none⟩) := hold 3 (by kernel_rfl)
          exact v_pure hi (wanted_of rfl rfl g8) rfl (x_loadC _ HO.out s3 hX4)
        · obtain rfl := Option.some.inj hi
          have g9 : A.tmps.getD 57 undef = .bool true := dep_of hdeps 7 (by kernel_rfl)
          have s7 : A.tmps.getD 7 undef = .int .u64 ((V : Nat) : Int) := hold 7 (by kernel_rfl)
          exact v_pure hi (wanted_of rfl rfl g9) rfl (x_move _ s7)
        · obtain rfl := Option.some.inj hi
          have g10 : A.tmps.getD 57 undef = .bool true := dep_of hdeps 7 (by kernel_rfl)
          have s58 : A.tmps.getD 58 undef = .agg c.arr := dep_of hdeps 8 (by kernel_rfl)
          have s59 : A.tmps.getD 59 undef = .int .u64 ((V : Nat) : Int) := dep_of hdeps 9 (by kernel_rfl)
          exact v_enter hi (wanted_of rfl rfl g10) rfl (x_call 15 _ #[.agg c.arr, .int .u64 ((V : Nat) : Int)] _ rfl (by simp only [List.map_toArray, List.map_cons, List.map_nil, show A.eval (.tmp 58) = .agg c.arr from s58, show A.eval (.tmp 59) = .int .u64 ((V : Nat) : Int) from s59]; try rfl) en_writes) (C9.out w4)
        · obtain rfl := Option.some.inj hi
          have g11 : A.tmps.getD 53 undef = .bool false := dep_of hdeps 3 (by kernel_rfl)
          have s57 : A.tmps.getD 57 undef = .bool true := dep_of hdeps 7 (by kernel_rfl)
          have s60 : A.tmps.getD 60 undef = .bool true := dep_of hdeps 10 (by kernel_rfl)
          exact v_pure hi (wanted_not rfl rfl g11) rfl (x_pickT _ _ _ s57 s60)
        · obtain rfl := Option.some.inj hi
          have s53 : A.tmps.getD 53 undef = .bool false := dep_of hdeps 3 (by kernel_rfl)
          have s61 : A.tmps.getD 61 undef = .bool true := dep_of hdeps 11 (by kernel_rfl)
          exact v_pure hi rfl rfl (x_pickF _ _ _ s53 s61)
        · obtain rfl := Option.some.inj hi
          have s62 : A.tmps.getD 62 undef = .bool true := dep_of hdeps 12 (by kernel_rfl)
          exact v_pure hi rfl rfl (x_move _ s62)
        · obtain rfl := Option.some.inj hi
          have g14 : A.tmps.getD 63 undef = .bool true := dep_of hdeps 13 (by kernel_rfl)
          have s3 : A.tmps.getD 3 undef = .pointer (some ⟨w.heap.size, 0, none⟩) := hold 3 (by kernel_rfl)
          exact v_pure hi (wanted_of rfl rfl g14) rfl (x_loadC _ HO.out s3 hX4)
        · obtain rfl := Option.some.inj hi
          have g15 : A.tmps.getD 63 undef = .bool true := dep_of hdeps 13 (by kernel_rfl)
          have s7 : A.tmps.getD 7 undef = .int .u64 ((V : Nat) : Int) := hold 7 (by kernel_rfl)
          exact v_pure hi (wanted_of rfl rfl g15) rfl (x_move _ s7)
        · obtain rfl := Option.some.inj hi
          have g16 : A.tmps.getD 63 undef = .bool true := dep_of hdeps 13 (by kernel_rfl)
          have s64 : A.tmps.getD 64 undef = .agg c.arr := dep_of hdeps 14 (by kernel_rfl)
          have s65 : A.tmps.getD 65 undef = .int .u64 ((V : Nat) : Int) := dep_of hdeps 15 (by kernel_rfl)
          exact v_enter hi (wanted_of rfl rfl g16) rfl (x_call 10 _ #[.agg c.arr, .int .u64 ((V : Nat) : Int)] _ rfl (by simp only [List.map_toArray, List.map_cons, List.map_nil, show A.eval (.tmp 64) = .agg c.arr from s64, show A.eval (.tmp 65) = .int .u64 ((V : Nat) : Int) from s65]; try rfl) en_of) (C10.out w4)
        · obtain rfl := Option.some.inj hi
          have g17 : A.tmps.getD 63 undef = .bool true := dep_of hdeps 13 (by kernel_rfl)
          have s3 : A.tmps.getD 3 undef = .pointer (some ⟨w.heap.size, 0, none⟩) := hold 3 (by kernel_rfl)
          exact v_pure hi (wanted_of rfl rfl g17) rfl (x_loadC _ HO.out s3 hX4)
        · obtain rfl := Option.some.inj hi
          have g18 : A.tmps.getD 63 undef = .bool true := dep_of hdeps 13 (by kernel_rfl)
          have s67 : A.tmps.getD 67 undef = .agg c.arr := dep_of hdeps 17 (by kernel_rfl)
          exact v_enter hi (wanted_of rfl rfl g18) rfl (x_call 12 _ #[.agg c.arr] _ rfl (by simp only [List.map_toArray, List.map_cons, List.map_nil, show A.eval (.tmp 67) = .agg c.arr from s67]; try rfl) en_total) (C5.out w4)
        · obtain rfl := Option.some.inj hi
          have g19 : A.tmps.getD 63 undef = .bool true := dep_of hdeps 13 (by kernel_rfl)
          have s66 : A.tmps.getD 66 undef = .int .i64 ((T : Nat) : Int) := dep_of hdeps 16 (by kernel_rfl)
          have s68 : A.tmps.getD 68 undef = .int .i64 ((T : Nat) : Int) := dep_of hdeps 18 (by kernel_rfl)
          exact v_pure hi (wanted_of rfl rfl g19) (congrArg Value.bool HTT.out.symm) (x_eql _ _ (.inl ⟨rfl, rfl⟩) s66 s68)
        · obtain rfl := Option.some.inj hi
          have s63 : A.tmps.getD 63 undef = .bool true := dep_of hdeps 13 (by kernel_rfl)
          have s69 : A.tmps.getD 69 undef = .bool true := dep_of hdeps 19 (by kernel_rfl)
          exact v_pure hi rfl rfl (x_pickT _ _ _ s63 s69)
        · obtain rfl := Option.some.inj hi
          have s70 : A.tmps.getD 70 undef = .bool true := dep_of hdeps 20 (by kernel_rfl)
          exact v_pure hi rfl rfl (x_move _ s70)
        · obtain rfl := Option.some.inj hi
          have g22 : A.tmps.getD 71 undef = .bool true := dep_of hdeps 21 (by kernel_rfl)
          exact v_enter hi (wanted_of rfl rfl g22) rfl (x_call 11 _ #[] _ rfl (by simp) en_alive) (CA.out w4 (HT3.out.below hB HT3.out.pos))
        · obtain rfl := Option.some.inj hi
          have s71 : A.tmps.getD 71 undef = .bool true := dep_of hdeps 21 (by kernel_rfl)
          have s72 : A.tmps.getD 72 undef = .bool true := dep_of hdeps 22 (by kernel_rfl)
          exact v_pure hi rfl rfl (x_pickT _ _ _ s71 s72)
        · obtain rfl := Option.some.inj hi
          have s73 : A.tmps.getD 73 undef = .bool true := dep_of hdeps 23 (by kernel_rfl)
          exact v_pure hi rfl rfl (x_assign _ s73)
      · intro w4 hB
        simp only [putAll, Act.put, List.setIfInBounds_toArray, List.set_cons_succ, List.set_cons_zero]
        go_wp2_with fail
        go_ret
        exact ⟨rfl, HB3.out.trans (hB.mono HB3.out.size)⟩
end all
namespace all
set_option maxRecDepth 100000 in
theorem contract (H : Type) (enc : TypeId × Value → H) (W : World) (base : Nat) (args : Array Value) (ds gs : List (DataW H)) (before : List MemPlace)
    (hval : ∀ (j : Nat) t v, Tryd.f4.params[j]? = some t → args[j]? = some v → Value.okWide Tryd.prog W .any base t v)
    (hW : DataW.Whole enc Tryd.prog Tryd.f4.params.toList Rows.votesAllSpec.vars false W args.toList ds gs before) (hL : laidMet Tryd.prog laidList W) :
    Calls Tryd.prog 4 args W fun e W' => ∃ v, e = .returned v ∧ Rows.votesAllSpec.post enc Tryd.prog Tryd.f4 false true false false W args v W' := by
  have hW' := hW
  obtain ⟨p, q, hA0, hV, rfl, hfz, hnd⟩ := hW
  have hA : DataW.TrodAll enc Tryd.prog W 0 (fun _ => true) true Tryd.f4.params.toList args.toList ds p := hA0
  rw [Tryd.params4] at hA hval
  obtain ⟨v0, vs0, d0, ds0, p0, q0, hargs, rfl, rfl, h0, r0⟩ := trodAll_cons hA
  obtain ⟨v1, vs1, d1, ds1, p1, q1, rfl, rfl, rfl, h1, r1⟩ := trodAll_cons r0
  obtain ⟨v2, vs2, d2, ds2, p2, q2, rfl, rfl, rfl, h2, r2⟩ := trodAll_cons r1
  obtain ⟨rfl, rfl, rfl⟩ := trodAll_nil r2
  obtain rfl : args = #[v0, v1, v2] := by cases args; simp_all
  obtain ⟨rfl, rfl⟩ := trodVars_none hV
  have k0 := h0
  have lt0 : ∀ x ∈ p0, x.block < W.heap.size := by obtain ⟨m, hm⟩ := k0; exact DataW.trod_lt m _ _ _ hm
  obtain ⟨c0, rfl, ok0⟩ := cfg_of_trod (hval 0 25 v0 rfl rfl) h0
  obtain ⟨a1, rfl, rfl, rfl, w1⟩ := open_int Tryd.underlying26 (hval 1 26 v1 rfl rfl) h1
  have b1 := bounds_u64 w1
  obtain ⟨m1, rfl⟩ := Int.eq_ofNat_of_zero_le b1.1
  obtain ⟨a2, rfl, rfl, rfl, w2⟩ := open_int Tryd.underlying26 (hval 2 26 v2 rfl rfl) h2
  have b2 := bounds_u64 w2
  obtain ⟨m2, rfl⟩ := Int.eq_ofNat_of_zero_le b2.1
  clear hA0
  refine (all.walkN c0 m1 m2 ok0 (by omega) (by omega) W (tab_of_laid hL)).mono fun e W' ⟨he, bel⟩ => ?_
  subst he
  exact ⟨_, rfl, _, _, _, [], _, [], hW', trodAll_mk1 (shut_bool Tryd.underlying4 _), (trodAll_cons_mk (Below.trod laidOut (by kernel_rfl) (of_decide_eq_true (by kernel_rfl)) k0 bel lt0) (trodAll_cons_mk (shut_int Tryd.underlying26 w1) (trodAll_cons_mk (shut_int Tryd.underlying26 w2) trodAll_mk0))), rfl, bel.frame _, fun h => by cases h⟩

theorem laid_met (os : Os) : laidMet Tryd.prog laidList ((layTab (World.holding Tryd.prog os ⟨#[], #[], []⟩)).forCall (fun _ _ => 0) ⟨#[], #[.agg #[.int .u32 0, .int .u8 0, .int .u8 0, .int .u8 0, .int .u8 0, .int .u8 0, .int .u8 0, .int .u8 0, .int .u8 0, .int .u8 0, .int .u8 0], .int .u64 0, .int .u64 0], []⟩).memory :=
  laidMet_of_run' 8 (by kernel_rfl) (by kernel_rfl)
theorem reads (os : Os) {H : Type} (enc : TypeId × Value → H) : ∃ places, DataW.whole enc Tryd.prog ((layTab (World.holding Tryd.prog os ⟨#[], #[], []⟩)).forCall (fun _ _ => 0) ⟨#[], #[.agg #[.int .u32 0, .int .u8 0, .int .u8 0, .int .u8 0, .int .u8 0, .int .u8 0, .int .u8 0, .int .u8 0, .int .u8 0, .int .u8 0, .int .u8 0], .int .u64 0, .int .u64 0], []⟩).memory Tryd.f4.params.toList Rows.votesAllSpec.vars false #[Value.agg #[.int .u32 0, .int .u8 0, .int .u8 0, .int .u8 0, .int .u8 0, .int .u8 0, .int .u8 0, .int .u8 0, .int .u8 0, .int .u8 0, .int .u8 0], Value.int .u64 0, Value.int .u64 0].toList 8 = some ([.agg [.lit (.int .u32 0), .lit (.int .u8 0), .lit (.int .u8 0), .agg [.lit (.int .u8 0), .lit (.int .u8 0), .lit (.int .u8 0), .lit (.int .u8 0), .lit (.int .u8 0), .lit (.int .u8 0), .lit (.int .u8 0), .lit (.int .u8 0)]], .lit (.int .u64 0), .lit (.int .u64 0)], [], places) :=
  ⟨[], by kernel_rfl⟩

set_option maxRecDepth 100000 in
theorem lifted (os : Os) (started : os.Started) (H : Type) (enc : TypeId × Value → H) (F : Stop.Interp) :
    ReturnsInHanded {} Tryd.checked os 4 .any ((OpenSpec.ofChange Rows.votesAllSpec).preRow enc Tryd.prog Tryd.f4 Rows.votesAllRow.domain false Rows.votesAllRow.laid) (((OpenSpec.ofChange Rows.votesAllSpec).at F).post enc Tryd.prog Tryd.f4 false true false false) := by
  obtain ⟨places, hx⟩ := reads os enc
  refine returnsInHanded_of_row (C := Tryd.checked) (s := OpenSpec.ofChange Rows.votesAllSpec) own started (by kernel_rfl) Tryd.func4
    (witness_row_at (enc := enc) (C := Tryd.checked) false (layTab (World.holding Tryd.prog os ⟨#[], #[], []⟩)) #[.agg #[.int .u32 0, .int .u8 0, .int .u8 0, .int .u8 0, .int .u8 0, .int .u8 0, .int .u8 0, .int .u8 0, .int .u8 0, .int .u8 0, .int .u8 0], .int .u64 0, .int .u64 0] rfl (by kernel_rfl) (by kernel_rfl) (by kernel_rfl)
      (OpenSpec.preRow_of_cond 8 hx (by kernel_rfl) (fun k hk => by cases hk) (by kernel_rfl) (laid_met os))) ?_
  intro W base args ds gs before hval hW _ _ _ hL _ _
  exact contract H enc W base args ds gs before hval hW hL

theorem said : Rows.VotesAllSaid :=
  OpenClaim.holds_of_cond 4 Tryd.f4 rfl rfl rfl rfl rfl rfl rfl ⟨rfl, rfl, rfl, rfl, rfl⟩ rfl rfl rfl rfl rfl (by kernel_rfl) Tryd.func4 (by kernel_rfl)
    (of_decide_eq_true (by kernel_rfl)) (by unfold Func.isWrapper; first | (rw [if_pos (by decide +kernel)]; kernel_rfl) | (rw [if_neg (by decide +kernel)]; exact ⟨rfl, rfl⟩))
    (fun os started H enc _ F => by rw [OpenClaim.pre_eq_preRow]; exact lifted os started H enc F)

theorem plain (f : FuncId) (fn : Func) (hf : Tryd.pinned.checked.prog.funcNamed Tryd.f4.name = some f) (hfn : Tryd.pinned.checked.prog.funcs[f]? = some fn) :
    false = Tryd.pinned.checked.prog.looks [] ∧ ∀ (j : Nat) t, fn.params[j]? = some t → Tryd.pinned.checked.prog.wantsStandIn t = false := by
  obtain rfl : f = 4 := Option.some.inj ((show Tryd.prog.funcNamed Tryd.f4.name = some 4 by kernel_rfl).symm.trans hf) |>.symm
  obtain rfl : fn = Tryd.f4 := (Option.some.inj (Tryd.func4.symm.trans hfn)).symm
  refine ⟨by kernel_rfl, fun j t ht => ?_⟩
  rw [Tryd.params4] at ht
  have : t = 25 ∨ t = 26 ∨ t = 26 := by simpa using Array.mem_of_getElem? ht
  rcases this with rfl | rfl | rfl
  · exact (show Tryd.prog.wantsStandIn 25 = false by kernel_rfl)
  · exact (show Tryd.prog.wantsStandIn 26 = false by kernel_rfl)
  · exact (show Tryd.prog.wantsStandIn 26 = false by kernel_rfl)
end all

/-- THE CARD. -/
theorem votesAll_card : Rows.VotesAllCardSaid :=
  Claim7.holds_tied_plain_at .later [] _ _ _ _ all.said (fun _ h => by cases h) (by kernel_rfl) (fun _ h => by cases h) votesAll_row_tie rfl ⟨rfl, rfl⟩ (by kernel_rfl) rfl all.plain (by kernel_rfl)
#print axioms votesAll_card
end Go.Proofs.YtnljibmdcknmeabDoor
