/-
  Walks of May, of the program and of the reference. Own work.
-/
import Derived.Test.YtnljibmdcknmeabDoorVtRef
namespace Go.Proofs.YtnljibmdcknmeabDoor
open Go.RowKit

/-- No node below k has more than 15 votes. -/
def fifteen (vs : List Nat) : Nat → Bool
  | 0 => true
  | k + 1 => fifteen vs k && decide (vs.getD k 0 ≤ 15)
theorem fifteen_no (vs : List Nat) (k : Nat) (h : ¬ vs.getD k 0 ≤ 15) : ∀ d, fifteen vs (k + 1 + d) = false
  | 0 => by rw [Nat.add_zero, fifteen, decide_eq_false h, Bool.and_false]
  | d + 1 => by rw [← Nat.add_assoc, fifteen, fifteen_no vs k h d, Bool.false_and]
/-- It may be. -/
def mayB (c : Cf) : Bool := decide (1 ≤ c.e) && decide (c.e ≤ 2147483647) && fifteen c.vs 8 && decide (1 ≤ c.r) && decide (c.r ≤ totN c.vs 8) && decide (1 ≤ c.w) && decide (c.w ≤ totN c.vs 8) && decide (totN c.vs 8 < c.r + c.w) && decide (totN c.vs 8 < 2 * c.w)

set_option maxRecDepth 100000 in
set_option maxHeartbeats 1600000 in
theorem may_any (c : Cf) (hok : c.Ok) (w : World) :
    Calls Tryd.prog 13 #[.agg c.arr] w fun e w' => e = .returned (.bool (mayB c)) ∧ Below w.heap.size w w' := by
  have hsz := hok.size
  have HO := hide hok
  have HX := hide (box_new w c.arr 25)
  have x0 := arr_e HX.out
  have HB := hide (alloc_below w (.cells c.arr 25))
  have CT := hide (fun W => total_any c hok W)
  have he := hok.e
  have hr := hok.r
  have hw := hok.w
  have hT := hok.tot 8
  have HM : Hid (mayB c = (decide (1 ≤ c.e) && decide (c.e ≤ 2147483647) && fifteen c.vs 8 && decide (1 ≤ c.r) && decide (c.r ≤ totN c.vs 8) && decide (1 ≤ c.w) && decide (c.w ≤ totN c.vs 8) && decide (totN c.vs 8 < c.r + c.w) && decide (totN c.vs 8 < 2 * c.w))) := rfl
  generalize totN c.vs 8 = T at *
  clear hok
  by_cases e1 : c.e < 1
  · have d1 : decide ((c.e : Int) < 1) = true := decide_eq_true (by omega)
    have HR : Hid (mayB c = false) := hide (by rw [HM.out, decide_eq_false (show ¬ 1 ≤ c.e by omega)]; simp)
    clear HM
    go_enter Tryd.func13, Tryd.ntmps13
    go_wp2
    go_ret
    exact ⟨ret_bool HR.out.symm, HB.out⟩
  have d1 : decide ((c.e : Int) < 1) = false := decide_eq_false (by omega)
  by_cases e2 : c.e > 2147483647
  · have d2 : decide ((c.e : Int) > 2147483647) = true := decide_eq_true (by omega)
    have HR : Hid (mayB c = false) := hide (by rw [HM.out, decide_eq_false (show ¬ c.e ≤ 2147483647 by omega)]; simp)
    clear HM
    go_enter Tryd.func13, Tryd.ntmps13
    go_wp2
    go_ret
    exact ⟨ret_bool HR.out.symm, HB.out⟩
  have d2 : decide ((c.e : Int) > 2147483647) = false := decide_eq_false (by omega)
  rw [decide_eq_true (show 1 ≤ c.e by omega), decide_eq_true (show c.e ≤ 2147483647 by omega)] at HM
  go_enter Tryd.func13, Tryd.ntmps13
  go_wp2_with (refine wp_load_votes rfl _ rfl _ rfl HO.out HX.out ?_)
  go_loop [18] (fun i => ∃ k : Nat, k ≤ 8 ∧ i = .int .i64 k ∧ Hid (fifteen c.vs k = true)) (fun i => 8 - (intOf i).toNat)
  case atStart => exact ⟨0, by omega, rfl, rfl⟩
  case round =>
    clear x0 d1 d2
    obtain ⟨k, hk, rfl, HF⟩ := hrel
    by_cases hlt : k < 8
    · have hidx := index_votes c.vs k HO.out.l hlt
      have hv := HO.out.at k
      have HN := hide (fifteen_no c.vs k)
      have HS : Hid (fifteen c.vs (k + 1) = (fifteen c.vs k && decide (c.vs.getD k 0 ≤ 15))) := rfl
      generalize c.vs.getD k 0 = x at *
      by_cases hx : x ≤ 15
      · have d3 : decide ((x : Int) > 15) = false := decide_eq_false (by omega)
        have HS2 : Hid (fifteen c.vs (k + 1) = true) := hide (by rw [HS.out, HF.out, decide_eq_true hx]; rfl)
        clear HS HN
        go_wp2
        go_round
        case rel => exact ⟨k + 1, by omega, by go_num, HS2⟩
        case measure => simp [intOf]; omega
      · have d3 : decide ((x : Int) > 15) = true := decide_eq_true (by omega)
        have HR : Hid (mayB c = false) := hide (by
          have := HN.out hx (7 - k)
          rw [show k + 1 + (7 - k) = 8 by omega] at this
          rw [HM.out, this]; simp)
        clear HS HN HM
        go_wp2
        go_ret
        exact ⟨ret_bool HR.out.symm, HB.out⟩
    · obtain rfl : k = 8 := by omega
      rw [HF.out] at HM
      go_wp2_with fail
      refine wp_region_vals (by kernel_rfl) [(24, .agg c.arr), (25, .int .i64 ((T : Nat) : Int)), (26, .pointer (some ⟨w.heap.size, 1, none⟩)), (27, .int .u8 (c.r : Int)), (28, .int .i64 (c.r : Int)), (29, .pointer (some ⟨w.heap.size, 2, none⟩)), (30, .int .u8 (c.w : Int)), (31, .int .i64 (c.w : Int)), (5, .int .i64 ((T : Nat) : Int)), (6, .int .i64 (c.r : Int)), (7, .int .i64 (c.w : Int))] (by kernel_rfl) rfl ?_ ?_
      · intro i o hi A w1 hB hold hdeps
        have hX1 := HX.out.belowV hB
        have hlt : i < 11 := (Array.getElem?_eq_some_iff.1 hi).1
        have hc : i = 0 ∨ i = 1 ∨ i = 2 ∨ i = 3 ∨ i = 4 ∨ i = 5 ∨ i = 6 ∨ i = 7 ∨ i = 8 ∨ i = 9 ∨ i = 10 := by omega
        clear hlt
        rcases hc with rfl | rfl | rfl | rfl | rfl | rfl | rfl | rfl | rfl | rfl | rfl
        · obtain rfl := Option.some.inj hi
          have s1 : A.tmps.getD 1 undef = .pointer (some ⟨w.heap.size, 0, none⟩) := hold 1 (by kernel_rfl)
          exact v_pure hi rfl rfl (x_loadC _ HO.out s1 hX1)
        · obtain rfl := Option.some.inj hi
          have s24 : A.tmps.getD 24 undef = .agg c.arr := dep_of hdeps 0 (by kernel_rfl)
          exact v_enter hi rfl rfl (x_call 12 _ #[.agg c.arr] _ rfl (by simp only [List.map_toArray, List.map_cons, List.map_nil, show A.eval (.tmp 24) = .agg c.arr from s24]; try rfl) en_total) (CT.out w1)
        · obtain rfl := Option.some.inj hi
          have s1 : A.tmps.getD 1 undef = .pointer (some ⟨w.heap.size, 0, none⟩) := hold 1 (by kernel_rfl)
          exact v_pure hi rfl rfl (x_field1 _ s1)
        · obtain rfl := Option.some.inj hi
          have s26 : A.tmps.getD 26 undef = .pointer (some ⟨w.heap.size, 1, none⟩) := dep_of hdeps 2 (by kernel_rfl)
          exact v_pure hi rfl rfl (x_load8 _ s26 (arr_r hX1))
        · obtain rfl := Option.some.inj hi
          have s27 : A.tmps.getD 27 undef = .int .u8 (c.r : Int) := dep_of hdeps 3 (by kernel_rfl)
          exact v_pure hi rfl rfl (x_conv _ s27 HO.out.r)
        · obtain rfl := Option.some.inj hi
          have s1 : A.tmps.getD 1 undef = .pointer (some ⟨w.heap.size, 0, none⟩) := hold 1 (by kernel_rfl)
          exact v_pure hi rfl rfl (x_field2 _ s1)
        · obtain rfl := Option.some.inj hi
          have s29 : A.tmps.getD 29 undef = .pointer (some ⟨w.heap.size, 2, none⟩) := dep_of hdeps 5 (by kernel_rfl)
          exact v_pure hi rfl rfl (x_load8 _ s29 (arr_w hX1))
        · obtain rfl := Option.some.inj hi
          have s30 : A.tmps.getD 30 undef = .int .u8 (c.w : Int) := dep_of hdeps 6 (by kernel_rfl)
          exact v_pure hi rfl rfl (x_conv _ s30 HO.out.w)
        · obtain rfl := Option.some.inj hi
          have s25 : A.tmps.getD 25 undef = .int .i64 ((T : Nat) : Int) := dep_of hdeps 1 (by kernel_rfl)
          exact v_pure hi rfl rfl (x_assign _ s25)
        · obtain rfl := Option.some.inj hi
          have s28 : A.tmps.getD 28 undef = .int .i64 (c.r : Int) := dep_of hdeps 4 (by kernel_rfl)
          exact v_pure hi rfl rfl (x_assign _ s28)
        · obtain rfl := Option.some.inj hi
          have s31 : A.tmps.getD 31 undef = .int .i64 (c.w : Int) := dep_of hdeps 7 (by kernel_rfl)
          exact v_pure hi rfl rfl (x_assign _ s31)
      · intro w1 hB
        have HB1 := hide (HB.out.trans (hB.mono HB.out.size))
        clear hB HB HX CT
        simp only [putAll, Act.put, List.setIfInBounds_toArray, List.set_cons_succ, List.set_cons_zero]
        by_cases a1 : 1 ≤ c.r
        case neg =>
          have HR : Hid (mayB c = false) := hide (by rw [HM.out, decide_eq_false a1]; simp)
          clear HM
          have d0 : decide ((c.r : Int) < 1) = true := decide_eq_true (by omega)
          go_wp2
          go_ret
          exact ⟨ret_bool HR.out.symm, HB1.out⟩
        by_cases a2 : c.r ≤ T
        case neg =>
          have HR : Hid (mayB c = false) := hide (by rw [HM.out, decide_eq_false a2]; simp)
          clear HM
          have d0 : decide ((c.r : Int) < 1) = false := decide_eq_false (by omega)
          have d1 : decide ((c.r : Int) > (T : Int)) = true := decide_eq_true (by omega)
          go_wp2
          go_ret
          exact ⟨ret_bool HR.out.symm, HB1.out⟩
        by_cases a3 : 1 ≤ c.w
        case neg =>
          have HR : Hid (mayB c = false) := hide (by rw [HM.out, decide_eq_false a3]; simp)
          clear HM
          have d0 : decide ((c.r : Int) < 1) = false := decide_eq_false (by omega)
          have d1 : decide ((c.r : Int) > (T : Int)) = false := decide_eq_false (by omega)
          have d2 : decide ((c.w : Int) < 1) = true := decide_eq_true (by omega)
          go_wp2
          go_ret
          exact ⟨ret_bool HR.out.symm, HB1.out⟩
        by_cases a4 : c.w ≤ T
        case neg =>
          have HR : Hid (mayB c = false) := hide (by rw [HM.out, decide_eq_false a4]; simp)
          clear HM
          have d0 : decide ((c.r : Int) < 1) = false := decide_eq_false (by omega)
          have d1 : decide ((c.r : Int) > (T : Int)) = false := decide_eq_false (by omega)
          have d2 : decide ((c.w : Int) < 1) = false := decide_eq_false (by omega)
          have d3 : decide ((c.w : Int) > (T : Int)) = true := decide_eq_true (by omega)
          go_wp2
          go_ret
          exact ⟨ret_bool HR.out.symm, HB1.out⟩
        by_cases a5 : T < c.r + c.w
        case neg =>
          have HR : Hid (mayB c = false) := hide (by rw [HM.out, decide_eq_false a5]; simp)
          clear HM
          have d0 : decide ((c.r : Int) < 1) = false := decide_eq_false (by omega)
          have d1 : decide ((c.r : Int) > (T : Int)) = false := decide_eq_false (by omega)
          have d2 : decide ((c.w : Int) < 1) = false := decide_eq_false (by omega)
          have d3 : decide ((c.w : Int) > (T : Int)) = false := decide_eq_false (by omega)
          have d4 : decide ((c.r : Int) + (c.w : Int) > (T : Int)) = false := decide_eq_false (by omega)
          go_wp2
          go_ret
          exact ⟨ret_bool HR.out.symm, HB1.out⟩
        by_cases a6 : T < 2 * c.w
        · have HR : Hid (mayB c = true) := hide (by rw [HM.out, decide_eq_true a1, decide_eq_true a2, decide_eq_true a3, decide_eq_true a4, decide_eq_true a5, decide_eq_true a6]; rfl)
          clear HM
          have d0 : decide ((c.r : Int) < 1) = false := decide_eq_false (by omega)
          have d1 : decide ((c.r : Int) > (T : Int)) = false := decide_eq_false (by omega)
          have d2 : decide ((c.w : Int) < 1) = false := decide_eq_false (by omega)
          have d3 : decide ((c.w : Int) > (T : Int)) = false := decide_eq_false (by omega)
          have d4 : decide ((c.r : Int) + (c.w : Int) > (T : Int)) = true := decide_eq_true (by omega)
          have d5 : decide (2 * (c.w : Int) > (T : Int)) = true := decide_eq_true (by omega)
          go_wp2
          go_ret
          exact ⟨ret_bool HR.out.symm, HB1.out⟩
        · skip
          have HR : Hid (mayB c = false) := hide (by rw [HM.out, decide_eq_false a6]; simp)
          clear HM
          have d0 : decide ((c.r : Int) < 1) = false := decide_eq_false (by omega)
          have d1 : decide ((c.r : Int) > (T : Int)) = false := decide_eq_false (by omega)
          have d2 : decide ((c.w : Int) < 1) = false := decide_eq_false (by omega)
          have d3 : decide ((c.w : Int) > (T : Int)) = false := decide_eq_false (by omega)
          have d4 : decide ((c.r : Int) + (c.w : Int) > (T : Int)) = true := decide_eq_true (by omega)
          have d5 : decide (2 * (c.w : Int) > (T : Int)) = false := decide_eq_false (by omega)
          go_wp2
          go_ret
          exact ⟨ret_bool HR.out.symm, HB1.out⟩
end Go.Proofs.YtnljibmdcknmeabDoor
