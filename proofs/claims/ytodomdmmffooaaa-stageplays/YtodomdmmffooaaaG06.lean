/-
  Own texts put together: VtMay2, IdPlain, IdKeyP. Own work.
-/
import Derived.Test.YtodomdmmffooaaaG05
import Derived.WalkKit
import Derived.Lib.Bytealg
import Derived.Lib.Bytes
namespace Go.Proofs.Ytodomdmmffooaaa
section
open Go.RowKit

/-- No node below k has more than 15 votes. -/
def fifteen (vs : List Nat) : Nat → Bool
  | 0 => true
  | k + 1 => fifteen vs k && decide (vs.getD k 0 ≤ 15)
theorem fifteen_no (vs : List Nat) (k : Nat) (h : ¬ vs.getD k 0 ≤ 15) : ∀ d, fifteen vs (k + 1 + d) = false
  | 0 => by rw [Nat.add_zero, fifteen, decide_eq_false h, Bool.and_false]
  | d + 1 => by rw [← Nat.add_assoc, fifteen, fifteen_no vs k h d, Bool.false_and]
/-- It may be. -/
def mayB (c : Cf) : Bool := decide (1 ≤ c.e) && decide (c.e ≤ 2147483647) && fifteen c.vs 8 && decide (1 ≤ c.r) && decide (c.r ≤ totN c.vs 8) && decide (1 ≤ c.w) && decide (c.w ≤ totN c.vs 8) && decide (totN c.vs 8 < c.r + c.w) && decide (totN c.vs 8 < 2 * c.w)

set_option maxRecDepth 100000 in
set_option maxHeartbeats 1600000 in
theorem may_any (c : Cf) (hok : c.Ok) (w : World) :
    Calls Try.prog 82 #[.agg c.arr] w fun e w' => e = .returned (.bool (mayB c)) ∧ Below w.heap.size w w' := by
  have hsz := hok.size
  have HO := hide hok
  have HX := hide (box_new w c.arr 55)
  have x0 := arr_e HX.out
  have HB := hide (alloc_below w (.cells c.arr 55))
  have CT := hide (fun W => total_any c hok W)
  have he := hok.e
  have hr := hok.r
  have hw := hok.w
  have hT := hok.tot 8
  have HM : Hid (mayB c = (decide (1 ≤ c.e) && decide (c.e ≤ 2147483647) && fifteen c.vs 8 && decide (1 ≤ c.r) && decide (c.r ≤ totN c.vs 8) && decide (1 ≤ c.w) && decide (c.w ≤ totN c.vs 8) && decide (totN c.vs 8 < c.r + c.w) && decide (totN c.vs 8 < 2 * c.w))) := rfl
  generalize totN c.vs 8 = T at *
  clear hok
  by_cases e1 : c.e < 1
  · have d1 : decide ((c.e : Int) < 1) = true := decide_eq_true (by omega)
    have HR : Hid (mayB c = false) := hide (by rw [HM.out, decide_eq_false (show ¬ 1 ≤ c.e by omega)]; simp)
    clear HM
    go_enter Try.func82, Try.ntmps82
    go_wp2
    go_ret
    exact ⟨ret_bool HR.out.symm, HB.out⟩
  have d1 : decide ((c.e : Int) < 1) = false := decide_eq_false (by omega)
  by_cases e2 : c.e > 2147483647
  · have d2 : decide ((c.e : Int) > 2147483647) = true := decide_eq_true (by omega)
    have HR : Hid (mayB c = false) := hide (by rw [HM.out, decide_eq_false (show ¬ c.e ≤ 2147483647 by omega)]; simp)
    clear HM
    go_enter Try.func82, Try.ntmps82
    go_wp2
    go_ret
    exact ⟨ret_bool HR.out.symm, HB.out⟩
  have d2 : decide ((c.e : Int) > 2147483647) = false := decide_eq_false (by omega)
  rw [decide_eq_true (show 1 ≤ c.e by omega), decide_eq_true (show c.e ≤ 2147483647 by omega)] at HM
  go_enter Try.func82, Try.ntmps82
  go_wp2_with (refine wp_load_votes rfl _ rfl _ rfl HO.out HX.out ?_)
  go_loop [18] (fun i => ∃ k : Nat, k ≤ 8 ∧ i = .int .i64 k ∧ Hid (fifteen c.vs k = true)) (fun i => 8 - (intOf i).toNat)
  case atStart => exact ⟨0, by omega, rfl, rfl⟩
  case round =>
    clear x0 d1 d2
    obtain ⟨k, hk, rfl, HF⟩ := hrel
    by_cases hlt : k < 8
    · have hidx := index_votes c.vs k HO.out.l hlt
      have hv := HO.out.at k
      have HN := hide (fifteen_no c.vs k)
      have HS : Hid (fifteen c.vs (k + 1) = (fifteen c.vs k && decide (c.vs.getD k 0 ≤ 15))) := rfl
      generalize c.vs.getD k 0 = x at *
      by_cases hx : x ≤ 15
      · have d3 : decide ((x : Int) > 15) = false := decide_eq_false (by omega)
        have HS2 : Hid (fifteen c.vs (k + 1) = true) := hide (by rw [HS.out, HF.out, decide_eq_true hx]; rfl)
        clear HS HN
        go_wp2
        go_round
        case rel => exact ⟨k + 1, by omega, by go_num, HS2⟩
        case measure => simp [intOf]; omega
      · have d3 : decide ((x : Int) > 15) = true := decide_eq_true (by omega)
        have HR : Hid (mayB c = false) := hide (by
          have := HN.out hx (7 - k)
          rw [show k + 1 + (7 - k) = 8 by omega] at this
          rw [HM.out, this]; simp)
        clear HS HN HM
        go_wp2
        go_ret
        exact ⟨ret_bool HR.out.symm, HB.out⟩
    · obtain rfl : k = 8 := by omega
      rw [HF.out] at HM
      go_wp2_with fail
      refine wp_region_vals (by kernel_rfl) [(24, .agg c.arr), (25, .int .i64 ((T : Nat) : Int)), (26, .pointer (some ⟨w.heap.size, 1, none⟩)), (27, .int .u8 (c.r : Int)), (28, .int .i64 (c.r : Int)), (29, .pointer (some ⟨w.heap.size, 2, none⟩)), (30, .int .u8 (c.w : Int)), (31, .int .i64 (c.w : Int)), (5, .int .i64 ((T : Nat) : Int)), (6, .int .i64 (c.r : Int)), (7, .int .i64 (c.w : Int))] (by kernel_rfl) rfl ?_ ?_
      · intro i o hi A w1 hB hold hdeps
        have hX1 := HX.out.belowV hB
        have hlt : i < 11 := (Array.getElem?_eq_some_iff.1 hi).1
        have hc : i = 0 ∨ i = 1 ∨ i = 2 ∨ i = 3 ∨ i = 4 ∨ i = 5 ∨ i = 6 ∨ i = 7 ∨ i = 8 ∨ i = 9 ∨ i = 10 := by omega
        clear hlt
        rcases hc with rfl | rfl | rfl | rfl | rfl | rfl | rfl | rfl | rfl | rfl | rfl
        · obtain rfl := Option.some.inj hi
          have s1 : A.tmps.getD 1 undef = .pointer (some ⟨w.heap.size, 0, none⟩) := hold 1 (by kernel_rfl)
          exact v_pure hi rfl rfl (x_loadC _ HO.out s1 hX1)
        · obtain rfl := Option.some.inj hi
          have s24 : A.tmps.getD 24 undef = .agg c.arr := dep_of hdeps 0 (by kernel_rfl)
          exact v_enter hi rfl rfl (x_call 102 _ #[.agg c.arr] _ rfl (by simp only [List.map_toArray, List.map_cons, List.map_nil, show A.eval (.tmp 24) = .agg c.arr from s24]; try rfl) en_total) (CT.out w1)
        · obtain rfl := Option.some.inj hi
          have s1 : A.tmps.getD 1 undef = .pointer (some ⟨w.heap.size, 0, none⟩) := hold 1 (by kernel_rfl)
          exact v_pure hi rfl rfl (x_field1 _ s1)
        · obtain rfl := Option.some.inj hi
          have s26 : A.tmps.getD 26 undef = .pointer (some ⟨w.heap.size, 1, none⟩) := dep_of hdeps 2 (by kernel_rfl)
          exact v_pure hi rfl rfl (x_load8 _ s26 (arr_r hX1))
        · obtain rfl := Option.some.inj hi
          have s27 : A.tmps.getD 27 undef = .int .u8 (c.r : Int) := dep_of hdeps 3 (by kernel_rfl)
          exact v_pure hi rfl rfl (x_conv _ s27 HO.out.r)
        · obtain rfl := Option.some.inj hi
          have s1 : A.tmps.getD 1 undef = .pointer (some ⟨w.heap.size, 0, none⟩) := hold 1 (by kernel_rfl)
          exact v_pure hi rfl rfl (x_field2 _ s1)
        · obtain rfl := Option.some.inj hi
          have s29 : A.tmps.getD 29 undef = .pointer (some ⟨w.heap.size, 2, none⟩) := dep_of hdeps 5 (by kernel_rfl)
          exact v_pure hi rfl rfl (x_load8 _ s29 (arr_w hX1))
        · obtain rfl := Option.some.inj hi
          have s30 : A.tmps.getD 30 undef = .int .u8 (c.w : Int) := dep_of hdeps 6 (by kernel_rfl)
          exact v_pure hi rfl rfl (x_conv _ s30 HO.out.w)
        · obtain rfl := Option.some.inj hi
          have s25 : A.tmps.getD 25 undef = .int .i64 ((T : Nat) : Int) := dep_of hdeps 1 (by kernel_rfl)
          exact v_pure hi rfl rfl (x_assign _ s25)
        · obtain rfl := Option.some.inj hi
          have s28 : A.tmps.getD 28 undef = .int .i64 (c.r : Int) := dep_of hdeps 4 (by kernel_rfl)
          exact v_pure hi rfl rfl (x_assign _ s28)
        · obtain rfl := Option.some.inj hi
          have s31 : A.tmps.getD 31 undef = .int .i64 (c.w : Int) := dep_of hdeps 7 (by kernel_rfl)
          exact v_pure hi rfl rfl (x_assign _ s31)
      · intro w1 hB
        have HB1 := hide (HB.out.trans (hB.mono HB.out.size))
        clear hB HB HX CT
        simp only [putAll, Act.put, List.setIfInBounds_toArray, List.set_cons_succ, List.set_cons_zero]
        by_cases a1 : 1 ≤ c.r
        case neg =>
          have HR : Hid (mayB c = false) := hide (by rw [HM.out, decide_eq_false a1]; simp)
          clear HM
          have d0 : decide ((c.r : Int) < 1) = true := decide_eq_true (by omega)
          go_wp2
          go_ret
          exact ⟨ret_bool HR.out.symm, HB1.out⟩
        by_cases a2 : c.r ≤ T
        case neg =>
          have HR : Hid (mayB c = false) := hide (by rw [HM.out, decide_eq_false a2]; simp)
          clear HM
          have d0 : decide ((c.r : Int) < 1) = false := decide_eq_false (by omega)
          have d1 : decide ((c.r : Int) > (T : Int)) = true := decide_eq_true (by omega)
          go_wp2
          go_ret
          exact ⟨ret_bool HR.out.symm, HB1.out⟩
        by_cases a3 : 1 ≤ c.w
        case neg =>
          have HR : Hid (mayB c = false) := hide (by rw [HM.out, decide_eq_false a3]; simp)
          clear HM
          have d0 : decide ((c.r : Int) < 1) = false := decide_eq_false (by omega)
          have d1 : decide ((c.r : Int) > (T : Int)) = false := decide_eq_false (by omega)
          have d2 : decide ((c.w : Int) < 1) = true := decide_eq_true (by omega)
          go_wp2
          go_ret
          exact ⟨ret_bool HR.out.symm, HB1.out⟩
        by_cases a4 : c.w ≤ T
        case neg =>
          have HR : Hid (mayB c = false) := hide (by rw [HM.out, decide_eq_false a4]; simp)
          clear HM
          have d0 : decide ((c.r : Int) < 1) = false := decide_eq_false (by omega)
          have d1 : decide ((c.r : Int) > (T : Int)) = false := decide_eq_false (by omega)
          have d2 : decide ((c.w : Int) < 1) = false := decide_eq_false (by omega)
          have d3 : decide ((c.w : Int) > (T : Int)) = true := decide_eq_true (by omega)
          go_wp2
          go_ret
          exact ⟨ret_bool HR.out.symm, HB1.out⟩
        by_cases a5 : T < c.r + c.w
        case neg =>
          have HR : Hid (mayB c = false) := hide (by rw [HM.out, decide_eq_false a5]; simp)
          clear HM
          have d0 : decide ((c.r : Int) < 1) = false := decide_eq_false (by omega)
          have d1 : decide ((c.r : Int) > (T : Int)) = false := decide_eq_false (by omega)
          have d2 : decide ((c.w : Int) < 1) = false := decide_eq_false (by omega)
          have d3 : decide ((c.w : Int) > (T : Int)) = false := decide_eq_false (by omega)
          have d4 : decide ((c.r : Int) + (c.w : Int) > (T : Int)) = false := decide_eq_false (by omega)
          go_wp2
          go_ret
          exact ⟨ret_bool HR.out.symm, HB1.out⟩
        by_cases a6 : T < 2 * c.w
        · have HR : Hid (mayB c = true) := hide (by rw [HM.out, decide_eq_true a1, decide_eq_true a2, decide_eq_true a3, decide_eq_true a4, decide_eq_true a5, decide_eq_true a6]; rfl)
          clear HM
          have d0 : decide ((c.r : Int) < 1) = false := decide_eq_false (by omega)
          have d1 : decide ((c.r : Int) > (T : Int)) = false := decide_eq_false (by omega)
          have d2 : decide ((c.w : Int) < 1) = false := decide_eq_false (by omega)
          have d3 : decide ((c.w : Int) > (T : Int)) = false := decide_eq_false (by omega)
          have d4 : decide ((c.r : Int) + (c.w : Int) > (T : Int)) = true := decide_eq_true (by omega)
          have d5 : decide (2 * (c.w : Int) > (T : Int)) = true := decide_eq_true (by omega)
          go_wp2
          go_ret
          exact ⟨ret_bool HR.out.symm, HB1.out⟩
        · skip
          have HR : Hid (mayB c = false) := hide (by rw [HM.out, decide_eq_false a6]; simp)
          clear HM
          have d0 : decide ((c.r : Int) < 1) = false := decide_eq_false (by omega)
          have d1 : decide ((c.r : Int) > (T : Int)) = false := decide_eq_false (by omega)
          have d2 : decide ((c.w : Int) < 1) = false := decide_eq_false (by omega)
          have d3 : decide ((c.w : Int) > (T : Int)) = false := decide_eq_false (by omega)
          have d4 : decide ((c.r : Int) + (c.w : Int) > (T : Int)) = true := decide_eq_true (by omega)
          have d5 : decide (2 * (c.w : Int) > (T : Int)) = false := decide_eq_false (by omega)
          go_wp2
          go_ret
          exact ⟨ret_bool HR.out.symm, HB1.out⟩
set_option maxRecDepth 100000 in
set_option maxHeartbeats 3200000 in
theorem rmay_any (c : Cf) (hok : c.Ok) (w : World) :
    Calls Try.prog 85 #[.agg c.arr] w fun e w' => e = .returned (.bool (mayB c)) ∧ Below w.heap.size w w' := by
  have hsz := hok.size
  have HO := hide hok
  have HX := hide (box_new w c.arr 55)
  have HB := hide (alloc_below w (.cells c.arr 55))
  have CT := hide (fun W => rtotal_any c hok W)
  have he := hok.e
  have hr := hok.r
  have hw := hok.w
  have hT := hok.tot 8
  have HM : Hid (mayB c = (decide (1 ≤ c.e) && decide (c.e ≤ 2147483647) && fifteen c.vs 8 && decide (1 ≤ c.r) && decide (c.r ≤ totN c.vs 8) && decide (1 ≤ c.w) && decide (c.w ≤ totN c.vs 8) && decide (totN c.vs 8 < c.r + c.w) && decide (totN c.vs 8 < 2 * c.w))) := rfl
  generalize totN c.vs 8 = T at *
  clear hok
  go_enter Try.func85, Try.ntmps85
  go_wp2_with fail
  refine wp_region_vals (by kernel_rfl) [(7, .agg c.arr), (8, .int .i64 ((T : Nat) : Int)), (9, .pointer (some ⟨w.heap.size, 1, none⟩)), (10, .int .u8 (c.r : Int)), (11, .int .i64 (c.r : Int)), (12, .pointer (some ⟨w.heap.size, 2, none⟩)), (13, .int .u8 (c.w : Int)), (14, .int .i64 (c.w : Int)), (3, .int .i64 ((T : Nat) : Int)), (4, .int .i64 (c.r : Int)), (5, .int .i64 (c.w : Int))] (by kernel_rfl) rfl ?_ ?_
  · intro i o hi A w1 hB hold hdeps
    have hX1 := HX.out.belowV hB
    have hlt : i < 11 := (Array.getElem?_eq_some_iff.1 hi).1
    have hc : i = 0 ∨ i = 1 ∨ i = 2 ∨ i = 3 ∨ i = 4 ∨ i = 5 ∨ i = 6 ∨ i = 7 ∨ i = 8 ∨ i = 9 ∨ i = 10 := by omega
    clear hlt
    rcases hc with rfl | rfl | rfl | rfl | rfl | rfl | rfl | rfl | rfl | rfl | rfl
    · obtain rfl := Option.some.inj hi
      have s1 : A.tmps.getD 1 undef = .pointer (some ⟨w.heap.size, 0, none⟩) := hold 1 (by kernel_rfl)
      exact v_pure hi rfl rfl (x_loadC _ HO.out s1 hX1)
    · obtain rfl := Option.some.inj hi
      have s7 : A.tmps.getD 7 undef = .agg c.arr := dep_of hdeps 0 (by kernel_rfl)
      exact v_enter hi rfl rfl (x_call 104 _ #[.agg c.arr] _ rfl (by simp only [List.map_toArray, List.map_cons, List.map_nil, show A.eval (.tmp 7) = .agg c.arr from s7]; try rfl) en_rtotal) (CT.out w1)
    · obtain rfl := Option.some.inj hi
      have s1 : A.tmps.getD 1 undef = .pointer (some ⟨w.heap.size, 0, none⟩) := hold 1 (by kernel_rfl)
      exact v_pure hi rfl rfl (x_field1 _ s1)
    · obtain rfl := Option.some.inj hi
      have s9 : A.tmps.getD 9 undef = .pointer (some ⟨w.heap.size, 1, none⟩) := dep_of hdeps 2 (by kernel_rfl)
      exact v_pure hi rfl rfl (x_load8 _ s9 (arr_r hX1))
    · obtain rfl := Option.some.inj hi
      have s10 : A.tmps.getD 10 undef = .int .u8 (c.r : Int) := dep_of hdeps 3 (by kernel_rfl)
      exact v_pure hi rfl rfl (x_conv _ s10 HO.out.r)
    · obtain rfl := Option.some.inj hi
      have s1 : A.tmps.getD 1 undef = .pointer (some ⟨w.heap.size, 0, none⟩) := hold 1 (by kernel_rfl)
      exact v_pure hi rfl rfl (x_field2 _ s1)
    · obtain rfl := Option.some.inj hi
      have s12 : A.tmps.getD 12 undef = .pointer (some ⟨w.heap.size, 2, none⟩) := dep_of hdeps 5 (by kernel_rfl)
      exact v_pure hi rfl rfl (x_load8 _ s12 (arr_w hX1))
    · obtain rfl := Option.some.inj hi
      have s13 : A.tmps.getD 13 undef = .int .u8 (c.w : Int) := dep_of hdeps 6 (by kernel_rfl)
      exact v_pure hi rfl rfl (x_conv _ s13 HO.out.w)
    · obtain rfl := Option.some.inj hi
      have s8 : A.tmps.getD 8 undef = .int .i64 ((T : Nat) : Int) := dep_of hdeps 1 (by kernel_rfl)
      exact v_pure hi rfl rfl (x_assign _ s8)
    · obtain rfl := Option.some.inj hi
      have s11 : A.tmps.getD 11 undef = .int .i64 (c.r : Int) := dep_of hdeps 4 (by kernel_rfl)
      exact v_pure hi rfl rfl (x_assign _ s11)
    · obtain rfl := Option.some.inj hi
      have s14 : A.tmps.getD 14 undef = .int .i64 (c.w : Int) := dep_of hdeps 7 (by kernel_rfl)
      exact v_pure hi rfl rfl (x_assign _ s14)
  · intro w1 hB
    have HX1 := hide (HX.out.belowV hB)
    have HB1 := hide (HB.out.trans (hB.mono HB.out.size))
    have x0 := arr_e HX1.out
    have hlt1 := HX1.out.lt
    clear hB HB HX CT
    simp only [putAll, Act.put, List.setIfInBounds_toArray, List.set_cons_succ, List.set_cons_zero]
    go_wp2
    go_loop [6] (fun i => ∃ k : Nat, k ≤ 8 ∧ i = .int .i64 k ∧ Hid (fifteen c.vs k = true)) (fun i => 8 - (intOf i).toNat)
    case atStart => exact ⟨0, by omega, rfl, rfl⟩
    case round =>
      obtain ⟨k, hk, rfl, HF⟩ := hrel
      by_cases hlt : k < 8
      · have hat := box_at HO.out HX1.out k hlt
        have hkI : (k : Int) < 8 := by omega
        have hv := HO.out.at k
        have HN := hide (fifteen_no c.vs k)
        have HS : Hid (fifteen c.vs (k + 1) = (fifteen c.vs k && decide (c.vs.getD k 0 ≤ 15))) := rfl
        generalize c.vs.getD k 0 = x at *
        by_cases hx : x ≤ 15
        · have d3 : decide ((x : Int) > 15) = false := decide_eq_false (by omega)
          have HS2 : Hid (fifteen c.vs (k + 1) = true) := hide (by rw [HS.out, HF.out, decide_eq_true hx]; rfl)
          clear HS HN
          go_wp2
          go_round
          case rel => exact ⟨k + 1, by omega, by go_num, HS2⟩
          case measure => simp [intOf]; omega
        · have d3 : decide ((x : Int) > 15) = true := decide_eq_true (by omega)
          have HR : Hid (mayB c = false) := hide (by
            have := HN.out hx (7 - k)
            rw [show k + 1 + (7 - k) = 8 by omega] at this
            rw [HM.out, this]; simp)
          clear HS HN HM
          go_wp2
          go_ret
          exact ⟨ret_bool HR.out.symm, HB1.out⟩
      · obtain rfl : k = 8 := by omega
        rw [HF.out] at HM
        by_cases b1 : 1 ≤ c.e
        case neg =>
          have HR : Hid (mayB c = false) := hide (by rw [HM.out, decide_eq_false b1]; simp)
          clear HM
          have f0 : decide ((c.e : Int) ≥ 1) = false := decide_eq_false (by omega)
          go_wp2
          go_ret
          exact ⟨ret_bool HR.out.symm, HB1.out⟩
        by_cases b2 : c.e ≤ 2147483647
        case neg =>
          have HR : Hid (mayB c = false) := hide (by rw [HM.out, decide_eq_false b2]; simp)
          clear HM
          have f0 : decide ((c.e : Int) ≥ 1) = true := decide_eq_true (by omega)
          have f1 : decide ((c.e : Int) ≤ 2147483647) = false := decide_eq_false (by omega)
          go_wp2
          go_ret
          exact ⟨ret_bool HR.out.symm, HB1.out⟩
        by_cases a1 : 1 ≤ c.r
        case neg =>
          have HR : Hid (mayB c = false) := hide (by rw [HM.out, decide_eq_false a1]; simp)
          clear HM
          have f0 : decide ((c.e : Int) ≥ 1) = true := decide_eq_true (by omega)
          have f1 : decide ((c.e : Int) ≤ 2147483647) = true := decide_eq_true (by omega)
          have f2 : decide ((c.r : Int) ≥ 1) = false := decide_eq_false (by omega)
          go_wp2
          go_ret
          exact ⟨ret_bool HR.out.symm, HB1.out⟩
        by_cases a3 : 1 ≤ c.w
        case neg =>
          have HR : Hid (mayB c = false) := hide (by rw [HM.out, decide_eq_false a3]; simp)
          clear HM
          have f0 : decide ((c.e : Int) ≥ 1) = true := decide_eq_true (by omega)
          have f1 : decide ((c.e : Int) ≤ 2147483647) = true := decide_eq_true (by omega)
          have f2 : decide ((c.r : Int) ≥ 1) = true := decide_eq_true (by omega)
          have f3 : decide ((c.w : Int) ≥ 1) = false := decide_eq_false (by omega)
          go_wp2
          go_ret
          exact ⟨ret_bool HR.out.symm, HB1.out⟩
        by_cases a2 : c.r ≤ T
        case neg =>
          have HR : Hid (mayB c = false) := hide (by rw [HM.out, decide_eq_false a2]; simp)
          clear HM
          have f0 : decide ((c.e : Int) ≥ 1) = true := decide_eq_true (by omega)
          have f1 : decide ((c.e : Int) ≤ 2147483647) = true := decide_eq_true (by omega)
          have f2 : decide ((c.r : Int) ≥ 1) = true := decide_eq_true (by omega)
          have f3 : decide ((c.w : Int) ≥ 1) = true := decide_eq_true (by omega)
          have f4 : decide ((c.r : Int) ≤ (T : Int)) = false := decide_eq_false (by omega)
          go_wp2
          go_ret
          exact ⟨ret_bool HR.out.symm, HB1.out⟩
        by_cases a4 : c.w ≤ T
        case neg =>
          have HR : Hid (mayB c = false) := hide (by rw [HM.out, decide_eq_false a4]; simp)
          clear HM
          have f0 : decide ((c.e : Int) ≥ 1) = true := decide_eq_true (by omega)
          have f1 : decide ((c.e : Int) ≤ 2147483647) = true := decide_eq_true (by omega)
          have f2 : decide ((c.r : Int) ≥ 1) = true := decide_eq_true (by omega)
          have f3 : decide ((c.w : Int) ≥ 1) = true := decide_eq_true (by omega)
          have f4 : decide ((c.r : Int) ≤ (T : Int)) = true := decide_eq_true (by omega)
          have f5 : decide ((c.w : Int) ≤ (T : Int)) = false := decide_eq_false (by omega)
          go_wp2
          go_ret
          exact ⟨ret_bool HR.out.symm, HB1.out⟩
        by_cases a5 : T < c.r + c.w
        case neg =>
          have HR : Hid (mayB c = false) := hide (by rw [HM.out, decide_eq_false a5]; simp)
          clear HM
          have f0 : decide ((c.e : Int) ≥ 1) = true := decide_eq_true (by omega)
          have f1 : decide ((c.e : Int) ≤ 2147483647) = true := decide_eq_true (by omega)
          have f2 : decide ((c.r : Int) ≥ 1) = true := decide_eq_true (by omega)
          have f3 : decide ((c.w : Int) ≥ 1) = true := decide_eq_true (by omega)
          have f4 : decide ((c.r : Int) ≤ (T : Int)) = true := decide_eq_true (by omega)
          have f5 : decide ((c.w : Int) ≤ (T : Int)) = true := decide_eq_true (by omega)
          have f6 : decide ((c.r : Int) + (c.w : Int) > (T : Int)) = false := decide_eq_false (by omega)
          go_wp2
          go_ret
          exact ⟨ret_bool HR.out.symm, HB1.out⟩
        by_cases a6 : T < 2 * c.w
        · have HR : Hid (mayB c = true) := hide (by rw [HM.out, decide_eq_true b1, decide_eq_true b2, decide_eq_true a1, decide_eq_true a2, decide_eq_true a3, decide_eq_true a4, decide_eq_true a5, decide_eq_true a6]; rfl)
          clear HM
          have f0 : decide ((c.e : Int) ≥ 1) = true := decide_eq_true (by omega)
          have f1 : decide ((c.e : Int) ≤ 2147483647) = true := decide_eq_true (by omega)
          have f2 : decide ((c.r : Int) ≥ 1) = true := decide_eq_true (by omega)
          have f3 : decide ((c.w : Int) ≥ 1) = true := decide_eq_true (by omega)
          have f4 : decide ((c.r : Int) ≤ (T : Int)) = true := decide_eq_true (by omega)
          have f5 : decide ((c.w : Int) ≤ (T : Int)) = true := decide_eq_true (by omega)
          have f6 : decide ((c.r : Int) + (c.w : Int) > (T : Int)) = true := decide_eq_true (by omega)
          have f7 : decide (2 * (c.w : Int) > (T : Int)) = true := decide_eq_true (by omega)
          go_wp2
          go_ret
          exact ⟨ret_bool HR.out.symm, HB1.out⟩
        · skip
          have HR : Hid (mayB c = false) := hide (by rw [HM.out, decide_eq_false a6]; simp)
          clear HM
          have f0 : decide ((c.e : Int) ≥ 1) = true := decide_eq_true (by omega)
          have f1 : decide ((c.e : Int) ≤ 2147483647) = true := decide_eq_true (by omega)
          have f2 : decide ((c.r : Int) ≥ 1) = true := decide_eq_true (by omega)
          have f3 : decide ((c.w : Int) ≥ 1) = true := decide_eq_true (by omega)
          have f4 : decide ((c.r : Int) ≤ (T : Int)) = true := decide_eq_true (by omega)
          have f5 : decide ((c.w : Int) ≤ (T : Int)) = true := decide_eq_true (by omega)
          have f6 : decide ((c.r : Int) + (c.w : Int) > (T : Int)) = true := decide_eq_true (by omega)
          have f7 : decide (2 * (c.w : Int) > (T : Int)) = false := decide_eq_false (by omega)
          go_wp2
          go_ret
          exact ⟨ret_bool HR.out.symm, HB1.out⟩
end
section
/-- A name: node, boot, number. -/
abbrev TxP := Int × Int × Int
/-- A name whose numbers fit their types. -/
def txOk (t : TxP) : Prop := (0 ≤ t.1 ∧ t.1 < 256) ∧ (0 ≤ t.2.1 ∧ t.2.1 < 4294967296) ∧ (0 ≤ t.2.2 ∧ t.2.2 < 4294967296)
/-- May a number from 1 on be? -/
def countB (n : Int) : Bool := decide (1 ≤ n) && decide (n ≤ 2147483647)
def txMayB (t : TxP) : Bool := decide (t.1 < 8) && (countB t.2.1 && countB t.2.2)
def regMayB (g : Int × Int) : Bool := countB g.1 && countB g.2

/-- The order of two numbers. -/
def cmpF (a b : Int) : Int := if a < b then -1 else if b < a then 1 else 0
/-- The first that is not 0. -/
def orF (a b : Int) : Int := if a = 0 then b else a
/-- The order of lists of numbers: the first unlike ones count. -/
def lexF : List Int → List Int → Int
  | x :: xs, y :: ys => orF (cmpF x y) (lexF xs ys)
  | _, _ => 0
def txL (t : TxP) : List Int := [t.1, t.2.1, t.2.2]
def txsF (a b : TxP) : Int := lexF (txL a) (txL b)
theorem cmpF_neg (a b : Int) : cmpF b a = - cmpF a b := by unfold cmpF; split <;> split <;> omega
theorem cmpF_zero (a b : Int) : cmpF a b = 0 ↔ a = b := by unfold cmpF; split <;> (try split) <;> omega
theorem cmpF_rng (a b : Int) : cmpF a b = -1 ∧ a < b ∨ cmpF a b = 0 ∧ a = b ∨ cmpF a b = 1 ∧ b < a := by unfold cmpF; split <;> (try split) <;> omega
theorem lexF_neg : ∀ a b : List Int, lexF b a = - lexF a b
  | [], [] => by simp [lexF]
  | [], _ :: _ => by simp [lexF]
  | _ :: _, [] => by simp [lexF]
  | x :: xs, y :: ys => by
    have h := lexF_neg xs ys
    have h2 := cmpF_neg x y
    unfold lexF orF
    split <;> split <;> omega
theorem lexF_zero : ∀ a b : List Int, a.length = b.length → (lexF a b = 0 ↔ a = b)
  | [], [], _ => by simp [lexF]
  | [], _ :: _, h => by simp at h
  | _ :: _, [], h => by simp at h
  | x :: xs, y :: ys, h => by
    have h1 := lexF_zero xs ys (by simpa using h)
    have h2 := cmpF_zero x y
    unfold lexF orF
    split
    · rw [h1]; simp; intro _; omega
    · simp; constructor
      · intro h3; omega
      · intro h3; omega
theorem lexF_trans : ∀ a b c : List Int, a.length = b.length → b.length = c.length → lexF a b ≤ 0 → lexF b c ≤ 0 → lexF a c ≤ 0
  | [], _, _, _, _, _, _ => by simp [lexF]
  | _ :: _, [], _, h, _, _, _ => by simp at h
  | _ :: _, _ :: _, [], _, h, _, _ => by simp at h
  | x :: xs, y :: ys, z :: zs, h1, h2, h3, h4 => by
    have h := lexF_trans xs ys zs (by simpa using h1) (by simpa using h2)
    have a := cmpF_rng x y
    have b := cmpF_rng y z
    have c := cmpF_rng x z
    unfold lexF orF at h3 h4 ⊢
    split at h3 <;> split at h4 <;> split <;> first | omega | (apply h <;> omega)
theorem txL_inj {a b : TxP} (h : txL a = txL b) : a = b := by
  obtain ⟨a1, a2, a3⟩ := a
  obtain ⟨b1, b2, b3⟩ := b
  simp [txL] at h
  obtain ⟨rfl, rfl, rfl⟩ := h
  rfl
theorem txsF_zero (a b : TxP) : txsF a b = 0 ↔ a = b := by
  unfold txsF
  rw [lexF_zero (txL a) (txL b) rfl]
  exact ⟨txL_inj, fun h => by rw [h]⟩
end
section
def zero8i : List Int := [0, 0, 0, 0, 0, 0, 0, 0]
/-- The bytes ahead of the first 0. -/
def aheadF : List Int → List Int
  | [] => []
  | x :: r => if x = 0 then [] else x :: aheadF r
/-- KeyOf. -/
def keyOfF (xs : List Int) : List Int × Int := if xs.length = 0 ∨ 8 < xs.length ∨ 0 ∈ xs then (zero8i, 1) else (xs ++ List.replicate (8 - xs.length) 0, 0)
/-- Name. -/
def nameF (k : List Int) : List Int × Bool := if aheadF k = [] ∨ k ≠ aheadF k ++ List.replicate (8 - (aheadF k).length) 0 then ([], false) else (aheadF k, true)

theorem aheadF_le : ∀ k : List Int, (aheadF k).length ≤ k.length
  | [] => by simp [aheadF]
  | x :: r => by
    have := aheadF_le r
    unfold aheadF
    split <;> simp; omega
theorem aheadF_no : ∀ k : List Int, 0 ∉ aheadF k
  | [] => by simp [aheadF]
  | x :: r => by
    have := aheadF_no r
    unfold aheadF
    split
    · simp
    · simp only [List.mem_cons, not_or]
      exact ⟨fun h => by omega, this⟩
theorem aheadF_take : ∀ k : List Int, aheadF k = k.take (aheadF k).length
  | [] => by simp [aheadF]
  | x :: r => by
    have := aheadF_take r
    unfold aheadF
    split
    · simp
    · simp only [List.length_cons, List.take_succ_cons]
      rw [← this]
theorem aheadF_sub (k : List Int) : ∀ c ∈ aheadF k, c ∈ k := by
  intro c hc
  rw [aheadF_take k] at hc
  exact List.mem_of_mem_take hc
/-- No 0 stands there: all are ahead. -/
theorem aheadF_all : ∀ k : List Int, 0 ∉ k → aheadF k = k
  | [], _ => by simp [aheadF]
  | x :: r, h => by
    simp only [List.mem_cons, not_or] at h
    unfold aheadF
    rw [if_neg (fun e => h.1 e.symm), aheadF_all r h.2]
theorem keyOfF_fst (xs : List Int) : (keyOfF xs).1.length = 8 := by
  unfold keyOfF
  split
  · rfl
  · simp; omega
/-- The program's way to Name: by the key of the bytes ahead. -/
theorem nameF_by_key (k : List Int) (hl : k.length = 8) : nameF k = if (keyOfF (aheadF k)).2 ≠ 0 ∨ (keyOfF (aheadF k)).1 ≠ k then ([], false) else (aheadF k, true) := by
  have h2 := aheadF_le k
  have h3 := aheadF_no k
  unfold nameF keyOfF
  by_cases h : aheadF k = []
  · simp [h]
  · have h1 : (aheadF k).length ≠ 0 := fun e => h (List.eq_nil_of_length_eq_zero e)
    have hn : ¬ ((aheadF k).length = 0 ∨ 8 < (aheadF k).length ∨ 0 ∈ aheadF k) := by
      simp only [not_or]; exact ⟨h1, by omega, h3⟩
    rw [if_neg hn]
    by_cases h4 : k = aheadF k ++ List.replicate (8 - (aheadF k).length) 0
    · rw [if_neg (by simp only [not_or, Classical.not_not]; exact ⟨h, h4⟩), if_neg (by simp only [not_or, Classical.not_not]; exact ⟨by trivial, h4.symm⟩)]
    · rw [if_pos (.inr h4), if_pos (.inr (fun e => h4 e.symm))]

/-- What a search of the byte 0 gives. -/
theorem index_zero : ∀ xs : List Int, (∀ c ∈ xs, 0 ≤ c ∧ c < 256) → Lib.indexByte (Lib.bytesOf xs) 0 = if 0 ∈ xs then ((aheadF xs).length : Int) else -1
  | [], _ => by simp [Lib.bytesOf, Lib.indexByte]
  | x :: r, h => by
    have ih := index_zero r (fun c hc => h c (List.mem_cons_of_mem _ hc))
    have hx := h x (List.mem_cons_self ..)
    have e : Lib.bytesOf (x :: r) = UInt8.ofNat x.toNat :: Lib.bytesOf r := rfl
    rw [e]
    unfold Lib.indexByte aheadF
    by_cases h0 : x = 0
    · subst h0; simp
    · have hne : (UInt8.ofNat x.toNat == 0) = false := by
        rw [beq_eq_false_iff_ne]
        intro e2
        have := congrArg UInt8.toNat e2
        rw [UInt8.toNat_ofNat'] at this
        simp at this
        omega
      rw [hne, ih]
      have h0' : ¬ (0 : Int) = x := fun e => h0 e.symm
      by_cases hm : (0 : Int) ∈ r
      · have : ((((aheadF r).length : Int)) == -1) = false := by rw [beq_eq_false_iff_ne]; omega
        simp [hm, h0, this]
      · simp [hm, h0']
/-- What comparing bytes gives. -/
theorem compare_lex : ∀ a b : List Int, a.length = b.length → (∀ c ∈ a, 0 ≤ c ∧ c < 256) → (∀ c ∈ b, 0 ≤ c ∧ c < 256) → Lib.compareBytes (Lib.bytesOf a) (Lib.bytesOf b) = lexF a b
  | [], [], _, _, _ => by simp [Lib.bytesOf, Lib.compareBytes, lexF]
  | [], _ :: _, h, _, _ => by simp at h
  | _ :: _, [], h, _, _ => by simp at h
  | x :: xs, y :: ys, h, ha, hb => by
    have ih := compare_lex xs ys (by simpa using h) (fun c hc => ha c (List.mem_cons_of_mem _ hc)) (fun c hc => hb c (List.mem_cons_of_mem _ hc))
    have hx := ha x (List.mem_cons_self ..)
    have hy := hb y (List.mem_cons_self ..)
    have e1 : Lib.bytesOf (x :: xs) = UInt8.ofNat x.toNat :: Lib.bytesOf xs := rfl
    have e2 : Lib.bytesOf (y :: ys) = UInt8.ofNat y.toNat :: Lib.bytesOf ys := rfl
    have hlt : ∀ p q : Int, 0 ≤ p → p < 256 → 0 ≤ q → q < 256 → (UInt8.ofNat p.toNat < UInt8.ofNat q.toNat ↔ p < q) := by
      intro p q p0 p1 q0 q1
      rw [UInt8.lt_iff_toNat_lt, UInt8.toNat_ofNat', UInt8.toNat_ofNat']
      omega
    have c := cmpF_rng x y
    rw [e1, e2]
    unfold Lib.compareBytes lexF orF
    rw [ih]
    have l1 := hlt x y hx.1 hx.2 hy.1 hy.2
    have l2 := hlt y x hy.1 hy.2 hx.1 hx.2
    rcases c with ⟨c1, c2⟩ | ⟨c1, c2⟩ | ⟨c1, c2⟩
    · simp [l1, c1, c2]
    · subst c2; simp [c1]
    · have c3 : ¬ x < y := by omega
      simp [l1, l2, c1, c2, c3]
end
end Go.Proofs.Ytodomdmmffooaaa
