/-
  Walks of the reference's Of, Total, Voters, part. Own work.
-/
import Derived.Test.YtnljibmdcknmeaaDoorVtMay
import Derived.Test.YtnljibmdcknmeaaDoorRSets
namespace Go.Proofs.YtnljibmdcknmeaaDoor
open Go.RowKit

theorem arr_at {c : Cf} (h : c.Ok) (k : Nat) (hk : k < 8) : c.arr[3 + k]? = some (.int .u8 ((c.vs.getD k 0 : Nat) : Int)) := by
  have hl : k < c.vs.length := by rw [h.l]; exact hk
  rw [show 3 + k = k + 1 + 1 + 1 by omega]
  simp [Cf.arr, Cf.cells, votL, List.getD, hl]
theorem box_at {w : World} {b : Nat} {c : Cf} {t : TypeId} (h : c.Ok) (hb : Box w b c.arr t) (k : Nat) (hk : k < 8) : w.cell? ⟨b, 3 + k, none⟩ = some (.int .u8 ((c.vs.getD k 0 : Nat) : Int)) := hb.cell (3 + k) _ (arr_at h k hk)
set_option maxHeartbeats 400000 in
theorem rof_any (c : Cf) (s : Nat) (hok : c.Ok) (hs : s < 18446744073709551616) (w : World) :
    Calls Tryd.prog 14 #[.agg c.arr, .int .u64 ((s : Nat) : Int)] w fun e w' => e = .returned (.int .i64 ((ofN c.vs s 8 : Nat) : Int)) ∧ Below w.heap.size w w' := by
  have hsz := hok.size
  have HO := hide hok
  have HB := hide (alloc_below w (.cells c.arr 25))
  clear hok
  go_enter Tryd.func14, Tryd.ntmps14
  go_wp2
  go_loop [5, 6] (fun x i => ∃ k : Nat, k ≤ 8 ∧ i = .int .i64 k ∧ x = .int .i64 ((ofN c.vs s k : Nat) : Int)) (fun _ i => 8 - (intOf i).toNat)
  case atStart => exact ⟨0, by omega, rfl, rfl⟩
  case round =>
    obtain ⟨k, hk, rfl, rfl⟩ := hrel
    by_cases hlt : k < 8
    · have hat := arr_at HO.out k hlt
      have hv := HO.out.at k
      have hu := HO.out.of s k
      have hkI : (k : Int) < 8 := by omega
      have CH := hide (fun w => rhas_in s k hs (by omega) w)
      have HE : Hid (ofN c.vs s (k + 1) = ofN c.vs s k + (if s.testBit k then c.vs.getD k 0 else 0)) := rfl
      generalize c.vs.getD k 0 = x at *
      generalize ofN c.vs s k = o at *
      cases hb : s.testBit k
      · rw [hb] at CH HE
        go_wp2_with (go_at_call 40; refine (CH.out _).mono ?_; rintro e w' ⟨rfl, hw'⟩; rw [hw']; clear hw')
        go_round
        case rel => exact ⟨k + 1, by omega, by go_num, by rw [HE.out]; simp⟩
        case measure => simp [intOf]; omega
      · rw [hb] at CH HE
        go_wp2_with (go_at_call 40; refine (CH.out _).mono ?_; rintro e w' ⟨rfl, hw'⟩; rw [hw']; clear hw')
        go_round
        case rel => exact ⟨k + 1, by omega, by go_num, by rw [HE.out]; simp⟩
        case measure => simp [intOf]; omega
    · obtain rfl : k = 8 := by omega
      go_wp2
      go_ret
      exact ⟨rfl, HB.out⟩
set_option maxHeartbeats 400000 in
theorem rtotal_any (c : Cf) (hok : c.Ok) (w : World) :
    Calls Tryd.prog 16 #[.agg c.arr] w fun e w' => e = .returned (.int .i64 ((totN c.vs 8 : Nat) : Int)) ∧ Below w.heap.size w w' := by
  have hsz := hok.size
  have HO := hide hok
  have HB := hide (alloc_below w (.cells c.arr 25))
  clear hok
  go_enter Tryd.func16, Tryd.ntmps16
  go_wp2
  go_loop [3, 4] (fun x i => ∃ k : Nat, k ≤ 8 ∧ i = .int .i64 k ∧ x = .int .i64 ((totN c.vs k : Nat) : Int)) (fun _ i => 8 - (intOf i).toNat)
  case atStart => exact ⟨0, by omega, rfl, rfl⟩
  case round =>
    obtain ⟨k, hk, rfl, rfl⟩ := hrel
    by_cases hlt : k < 8
    · have hat := arr_at HO.out k hlt
      have hv := HO.out.at k
      have hu := HO.out.tot k
      have hkI : (k : Int) < 8 := by omega
      have HE : Hid (totN c.vs (k + 1) = totN c.vs k + c.vs.getD k 0) := rfl
      generalize c.vs.getD k 0 = x at *
      generalize totN c.vs k = o at *
      go_wp2
      go_round
      case rel => exact ⟨k + 1, by omega, by go_num, by rw [HE.out]; simp⟩
      case measure => simp [intOf]; omega
    · obtain rfl : k = 8 := by omega
      go_wp2
      go_ret
      exact ⟨rfl, HB.out⟩
set_option maxHeartbeats 400000 in
theorem rvoters_any (c : Cf) (hok : c.Ok) (w : World) :
    Calls Tryd.prog 18 #[.agg c.arr] w fun e w' => e = .returned (.int .u64 ((votN c.vs 8 : Nat) : Int)) ∧ Below w.heap.size w w' := by
  have hsz := hok.size
  have HO := hide hok
  have HB := hide (alloc_below w (.cells c.arr 25))
  clear hok
  go_enter Tryd.func18, Tryd.ntmps18
  go_wp2
  go_loop [3, 4] (fun x i => ∃ k : Nat, k ≤ 8 ∧ i = .int .i64 k ∧ x = .int .u64 ((votN c.vs k : Nat) : Int)) (fun _ i => 8 - (intOf i).toNat)
  case atStart => exact ⟨0, by omega, rfl, rfl⟩
  case round =>
    obtain ⟨k, hk, rfl, rfl⟩ := hrel
    by_cases hlt : k < 8
    · have hat := arr_at HO.out k hlt
      have hkI : (k : Int) < 8 := by omega
      have hu : votN c.vs k < 18446744073709551616 := Nat.lt_of_lt_of_le (vot_lt c.vs k) (by have := Nat.pow_le_pow_right (n := 2) (by decide) hk; omega)
      have CH := hide (fun w => rwith_in (votN c.vs k) k hu (by omega) w)
      have HE : Hid (votN c.vs (k + 1) = if 0 < c.vs.getD k 0 then withN (votN c.vs k) k else votN c.vs k) := rfl
      generalize c.vs.getD k 0 = x at *
      by_cases hb : 0 < x
      · rw [if_pos hb] at HE
        have hx : decide ((x : Int) > 0) = true := decide_eq_true (by omega)
        go_wp2_with (go_at_call 42; refine (CH.out _).mono ?_; rintro e w' ⟨rfl, hw'⟩; rw [hw']; clear hw')
        go_round
        case rel => exact ⟨k + 1, by omega, by go_num, by rw [HE.out]⟩
        case measure => simp [intOf]; omega
      · rw [if_neg hb] at HE
        obtain rfl : x = 0 := by omega
        go_wp2
        go_round
        case rel => exact ⟨k + 1, by omega, by go_num, by rw [HE.out]⟩
        case measure => simp [intOf]; omega
    · obtain rfl : k = 8 := by omega
      go_wp2
      go_ret
      exact ⟨rfl, HB.out⟩
/-- A part, as far as it has been looked at. -/
def partTo (a b k : Nat) : Bool := (List.range k).all (fun i => !a.testBit i || b.testBit i)
theorem partTo_step (a b k : Nat) : partTo a b (k + 1) = (partTo a b k && (!a.testBit k || b.testBit k)) := by simp [partTo, List.range_succ]
theorem partTo_no (a b k : Nat) (hk : k < 64) (ha : a.testBit k = true) (hb : b.testBit k = false) : partB a b = false := by
  unfold partB
  rw [List.all_eq_false]
  exact ⟨k, by simp [hk], by simp [ha, hb]⟩
set_option maxHeartbeats 400000 in
theorem rpart_any (a b : Nat) (ha : a < 18446744073709551616) (hb : b < 18446744073709551616) (w : World) :
    Calls Tryd.prog 45 #[.int .u64 ((a : Nat) : Int), .int .u64 ((b : Nat) : Int)] w fun e w' => e = .returned (.bool (partB a b)) ∧ w' = w := by
  go_enter Tryd.func45, Tryd.ntmps45
  go_wp2
  go_loop [5] (fun i => ∃ k : Nat, k ≤ 64 ∧ i = .int .i64 k ∧ Hid (partTo a b k = true)) (fun i => 64 - (intOf i).toNat)
  case atStart => exact ⟨0, by omega, rfl, rfl⟩
  case round =>
    obtain ⟨k, hk, rfl, HP⟩ := hrel
    by_cases hlt : k < 64
    · have CA := hide (fun w => rhas_in a k ha hlt w)
      have CB := hide (fun w => rhas_in b k hb hlt w)
      have HS := hide (partTo_step a b k)
      rw [HP.out] at HS
      have HN := hide (partTo_no a b k hlt)
      cases hx : a.testBit k
      · rw [hx] at CA HS
        go_wp2_with (go_at_call 40; refine (CA.out _).mono ?_; rintro e w' ⟨rfl, hw'⟩; rw [hw']; clear hw')
        go_round
        case rel => exact ⟨k + 1, by omega, by go_num, by rw [HS.out]; rfl⟩
        case measure => simp [intOf]; omega
      · rw [hx] at CA HS HN
        cases hy : b.testBit k
        · rw [hy] at CB HN
          have HN2 : Hid (partB a b = false) := hide (HN.out rfl rfl)
          clear HN
          go_wp2_with (first | (go_at_call 40; refine (CA.out _).mono ?_; rintro e w' ⟨rfl, hw'⟩; rw [hw']; clear hw' CA) | (go_at_call 40; refine (CB.out _).mono ?_; rintro e w' ⟨rfl, hw'⟩; rw [hw']; clear hw' CB))
          go_ret
          exact ⟨ret_bool HN2.out.symm, rfl⟩
        · rw [hy] at CB HS
          go_wp2_with (first | (go_at_call 40; refine (CA.out _).mono ?_; rintro e w' ⟨rfl, hw'⟩; rw [hw']; clear hw' CA) | (go_at_call 40; refine (CB.out _).mono ?_; rintro e w' ⟨rfl, hw'⟩; rw [hw']; clear hw' CB))
          go_round
          case rel => exact ⟨k + 1, by omega, by go_num, by rw [HS.out]; rfl⟩
          case measure => simp [intOf]; omega
    · obtain rfl : k = 64 := by omega
      have HQ : Hid (partB a b = true) := HP
      go_wp2
      go_ret
      exact ⟨ret_bool HQ.out.symm, rfl⟩
end Go.Proofs.YtnljibmdcknmeaaDoor
