/-
  Walks of the program's and the reference's functions on numbers alone (Fold, Unfold, Turn, Next, power, only, Has, With, Without, trailing zeros). Own work.
-/
import Derived.Test.YtdfoclmkhhmdbaaDoorProg
import Derived.WalkKit
import Derived.WalkSpells
import Derived.WalkLawsBesides
import Derived.Test.YtdfoclmkhhmdbaaDoorPlain
namespace Go.Proofs.YtdfoclmkhhmdbaaDoor
open Go.RowKit
theorem hide {p : Prop} (h : p) : Hid p := h
theorem ret_int {k : IntKind} {a b : Int} (h : a = b) : Ending.returned (.int k a) = .returned (.int k b) := by rw [h]
theorem ret_bool {a b : Bool} (h : a = b) : Ending.returned (.bool a) = .returned (.bool b) := by rw [h]

theorem power_any (n : Int) (h1 : n ≤ 9223372036854775807) (w : World) :
    Calls Tryd.prog 38 #[.int .i64 n] w fun e w' => e = .returned (.int .u64 (pw n.toNat)) ∧ w' = w := by
  go_enter Tryd.func38, Tryd.ntmps38
  go_wp2
  go_loop [3, 4] (fun p i => ∃ k : Nat, (k ≤ n ∨ k = 0) ∧ i = .int .i64 k ∧ p = .int .u64 (pw k)) (fun _ i => n.toNat - (intOf i).toNat)
  case atStart => exact ⟨0, Or.inr rfl, rfl, rfl⟩
  case round =>
    obtain ⟨k, hk, rfl, rfl⟩ := hrel
    by_cases hlt : (k : Int) < n
    · go_wp2
      go_round
      case rel => exact ⟨k + 1, by omega, by go_num, by rw [pw_succ]⟩
      case measure => simp [intOf]; omega
    · go_wp2
      go_ret
      exact ⟨ret_int (by rw [show n.toNat = k by omega]), rfl⟩

theorem only_in (n : Nat) (h1 : n < 64) (w : World) :
    Calls Tryd.prog 41 #[.int .i64 n] w fun e w' => e = .returned (.int .u64 (((2 ^ n : Nat) : Int))) ∧ w' = w := by
  have H : Hid (IntKind.u64.wrap ((2 : Int) ^ n) = ((2 ^ n : Nat) : Int)) := by
    refine hide ?_
    rw [IntKind.wrap_u64]
    exact pw_lt n h1
  go_enter Tryd.func41, Tryd.ntmps41
  go_wp2
  go_ret
  exact ⟨ret_int H.out, rfl⟩
theorem only_out (n : Int) (h1 : n < 0 ∨ 64 ≤ n) (w : World) :
    Calls Tryd.prog 41 #[.int .i64 n] w fun e w' => e = .returned (.int .u64 0) ∧ w' = w := by
  rcases h1 with h | h
  all_goals
    go_enter Tryd.func41, Tryd.ntmps41
    go_wp2
    go_ret
    exact ⟨rfl, rfl⟩

theorem fold_any (n : Int) (h : -9223372036854775808 ≤ n) (h2 : n ≤ 9223372036854775807) (w : World) :
    Calls Tryd.prog 21 #[.int .i64 n] w fun e w' => e = .returned (.int .u64 (foldS n)) ∧ w' = w := by
  go_enter Tryd.func21, Tryd.ntmps21
  go_wp2
  go_ret
  exact ⟨ret_int (fold_bits n h h2), rfl⟩
theorem rfold_any (n : Int) (h : -9223372036854775808 ≤ n) (h2 : n ≤ 9223372036854775807) (w : World) :
    Calls Tryd.prog 22 #[.int .i64 n] w fun e w' => e = .returned (.int .u64 (foldS n)) ∧ w' = w := by
  by_cases hn : 0 ≤ n
  · go_enter Tryd.func22, Tryd.ntmps22
    go_wp2
    go_ret
    exact ⟨ret_int (foldS_pos hn).symm, rfl⟩
  · go_enter Tryd.func22, Tryd.ntmps22
    go_wp2
    go_ret
    exact ⟨ret_int (foldS_neg (by omega)).symm, rfl⟩

theorem unfold_bits64 (n : Int) (h1 : 0 ≤ n) (h2 : n ≤ 18446744073709551615) : wrap64 (bits BinOp.xor IntKind.u64 (n / 2) (IntKind.u64.wrap (-bits BinOp.and IntKind.u64 n 1))) = unfoldS n := by
  unfold wrap64; exact unfold_bits n h1 h2
theorem unfold_any (n : Int) (h : 0 ≤ n) (h2 : n ≤ 18446744073709551615) (w : World) :
    Calls Tryd.prog 23 #[.int .u64 n] w fun e w' => e = .returned (.int .i64 (unfoldS n)) ∧ w' = w := by
  go_enter Tryd.func23, Tryd.ntmps23
  go_wp2
  go_ret
  exact ⟨ret_int (unfold_bits64 n h h2), rfl⟩
theorem runfold_any (n : Int) (h : 0 ≤ n) (h2 : n ≤ 18446744073709551615) (w : World) :
    Calls Tryd.prog 24 #[.int .u64 n] w fun e w' => e = .returned (.int .i64 (unfoldS n)) ∧ w' = w := by
  by_cases hn : n % 2 = 0
  · have hb : (n % 2 == 0) = true := by simp [hn]
    have H : Hid (n / 2 = unfoldS n) := hide (by simp [unfoldS, hn])
    clear hn
    go_enter Tryd.func24, Tryd.ntmps24
    go_wp2
    go_ret
    exact ⟨ret_int H.out, rfl⟩
  · have hb : (n % 2 == 0) = false := by simp [hn]
    have H : Hid (-(n / 2) - 1 = unfoldS n) := hide (by simp [unfoldS, hn])
    clear hn
    go_enter Tryd.func24, Tryd.ntmps24
    go_wp2
    go_ret
    exact ⟨ret_int H.out, rfl⟩

/-- By how many places: from 0 to 63. -/
def places (b : Int) : Nat := (b % 64).toNat
theorem places_lt (b : Int) : places b < 64 := by unfold places; omega
theorem places_bits (b : Int) : bits BinOp.and IntKind.u64 (IntKind.u64.wrap b) 63 = ((places b : Nat) : Int) := by
  rw [u64_and _ _ (by rw [IntKind.wrap_u64]; omega) (by rw [IntKind.wrap_u64]; omega) (by decide) (by decide), IntKind.wrap_u64]
  have := nat_mask6 (b % 18446744073709551616).toNat
  show (((b % 18446744073709551616).toNat &&& 63 : Nat) : Int) = _
  rw [this]
  unfold places
  omega
theorem rotate_any (n : Nat) (b : Int) (h2 : n < 18446744073709551616) (w : World) :
    Calls Tryd.prog 40 #[.int .u64 n, .int .i64 b] w fun e w' => e = .returned (.int .u64 ((rotl n (places b) : Nat) : Int)) ∧ w' = w := by
  have hr := places_bits b
  have hr2 := places_lt b
  generalize places b = r at *
  have H : Hid (bits BinOp.or IntKind.u64 (IntKind.u64.wrap ((n : Int) * 2 ^ r)) ((n : Int) / 2 ^ (64 - r)) = ((rotl n r : Nat) : Int)) := by
    refine hide ?_
    have := rot_bits n r h2 hr2
    rw [IntKind.wrap_u64]
    simpa using this
  go_enter Tryd.func40, Tryd.ntmps40
  go_wp2
  go_ret
  exact ⟨ret_int H.out, rfl⟩
theorem turn_any (n : Nat) (b : Int) (h2 : n < 18446744073709551616) (w : World) :
    Calls Tryd.prog 25 #[.int .u64 n, .int .i64 b] w fun e w' => e = .returned (.int .u64 ((rotl n (places b) : Nat) : Int)) ∧ w' = w := by
  go_enter Tryd.func25, Tryd.ntmps25
  go_wp2_with (go_at_call 40; refine (rotate_any n b h2 _).mono ?_; rintro e w' ⟨rfl, rfl⟩)
  go_ret
  exact ⟨rfl, rfl⟩
theorem rturn_places (b : Int) : (wrap64 (b.tmod 64 + 64)).tmod 64 = ((places b : Nat) : Int) := by
  have hw : wrap64 (b.tmod 64 + 64) = b.tmod 64 + 64 := by
    have := Int.tmod_lt_of_pos b (show (0 : Int) < 64 by decide)
    have := Int.lt_tmod_of_pos b (show (0 : Int) < 64 by decide)
    unfold wrap64; omega
  rw [hw]
  unfold places
  by_cases h : 0 ≤ b
  · rw [Int.tmod_eq_emod_of_nonneg h, Int.tmod_eq_emod_of_nonneg (by omega)]; omega
  · have e : b.tmod 64 = -((-b) % 64) := by
      rw [← Int.tmod_eq_emod_of_nonneg (by omega), Int.neg_tmod]; omega
    rw [e, Int.tmod_eq_emod_of_nonneg (by omega)]; omega
theorem rotl_step_int (n k : Nat) (h : n < 18446744073709551616) (hk : k < 64) :
    IntKind.u64.wrap (IntKind.u64.wrap (((rotl n k : Nat) : Int) * 2) + ((rotl n k : Nat) : Int) / 9223372036854775808) = ((rotl n (k + 1) : Nat) : Int) := by
  rw [IntKind.wrap_u64, IntKind.wrap_u64, ← rotl_succ n k h hk]
  simp
theorem next_any (n : Int) (h : 0 ≤ n) (h2 : n ≤ 4294967295) (w : World) :
    Calls Tryd.prog 19 #[.int .u32 n] w fun e w' => e = .returned (.tuple #[.int .u32 (if 2147483647 ≤ n then n else n + 1), .int .i64 (if 2147483647 ≤ n then 17 else 0)]) ∧ w' = w := by
  by_cases hn : 2147483647 ≤ n
  · rw [if_pos hn, if_pos hn]
    go_enter Tryd.func19, Tryd.ntmps19
    go_wp2
    go_ret2
    exact ⟨rfl, rfl⟩
  · rw [if_neg hn, if_neg hn]
    go_enter Tryd.func19, Tryd.ntmps19
    go_wp2
    go_ret2
    exact ⟨rfl, rfl⟩
theorem rnext_any (n : Int) (h : 0 ≤ n) (h2 : n ≤ 4294967295) (w : World) :
    Calls Tryd.prog 20 #[.int .u32 n] w fun e w' => e = .returned (.tuple #[.int .u32 (if 2147483647 ≤ n then n else n + 1), .int .i64 (if 2147483647 ≤ n then 17 else 0)]) ∧ w' = w := by
  by_cases hn : 2147483647 ≤ n
  · rw [if_pos hn, if_pos hn]
    go_enter Tryd.func20, Tryd.ntmps20
    go_wp2
    go_ret2
    exact ⟨rfl, rfl⟩
  · rw [if_neg hn, if_neg hn]
    go_enter Tryd.func20, Tryd.ntmps20
    go_wp2
    go_ret2
    exact ⟨rfl, rfl⟩
set_option maxHeartbeats 400000 in
theorem rturn_any (n : Nat) (b : Int) (h2 : n < 18446744073709551616) (w : World) :
    Calls Tryd.prog 26 #[.int .u64 n, .int .i64 b] w fun e w' => e = .returned (.int .u64 ((rotl n (places b) : Nat) : Int)) ∧ w' = w := by
  have hr := rturn_places b
  have hr2 := places_lt b
  have hpw : pw (Int.toNat 63) = 9223372036854775808 := by decide
  generalize places b = r at *
  have H0 : Hid (rotl n 0 = n) := hide (rotl_zero n h2)
  go_enter Tryd.func26, Tryd.ntmps26
  go_wp2
  go_loop [0, 5] (fun t i => ∃ k : Nat, k ≤ r ∧ i = .int .i64 k ∧ t = .int .u64 ((rotl n k : Nat) : Int)) (fun _ i => r - (intOf i).toNat)
  case atStart => exact ⟨0, Nat.zero_le _, rfl, by rw [H0.out]⟩
  case round =>
    obtain ⟨k, hk, rfl, rfl⟩ := hrel
    have hbd := rotl_lt n k h2 (by omega)
    by_cases hlt : k < r
    · have HS : Hid (IntKind.u64.wrap (IntKind.u64.wrap (((rotl n k : Nat) : Int) * 2) + ((rotl n k : Nat) : Int) / 9223372036854775808) = ((rotl n (k + 1) : Nat) : Int)) := hide (rotl_step_int n k h2 (by omega))
      go_wp2_with (go_at_call 38; refine (power_any _ (by decide) _).mono ?_; rintro e w' ⟨rfl, rfl⟩; simp only [hpw])
      go_round
      case rel => exact ⟨k + 1, by omega, by go_num, by rw [← HS.out]⟩
      case measure => simp [intOf]; omega
    · go_wp2
      go_ret
      exact ⟨ret_int (by rw [show k = r by omega]), rfl⟩
end Go.Proofs.YtdfoclmkhhmdbaaDoor
