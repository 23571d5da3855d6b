/-
  Walks of the program's and the reference's functions on numbers alone (Fold, Unfold, Turn, Next, power, only, Has, With, Without, trailing zeros). Own work.
-/
import Derived.Test.YtnljibmdcknmeabDoorProg
import Derived.WalkKit
import Derived.WalkSpells
import Derived.WalkLawsBesides
import Derived.Test.YtnljibmdcknmeabDoorLies
import Derived.Test.YtnljibmdcknmeabDoorPlain
namespace Go.Proofs.YtnljibmdcknmeabDoor
open Go.RowKit

theorem power_any (n : Int) (h1 : n ≤ 9223372036854775807) (w : World) :
    Calls Tryd.prog 38 #[.int .i64 n] w fun e w' => e = .returned (.int .u64 (pw n.toNat)) ∧ w' = w := by
  go_enter Tryd.func38, Tryd.ntmps38
  go_wp2
  go_loop [3, 4] (fun p i => ∃ k : Nat, (k ≤ n ∨ k = 0) ∧ i = .int .i64 k ∧ p = .int .u64 (pw k)) (fun _ i => n.toNat - (intOf i).toNat)
  case atStart => exact ⟨0, Or.inr rfl, rfl, rfl⟩
  case round =>
    obtain ⟨k, hk, rfl, rfl⟩ := hrel
    by_cases hlt : (k : Int) < n
    · go_wp2
      go_round
      case rel => exact ⟨k + 1, by omega, by go_num, by rw [pw_succ]⟩
      case measure => simp [intOf]; omega
    · go_wp2
      go_ret
      exact ⟨ret_int (by rw [show n.toNat = k by omega]), rfl⟩

theorem only_in (n : Nat) (h1 : n < 64) (w : World) :
    Calls Tryd.prog 37 #[.int .i64 n] w fun e w' => e = .returned (.int .u64 (((2 ^ n : Nat) : Int))) ∧ w' = w := by
  have H : Hid (IntKind.u64.wrap ((2 : Int) ^ n) = ((2 ^ n : Nat) : Int)) := by
    refine hide ?_
    rw [IntKind.wrap_u64]
    exact pw_lt n h1
  go_enter Tryd.func37, Tryd.ntmps37
  go_wp2
  go_ret
  exact ⟨ret_int H.out, rfl⟩
theorem only_out (n : Int) (h1 : n < 0 ∨ 64 ≤ n) (w : World) :
    Calls Tryd.prog 37 #[.int .i64 n] w fun e w' => e = .returned (.int .u64 0) ∧ w' = w := by
  rcases h1 with h | h
  all_goals
    go_enter Tryd.func37, Tryd.ntmps37
    go_wp2
    go_ret
    exact ⟨rfl, rfl⟩

theorem unfold_bits64 (n : Int) (h1 : 0 ≤ n) (h2 : n ≤ 18446744073709551615) : wrap64 (bits BinOp.xor IntKind.u64 (n / 2) (IntKind.u64.wrap (-bits BinOp.and IntKind.u64 n 1))) = unfoldS n := by
  unfold wrap64; exact unfold_bits n h1 h2
/-- By how many places: from 0 to 63. -/
def places (b : Int) : Nat := (b % 64).toNat
theorem places_lt (b : Int) : places b < 64 := by unfold places; omega
theorem places_bits (b : Int) : bits BinOp.and IntKind.u64 (IntKind.u64.wrap b) 63 = ((places b : Nat) : Int) := by
  rw [u64_and _ _ (by rw [IntKind.wrap_u64]; omega) (by rw [IntKind.wrap_u64]; omega) (by decide) (by decide), IntKind.wrap_u64]
  have := nat_mask6 (b % 18446744073709551616).toNat
  show (((b % 18446744073709551616).toNat &&& 63 : Nat) : Int) = _
  rw [this]
  unfold places
  omega
theorem rturn_places (b : Int) : (wrap64 (b.tmod 64 + 64)).tmod 64 = ((places b : Nat) : Int) := by
  have hw : wrap64 (b.tmod 64 + 64) = b.tmod 64 + 64 := by
    have := Int.tmod_lt_of_pos b (show (0 : Int) < 64 by decide)
    have := Int.lt_tmod_of_pos b (show (0 : Int) < 64 by decide)
    unfold wrap64; omega
  rw [hw]
  unfold places
  by_cases h : 0 ≤ b
  · rw [Int.tmod_eq_emod_of_nonneg h, Int.tmod_eq_emod_of_nonneg (by omega)]; omega
  · have e : b.tmod 64 = -((-b) % 64) := by
      rw [← Int.tmod_eq_emod_of_nonneg (by omega), Int.neg_tmod]; omega
    rw [e, Int.tmod_eq_emod_of_nonneg (by omega)]; omega
theorem rotl_step_int (n k : Nat) (h : n < 18446744073709551616) (hk : k < 64) :
    IntKind.u64.wrap (IntKind.u64.wrap (((rotl n k : Nat) : Int) * 2) + ((rotl n k : Nat) : Int) / 9223372036854775808) = ((rotl n (k + 1) : Nat) : Int) := by
  rw [IntKind.wrap_u64, IntKind.wrap_u64, ← rotl_succ n k h hk]
  simp
end Go.Proofs.YtnljibmdcknmeabDoor
