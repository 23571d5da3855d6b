/-
  Walks of the program's and the reference's functions on numbers alone (Fold, Unfold, Turn, Next, power, only, Has, With, Without, trailing zeros). Own work.
-/
import Derived.Test.YteehkjdolmmapaaProg
import Derived.WalkKit
import Derived.WalkSpells
import Derived.WalkLawsBesides
import Derived.Test.YteehkjdolmmapaaLies
import Derived.Test.YteehkjdolmmapaaPlain
namespace Go.Proofs.Yteehkjdolmmapaa
open Go.RowKit

theorem unfold_bits64 (n : Int) (h1 : 0 ≤ n) (h2 : n ≤ 18446744073709551615) : wrap64 (bits BinOp.xor IntKind.u64 (n / 2) (IntKind.u64.wrap (-bits BinOp.and IntKind.u64 n 1))) = unfoldS n := by
  unfold wrap64; exact unfold_bits n h1 h2
/-- By how many places: from 0 to 63. -/
def places (b : Int) : Nat := (b % 64).toNat
theorem places_lt (b : Int) : places b < 64 := by unfold places; omega
theorem places_bits (b : Int) : bits BinOp.and IntKind.u64 (IntKind.u64.wrap b) 63 = ((places b : Nat) : Int) := by
  rw [u64_and _ _ (by rw [IntKind.wrap_u64]; omega) (by rw [IntKind.wrap_u64]; omega) (by decide) (by decide), IntKind.wrap_u64]
  have := nat_mask6 (b % 18446744073709551616).toNat
  show (((b % 18446744073709551616).toNat &&& 63 : Nat) : Int) = _
  rw [this]
  unfold places
  omega
theorem rturn_places (b : Int) : (wrap64 (b.tmod 64 + 64)).tmod 64 = ((places b : Nat) : Int) := by
  have hw : wrap64 (b.tmod 64 + 64) = b.tmod 64 + 64 := by
    have := Int.tmod_lt_of_pos b (show (0 : Int) < 64 by decide)
    have := Int.lt_tmod_of_pos b (show (0 : Int) < 64 by decide)
    unfold wrap64; omega
  rw [hw]
  unfold places
  by_cases h : 0 ≤ b
  · rw [Int.tmod_eq_emod_of_nonneg h, Int.tmod_eq_emod_of_nonneg (by omega)]; omega
  · have e : b.tmod 64 = -((-b) % 64) := by
      rw [← Int.tmod_eq_emod_of_nonneg (by omega), Int.neg_tmod]; omega
    rw [e, Int.tmod_eq_emod_of_nonneg (by omega)]; omega
theorem rotl_step_int (n k : Nat) (h : n < 18446744073709551616) (hk : k < 64) :
    IntKind.u64.wrap (IntKind.u64.wrap (((rotl n k : Nat) : Int) * 2) + ((rotl n k : Nat) : Int) / 9223372036854775808) = ((rotl n (k + 1) : Nat) : Int) := by
  rw [IntKind.wrap_u64, IntKind.wrap_u64, ← rotl_succ n k h hk]
  simp
theorem next_any (n : Int) (h : 0 ≤ n) (h2 : n ≤ 4294967295) (w : World) :
    Calls Try.prog 42 #[.int .u32 n] w fun e w' => e = .returned (.tuple #[.int .u32 (if 2147483647 ≤ n then n else n + 1), .int .i64 (if 2147483647 ≤ n then 17 else 0)]) ∧ w' = w := by
  by_cases hn : 2147483647 ≤ n
  · rw [if_pos hn, if_pos hn]
    go_enter Try.func42, Try.ntmps42
    go_wp2
    go_ret2
    exact ⟨rfl, rfl⟩
  · rw [if_neg hn, if_neg hn]
    go_enter Try.func42, Try.ntmps42
    go_wp2
    go_ret2
    exact ⟨rfl, rfl⟩
end Go.Proofs.Yteehkjdolmmapaa
