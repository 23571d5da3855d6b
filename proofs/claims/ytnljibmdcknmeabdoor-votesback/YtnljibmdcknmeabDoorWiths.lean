/-
  Walks of With and Without. Own work.
-/
import Derived.Test.YtnljibmdcknmeabDoorSetWalks
namespace Go.Proofs.YtnljibmdcknmeabDoor
open Go.RowKit

theorem with_in (s n : Nat) (hs : s < 18446744073709551616) (hn : n < 64) (w : World) :
    Calls Tryd.prog 23 #[.int .u64 s, .int .i64 n] w fun e w' => e = .returned (.int .u64 ((withN s n : Nat) : Int)) ∧ w' = w := by
  have ho := only_in n hn w
  have hp := pow_lt64 hn
  have ha := u64_or_nat s (2 ^ n) hs hp
  rw [or_with] at ha
  generalize (2 : Nat) ^ n = p at *
  generalize withN s n = r at *
  go_enter Tryd.func23, Tryd.ntmps23
  go_wp2_with (go_at_call 37; refine ho.mono ?_; rintro e w' ⟨rfl, rfl⟩)
  go_ret
  exact ⟨rfl, rfl⟩
theorem with_out (s : Nat) (n : Int) (hs : s < 18446744073709551616) (hn : n < 0 ∨ 64 ≤ n) (w : World) :
    Calls Tryd.prog 23 #[.int .u64 s, .int .i64 n] w fun e w' => e = .returned (.int .u64 s) ∧ w' = w := by
  have ho := only_out n hn w
  have ha := u64_or_nat s 0 hs (by decide)
  simp only [Nat.or_zero] at ha
  have hz : bits BinOp.or IntKind.u64 (s : Int) 0 = (s : Int) := ha
  clear ha
  go_enter Tryd.func23, Tryd.ntmps23
  go_wp2_with (go_at_call 37; refine ho.mono ?_; rintro e w' ⟨rfl, rfl⟩)
  go_ret
  exact ⟨rfl, rfl⟩
theorem without_in (s n : Nat) (hs : s < 18446744073709551616) (hn : n < 64) (w : World) :
    Calls Tryd.prog 22 #[.int .u64 s, .int .i64 n] w fun e w' => e = .returned (.int .u64 ((withoutN s n : Nat) : Int)) ∧ w' = w := by
  have ho := only_in n hn w
  have hp := pow_lt64 hn
  have ha := u64_andNot_nat s (2 ^ n) hs hp
  rw [andNot_without s n hs hn] at ha
  generalize (2 : Nat) ^ n = p at *
  generalize withoutN s n = r at *
  go_enter Tryd.func22, Tryd.ntmps22
  go_wp2_with (go_at_call 37; refine ho.mono ?_; rintro e w' ⟨rfl, rfl⟩)
  go_ret
  exact ⟨rfl, rfl⟩
theorem without_out (s : Nat) (n : Int) (hs : s < 18446744073709551616) (hn : n < 0 ∨ 64 ≤ n) (w : World) :
    Calls Tryd.prog 22 #[.int .u64 s, .int .i64 n] w fun e w' => e = .returned (.int .u64 s) ∧ w' = w := by
  have ho := only_out n hn w
  have ha := u64_andNot_nat s 0 hs (by decide)
  have e : s &&& (18446744073709551615 - 0) = s := by
    have := Nat.and_two_pow_sub_one_eq_mod s 64
    rw [Nat.mod_eq_of_lt (show s < 2 ^ 64 from hs)] at this
    exact this
  rw [e] at ha
  have hz : bits BinOp.andNot IntKind.u64 (s : Int) 0 = (s : Int) := ha
  clear ha
  go_enter Tryd.func22, Tryd.ntmps22
  go_wp2_with (go_at_call 37; refine ho.mono ?_; rintro e w' ⟨rfl, rfl⟩)
  go_ret
  exact ⟨rfl, rfl⟩
end Go.Proofs.YtnljibmdcknmeabDoor
