/-
  Plain facts on one bit of a number: set, cleared, asked for. Of no program. Own work.
-/
import Derived.Test.YtnljibmdcknmeabDoorPop
import Derived.Laws.Bits128
namespace Go.Proofs.YtnljibmdcknmeabDoor
open Go

theorem pow_lt64 {n : Nat} (h : n < 64) : (2 : Nat) ^ n < 18446744073709551616 := Nat.lt_of_lt_of_eq (Nat.pow_lt_pow_right (by decide) h) (by decide)
theorem bit_div (s n : Nat) : s.testBit n = decide (s / 2 ^ n % 2 = 1) := Nat.testBit_eq_decide_div_mod_eq
theorem and_bit (s n : Nat) : (s &&& 2 ^ n) ≠ 0 ↔ s.testBit n = true := by
  rw [nat_bit n s, bit_div]
  have hp : 0 < 2 ^ n := Nat.two_pow_pos n
  have h2 : s / 2 ^ n % 2 < 2 := Nat.mod_lt _ (by decide)
  generalize s / 2 ^ n % 2 = b at *
  obtain rfl | rfl : b = 0 ∨ b = 1 := by omega
  · simp
  · simp
theorem or_clear (s n : Nat) (h : s.testBit n = false) : s ||| 2 ^ n = s + 2 ^ n := by
  have hp : 0 < 2 ^ n := Nat.two_pow_pos n
  have hp1 : 0 < 2 ^ (n + 1) := Nat.two_pow_pos _
  have hd := Nat.div_add_mod s (2 ^ (n + 1))
  have hr := Nat.mod_lt s hp1
  have hb : s % 2 ^ (n + 1) < 2 ^ n := by
    rw [bit_div] at h
    have h' : s / 2 ^ n % 2 = 0 := by have := of_decide_eq_false h; omega
    have e : s % 2 ^ (n + 1) / 2 ^ n = s / 2 ^ n % 2 := by
      rw [Nat.pow_succ, Nat.mod_mul_right_div_self]
    rw [h'] at e
    rcases Nat.lt_or_ge (s % 2 ^ (n + 1)) (2 ^ n) with h1 | h1
    · exact h1
    · have := Nat.div_pos h1 hp; omega
  generalize s / 2 ^ (n + 1) = q at *
  generalize s % 2 ^ (n + 1) = r at *
  rw [← hd]
  have e1 : 2 ^ (n + 1) * q + r = 2 ^ (n + 1) * q ||| r := Nat.two_pow_add_eq_or_of_lt hr q
  have e2 : 2 ^ n * 1 + r = 2 ^ n * 1 ||| r := Nat.two_pow_add_eq_or_of_lt hb 1
  have hlt : r + 2 ^ n < 2 ^ (n + 1) := by rw [Nat.pow_succ]; omega
  have e3 : 2 ^ (n + 1) * q + (r + 2 ^ n) = 2 ^ (n + 1) * q ||| (r + 2 ^ n) := Nat.two_pow_add_eq_or_of_lt hlt q
  rw [Nat.add_assoc, e3, e1, Nat.or_assoc]
  congr 1
  rw [Nat.mul_one] at e2
  rw [Nat.or_comm, ← e2, Nat.add_comm]
theorem or_set (s n : Nat) (h : s.testBit n = true) : s ||| 2 ^ n = s := by
  apply Nat.eq_of_testBit_eq
  intro i
  rw [Nat.testBit_or, Nat.testBit_two_pow]
  by_cases hi : n = i
  · subst hi; simp [h]
  · simp [hi]
/-- A set and a node; a set but a node. -/
def withN (s n : Nat) : Nat := if s.testBit n then s else s + 2 ^ n
def withoutN (s n : Nat) : Nat := if s.testBit n then s - 2 ^ n else s
theorem or_with (s n : Nat) : s ||| 2 ^ n = withN s n := by
  unfold withN
  cases h : s.testBit n
  · simp [or_clear s n h]
  · simp [or_set s n h]
theorem with_lt (s n : Nat) (hs : s < 18446744073709551616) (hn : n < 64) : withN s n < 18446744073709551616 := by
  rw [← or_with]
  exact Nat.or_lt_two_pow (n := 64) hs (pow_lt64 hn)
theorem pow_le (s n : Nat) (h : s.testBit n = true) : 2 ^ n ≤ s := Nat.ge_two_pow_of_testBit h
theorem without_lt (s n : Nat) (hs : s < 18446744073709551616) : withoutN s n < 18446744073709551616 := by
  unfold withoutN
  split
  · exact Nat.lt_of_le_of_lt (Nat.sub_le _ _) hs
  · exact hs
theorem clear_bit (s n : Nat) (h : s.testBit n = true) : (s - 2 ^ n).testBit n = false := by
  have := pow_le s n h
  have t := Nat.testBit_two_pow_add_eq (s - 2 ^ n) n
  rw [show 2 ^ n + (s - 2 ^ n) = s by omega, h] at t
  simpa using t.symm
theorem clear_other (s n i : Nat) (h : s.testBit n = true) (hi : i ≠ n) : (s - 2 ^ n).testBit i = s.testBit i := by
  have h1 := pow_le s n h
  have h2 := or_clear (s - 2 ^ n) n (clear_bit s n h)
  rw [show s - 2 ^ n + 2 ^ n = s by omega] at h2
  rw [← h2, Nat.testBit_or, Nat.testBit_two_pow]
  have e : s - 2 ^ n ||| 2 ^ n = s := h2
  simp [show n ≠ i from fun e => hi e.symm, e]
theorem andNot_without (s n : Nat) (hs : s < 18446744073709551616) (hn : n < 64) : s &&& (18446744073709551615 - 2 ^ n) = withoutN s n := by
  have hp := pow_lt64 hn
  apply Nat.eq_of_testBit_eq
  intro i
  have e : 18446744073709551615 - 2 ^ n = 2 ^ 64 - (2 ^ n + 1) := by omega
  rw [Nat.testBit_and, e, Nat.testBit_two_pow_sub_succ hp, Nat.testBit_two_pow]
  have big : ∀ x : Nat, x < 18446744073709551616 → ¬ i < 64 → x.testBit i = false := fun x hx hi =>
    Nat.testBit_lt_two_pow (Nat.lt_of_lt_of_le (show x < 2 ^ 64 from hx) (Nat.pow_le_pow_right (by decide) (by omega)))
  unfold withoutN
  cases h : s.testBit n
  · simp only [Bool.false_eq_true, if_false]
    by_cases hi : n = i
    · subst hi; simp [h]
    · by_cases h64 : i < 64
      · simp [h64, hi]
      · simp [big s hs h64]
  · simp only [if_true]
    by_cases hi : n = i
    · subst hi; simp [clear_bit s n h]
    · rw [clear_other s n i h (fun e => hi e.symm)]
      by_cases h64 : i < 64
      · simp [h64, hi]
      · simp [big s hs h64]
theorem with_bit (s n : Nat) : (withN s n).testBit n = true := by rw [← or_with, Nat.testBit_or, Nat.testBit_two_pow]; simp
theorem without_bit (s n : Nat) : (withoutN s n).testBit n = false := by
  unfold withoutN
  cases h : s.testBit n
  · simpa using h
  · simpa using clear_bit s n h

theorem ones_forms (s : Nat) (hs : s < 18446744073709551616) : ∃ x1 x2 x3 x4 x5 x6 : Nat,
    IntKind.u64.wrap (bits BinOp.and IntKind.u64 ((s : Int) / 2) 6148914691236517205 + bits BinOp.and IntKind.u64 (s : Int) 6148914691236517205) = (x1 : Int) ∧
    IntKind.u64.wrap (bits BinOp.and IntKind.u64 ((x1 : Int) / 4) 3689348814741910323 + bits BinOp.and IntKind.u64 (x1 : Int) 3689348814741910323) = (x2 : Int) ∧
    bits BinOp.and IntKind.u64 (IntKind.u64.wrap ((x2 : Int) / 16 + (x2 : Int))) 1085102592571150095 = (x3 : Int) ∧
    IntKind.u64.wrap ((x3 : Int) + (x3 : Int) / 256) = (x4 : Int) ∧ IntKind.u64.wrap ((x4 : Int) + (x4 : Int) / 65536) = (x5 : Int) ∧ IntKind.u64.wrap ((x5 : Int) + (x5 : Int) / 4294967296) = (x6 : Int) ∧
    x6 < 9223372036854775808 ∧ x6 % 128 = (listS s).length := by
  obtain ⟨x1, x2, x3, x4, x5, x6, q1, q2, q3, q4, q5, q6, l1, l2, l3, l4, l5, l6, hl⟩ := pop_all s hs
  refine ⟨x1, x2, x3, x4, x5, x6, ?_, ?_, ?_, ?_, ?_, ?_, l6, hl⟩
  · have a := u64_and_nat (s / 2) 6148914691236517205 (by omega) (by decide)
    have b := u64_and_nat s 6148914691236517205 hs (by decide)
    have e : ((s / 2 : Nat) : Int) = (s : Int) / 2 := by omega
    rw [e] at a
    have c : ((6148914691236517205 : Nat) : Int) = 6148914691236517205 := rfl
    rw [c] at a b
    rw [a, b, IntKind.wrap_u64]
    unfold f1 at q1
    omega
  · have a := u64_and_nat (x1 / 4) 3689348814741910323 (by omega) (by decide)
    have b := u64_and_nat x1 3689348814741910323 l1 (by decide)
    have e : ((x1 / 4 : Nat) : Int) = (x1 : Int) / 4 := by omega
    rw [e] at a
    have c : ((3689348814741910323 : Nat) : Int) = 3689348814741910323 := rfl
    rw [c] at a b
    rw [a, b, IntKind.wrap_u64]
    unfold f2 at q2
    omega
  · have a := u64_and_nat (x2 / 16 + x2) 1085102592571150095 (by omega) (by decide)
    have e : ((x2 / 16 + x2 : Nat) : Int) = IntKind.u64.wrap ((x2 : Int) / 16 + (x2 : Int)) := by rw [IntKind.wrap_u64]; omega
    rw [e] at a
    have c : ((1085102592571150095 : Nat) : Int) = 1085102592571150095 := rfl
    rw [c] at a
    rw [a]
    unfold f3 at q3
    rw [q3]
  · rw [IntKind.wrap_u64]; omega
  · rw [IntKind.wrap_u64]; omega
  · rw [IntKind.wrap_u64]; omega
end Go.Proofs.YtnljibmdcknmeabDoor
