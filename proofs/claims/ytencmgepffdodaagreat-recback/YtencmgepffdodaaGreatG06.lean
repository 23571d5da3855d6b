/-
  Own texts put together: Pop, Bit, SetWalks, Withs, ListFacts. Own work.
-/
import Derived.Test.YtencmgepffdodaaGreatG05
import Derived.Laws.Bits128
namespace Go.Proofs.YtencmgepffdodaaGreat
section
open Go

/-- The three steps on one byte. -/
def p1 (r : Nat) : Nat := (r / 2 &&& 0x55) + (r &&& 0x55)
def p2 (r : Nat) : Nat := (r / 4 &&& 0x33) + (r &&& 0x33)
/-- Each on a number, under a mask. -/
def f1 (x p : Nat) : Nat := (x / 2 &&& p) + (x &&& p)
def f2 (x p : Nat) : Nat := (x / 4 &&& p) + (x &&& p)
def f3 (x p : Nat) : Nat := (x / 16 + x) &&& p
/-- Bits counted, from a byte on. -/
def cnt (n s : Nat) : Nat := ((List.range n).filter (fun i => s.testBit i)).length
end
section
open Go

theorem pow_lt64 {n : Nat} (h : n < 64) : (2 : Nat) ^ n < 18446744073709551616 := Nat.lt_of_lt_of_eq (Nat.pow_lt_pow_right (by decide) h) (by decide)
theorem bit_div (s n : Nat) : s.testBit n = decide (s / 2 ^ n % 2 = 1) := Nat.testBit_eq_decide_div_mod_eq
theorem and_bit (s n : Nat) : (s &&& 2 ^ n) ≠ 0 ↔ s.testBit n = true := by
  rw [nat_bit n s, bit_div]
  have hp : 0 < 2 ^ n := Nat.two_pow_pos n
  have h2 : s / 2 ^ n % 2 < 2 := Nat.mod_lt _ (by decide)
  generalize s / 2 ^ n % 2 = b at *
  obtain rfl | rfl : b = 0 ∨ b = 1 := by omega
  · simp
  · simp
theorem or_clear (s n : Nat) (h : s.testBit n = false) : s ||| 2 ^ n = s + 2 ^ n := by
  have hp : 0 < 2 ^ n := Nat.two_pow_pos n
  have hp1 : 0 < 2 ^ (n + 1) := Nat.two_pow_pos _
  have hd := Nat.div_add_mod s (2 ^ (n + 1))
  have hr := Nat.mod_lt s hp1
  have hb : s % 2 ^ (n + 1) < 2 ^ n := by
    rw [bit_div] at h
    have h' : s / 2 ^ n % 2 = 0 := by have := of_decide_eq_false h; omega
    have e : s % 2 ^ (n + 1) / 2 ^ n = s / 2 ^ n % 2 := by
      rw [Nat.pow_succ, Nat.mod_mul_right_div_self]
    rw [h'] at e
    rcases Nat.lt_or_ge (s % 2 ^ (n + 1)) (2 ^ n) with h1 | h1
    · exact h1
    · have := Nat.div_pos h1 hp; omega
  generalize s / 2 ^ (n + 1) = q at *
  generalize s % 2 ^ (n + 1) = r at *
  rw [← hd]
  have e1 : 2 ^ (n + 1) * q + r = 2 ^ (n + 1) * q ||| r := Nat.two_pow_add_eq_or_of_lt hr q
  have e2 : 2 ^ n * 1 + r = 2 ^ n * 1 ||| r := Nat.two_pow_add_eq_or_of_lt hb 1
  have hlt : r + 2 ^ n < 2 ^ (n + 1) := by rw [Nat.pow_succ]; omega
  have e3 : 2 ^ (n + 1) * q + (r + 2 ^ n) = 2 ^ (n + 1) * q ||| (r + 2 ^ n) := Nat.two_pow_add_eq_or_of_lt hlt q
  rw [Nat.add_assoc, e3, e1, Nat.or_assoc]
  congr 1
  rw [Nat.mul_one] at e2
  rw [Nat.or_comm, ← e2, Nat.add_comm]
theorem or_set (s n : Nat) (h : s.testBit n = true) : s ||| 2 ^ n = s := by
  apply Nat.eq_of_testBit_eq
  intro i
  rw [Nat.testBit_or, Nat.testBit_two_pow]
  by_cases hi : n = i
  · subst hi; simp [h]
  · simp [hi]
/-- A set and a node; a set but a node. -/
def withN (s n : Nat) : Nat := if s.testBit n then s else s + 2 ^ n
theorem or_with (s n : Nat) : s ||| 2 ^ n = withN s n := by
  unfold withN
  cases h : s.testBit n
  · simp [or_clear s n h]
  · simp [or_set s n h]
theorem with_lt (s n : Nat) (hs : s < 18446744073709551616) (hn : n < 64) : withN s n < 18446744073709551616 := by
  rw [← or_with]
  exact Nat.or_lt_two_pow (n := 64) hs (pow_lt64 hn)
theorem with_bit (s n : Nat) : (withN s n).testBit n = true := by rw [← or_with, Nat.testBit_or, Nat.testBit_two_pow]; simp
end
section
open Go.RowKit

theorem has_in (s n : Nat) (hs : s < 18446744073709551616) (hn : n < 64) (w : World) :
    Calls Tryz.prog 58 #[.int .u64 s, .int .i64 n] w fun e w' => e = .returned (.bool (s.testBit n)) ∧ w' = w := by
  have ho := only_in n hn w
  have hp := pow_lt64 hn
  have hb := and_bit s n
  have ha := u64_and_nat s (2 ^ n) hs hp
  generalize (2 : Nat) ^ n = p at *
  have H : Hid ((((s &&& p : Nat) : Int) != 0) = s.testBit n) := by
    refine hide ?_
    rw [Bool.eq_iff_iff, ← hb]
    simp
  generalize s &&& p = r at *
  clear hb
  go_enter Tryz.func58, Tryz.ntmps58
  go_wp2_with (go_at_call 103; refine ho.mono ?_; rintro e w' ⟨rfl, rfl⟩)
  go_ret
  exact ⟨ret_bool H.out, rfl⟩
end
section
open Go.RowKit

theorem with_in (s n : Nat) (hs : s < 18446744073709551616) (hn : n < 64) (w : World) :
    Calls Tryz.prog 161 #[.int .u64 s, .int .i64 n] w fun e w' => e = .returned (.int .u64 ((withN s n : Nat) : Int)) ∧ w' = w := by
  have ho := only_in n hn w
  have hp := pow_lt64 hn
  have ha := u64_or_nat s (2 ^ n) hs hp
  rw [or_with] at ha
  generalize (2 : Nat) ^ n = p at *
  generalize withN s n = r at *
  go_enter Tryz.func161, Tryz.ntmps161
  go_wp2_with (go_at_call 103; refine ho.mono ?_; rintro e w' ⟨rfl, rfl⟩)
  go_ret
  exact ⟨rfl, rfl⟩
end
section
open Go

theorem take_snocN (l : List Nat) (k : Nat) (h : k < l.length) : l.take (k + 1) = l.take k ++ [l.getD k 0] := by
  rw [List.take_succ_eq_append_getElem h]; simp [h]
end
end Go.Proofs.YtencmgepffdodaaGreat
