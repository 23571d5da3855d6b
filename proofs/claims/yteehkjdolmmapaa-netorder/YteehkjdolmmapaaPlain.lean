/-
  Plain facts on whole numbers for layer 1 (bits): folding, turning bits round, one bit of a number. Of no program. Own work.
-/
import Derived.Laws.BitsAllLaws
import Derived.Laws.Bits64
import Derived.Lib.TrailingZeros
namespace Go.Proofs.Yteehkjdolmmapaa
open Go

/-- 2 to the k, in 64 bits. -/
def pw (k : Nat) : Int := (2 : Int) ^ k % 18446744073709551616
theorem pw_zero : pw 0 = 1 := by decide
theorem pw_succ (k : Nat) : IntKind.u64.wrap (pw k * 2) = pw (k + 1) := by
  rw [IntKind.wrap_u64]
  unfold pw
  rw [Int.pow_succ]
  omega
theorem pw_lt (k : Nat) (h : k < 64) : pw k = ((2 ^ k : Nat) : Int) := by
  unfold pw
  have : (2 : Nat) ^ k < 2 ^ 64 := Nat.pow_lt_pow_right (by decide) h
  rw [Int.emod_eq_of_lt]
  · simp
  · exact Int.pow_nonneg (by decide)
  · have e : ((2 ^ k : Nat) : Int) = (2 : Int) ^ k := by simp
    rw [← e]; omega
theorem pw_nonneg (k : Nat) : 0 ≤ pw k ∧ pw k ≤ 18446744073709551615 := by unfold pw; omega
theorem pw_ge (k : Nat) (h : 64 ≤ k) : pw k = 0 := by
  unfold pw
  obtain ⟨d, rfl⟩ : ∃ d, k = 64 + d := ⟨k - 64, by omega⟩
  rw [Int.pow_add]
  exact Int.mul_emod_right _ _

/-- A number folded. -/
def foldS (n : Int) : Int := if 0 ≤ n then 2 * n else -2 * n - 1
theorem foldS_pos {n : Int} (h : 0 ≤ n) : foldS n = 2 * n := by simp [foldS, h]
theorem foldS_neg {n : Int} (h : n < 0) : foldS n = 2 * -(n + 1) + 1 := by unfold foldS; rw [if_neg (by omega)]; omega
theorem foldS_bd (n : Int) (h1 : -9223372036854775808 ≤ n) (h2 : n ≤ 9223372036854775807) : 0 ≤ foldS n ∧ foldS n ≤ 18446744073709551615 := by
  unfold foldS; split <;> omega
/-- And unfolded. -/
def unfoldS (n : Int) : Int := if n % 2 = 0 then n / 2 else -(n / 2) - 1
theorem unfoldS_bd (n : Int) (h1 : 0 ≤ n) (h2 : n ≤ 18446744073709551615) : -9223372036854775808 ≤ unfoldS n ∧ unfoldS n ≤ 9223372036854775807 := by
  unfold unfoldS; split <;> omega
theorem fold_unfold (n : Int) (h1 : 0 ≤ n) : foldS (unfoldS n) = n := by
  unfold unfoldS foldS
  split
  · rw [if_pos (by omega)]; omega
  · rw [if_neg (by omega)]; omega

theorem nat_xor_ones (x : Nat) (h : x < 18446744073709551616) : x ^^^ 18446744073709551615 = 18446744073709551615 - x := by
  apply Nat.eq_of_testBit_eq
  intro i
  have e : 18446744073709551615 - x = 2 ^ 64 - (x + 1) := by omega
  rw [e, Nat.testBit_two_pow_sub_succ (by omega), Nat.testBit_xor]
  have e2 : (18446744073709551615 : Nat) = 2 ^ 64 - 1 := by decide
  rw [e2, Nat.testBit_two_pow_sub_one]
  by_cases hi : i < 64
  · simp [hi]
  · have : x.testBit i = false := Nat.testBit_lt_two_pow (Nat.lt_of_lt_of_le (by omega : x < 2 ^ 64) (Nat.pow_le_pow_right (by decide) (by omega)))
    simp [hi, this]

theorem fold_bits (n : Int) (h1 : -9223372036854775808 ≤ n) (h2 : n ≤ 9223372036854775807) :
    bits BinOp.xor IntKind.u64 (IntKind.u64.wrap (IntKind.u64.wrap n * 2)) (IntKind.u64.wrap (n / 9223372036854775808)) = foldS n := by
  rw [u64_xor _ _ (by rw [IntKind.wrap_u64]; omega) (by rw [IntKind.wrap_u64]; omega) (by rw [IntKind.wrap_u64]; omega) (by rw [IntKind.wrap_u64]; omega)]
  simp only [IntKind.wrap_u64]
  by_cases h : 0 ≤ n
  · have e1 : (n / 9223372036854775808 % 18446744073709551616).toNat = 0 := by omega
    rw [e1, Nat.xor_zero, foldS_pos h]
    omega
  · have e1 : (n / 9223372036854775808 % 18446744073709551616).toNat = 18446744073709551615 := by omega
    rw [e1, nat_xor_ones _ (by omega), foldS_neg (by omega)]
    omega

theorem unfold_bits (n : Int) (h1 : 0 ≤ n) (h2 : n ≤ 18446744073709551615) :
    (bits BinOp.xor IntKind.u64 (n / 2) (IntKind.u64.wrap (-bits BinOp.and IntKind.u64 n 1)) + 9223372036854775808) % 18446744073709551616 - 9223372036854775808 = unfoldS n := by
  have ea : bits BinOp.and IntKind.u64 n 1 = n % 2 := by
    rw [u64_and n 1 h1 (by omega) (by decide) (by decide)]
    have := nat_mask1 n.toNat
    show ((n.toNat &&& 1 : Nat) : Int) = _
    rw [this]; omega
  rw [ea, u64_xor _ _ (by omega) (by omega) (by rw [IntKind.wrap_u64]; omega) (by rw [IntKind.wrap_u64]; omega), IntKind.wrap_u64]
  unfold unfoldS
  by_cases h : n % 2 = 0
  · have e1 : (-(n % 2) % 18446744073709551616).toNat = 0 := by omega
    rw [e1, Nat.xor_zero, if_pos h]
    omega
  · have e1 : (-(n % 2) % 18446744073709551616).toNat = 18446744073709551615 := by omega
    rw [e1, nat_xor_ones _ (by omega), if_neg h]
    omega

/-- A number's 64 bits, k places turned to the left. -/
def rotl (n k : Nat) : Nat := n * 2 ^ k % 18446744073709551616 + n / 2 ^ (64 - k)
theorem rotl_zero (n : Nat) (h : n < 18446744073709551616) : rotl n 0 = n := by
  unfold rotl
  simp
  omega
/-- How it looks from the inside: the a upper bits, b the others. -/
theorem rotl_parts (a b k : Nat) (hk : k ≤ 64) (_ha : a < 2 ^ k) (hb : b < 2 ^ (64 - k)) : rotl (a * 2 ^ (64 - k) + b) k = b * 2 ^ k + a := by
  have h64 : 2 ^ (64 - k) * 2 ^ k = 18446744073709551616 := by
    rw [← Nat.pow_add, show 64 - k + k = 64 by omega]
  have hp : 0 < 2 ^ (64 - k) := Nat.two_pow_pos _
  have hq : 0 < 2 ^ k := Nat.two_pow_pos _
  unfold rotl
  have e1 : (a * 2 ^ (64 - k) + b) / 2 ^ (64 - k) = a := by
    rw [Nat.mul_comm, Nat.mul_add_div hp, Nat.div_eq_of_lt hb]; omega
  have e2 : (a * 2 ^ (64 - k) + b) * 2 ^ k % 18446744073709551616 = b * 2 ^ k := by
    rw [Nat.add_mul, Nat.mul_assoc, h64, Nat.add_comm, Nat.add_mul_mod_self_right]
    apply Nat.mod_eq_of_lt
    rw [← h64]
    exact Nat.mul_lt_mul_of_pos_right hb hq
  rw [e1, e2]
theorem rotl_split (n k : Nat) (h : n < 18446744073709551616) (hk : k ≤ 64) :
    ∃ a b, n = a * 2 ^ (64 - k) + b ∧ a < 2 ^ k ∧ b < 2 ^ (64 - k) := by
  have h64 : 2 ^ k * 2 ^ (64 - k) = 18446744073709551616 := by
    rw [← Nat.pow_add, show k + (64 - k) = 64 by omega]
  refine ⟨n / 2 ^ (64 - k), n % 2 ^ (64 - k), ?_, ?_, Nat.mod_lt _ (Nat.two_pow_pos _)⟩
  · rw [Nat.mul_comm]; exact (Nat.div_add_mod _ _).symm
  · rw [Nat.div_lt_iff_lt_mul (Nat.two_pow_pos _), h64]; exact h
theorem rotl_lt (n k : Nat) (h : n < 18446744073709551616) (hk : k ≤ 64) : rotl n k < 18446744073709551616 := by
  obtain ⟨a, b, rfl, ha, hb⟩ := rotl_split n k h hk
  rw [rotl_parts a b k hk ha hb]
  have h64 : 2 ^ (64 - k) * 2 ^ k = 18446744073709551616 := by
    rw [← Nat.pow_add, show 64 - k + k = 64 by omega]
  have : (b + 1) * 2 ^ k ≤ 2 ^ (64 - k) * 2 ^ k := Nat.mul_le_mul_right _ hb
  rw [Nat.add_mul] at this
  omega
theorem rotl_arith (c R a K : Nat) (hc : c < 2) (ha : a < K) (h : R + K ≤ 9223372036854775808) :
    ((c * 9223372036854775808 + R + a) * 2 % 18446744073709551616 + (c * 9223372036854775808 + R + a) / 9223372036854775808) % 18446744073709551616 = 2 * R + (2 * a + c) := by
  have h1 : R + a < 9223372036854775808 := by omega
  have e : c * 9223372036854775808 + R + a = c * 9223372036854775808 + (R + a) := by omega
  have e2 : 2 * R + (2 * a + c) = 2 * (R + a) + c := by omega
  rw [e, e2]
  generalize R + a = x at *
  obtain rfl | rfl : c = 0 ∨ c = 1 := by omega
  · have q1 : (0 * 9223372036854775808 + x) / 9223372036854775808 = 0 := by omega
    have q2 : (0 * 9223372036854775808 + x) * 2 % 18446744073709551616 = 2 * x := by omega
    rw [q1, q2]; omega
  · have q1 : (1 * 9223372036854775808 + x) / 9223372036854775808 = 1 := by omega
    have q2 : (1 * 9223372036854775808 + x) * 2 % 18446744073709551616 = 2 * x := by omega
    rw [q1, q2]; omega
/-- One place more. -/
theorem rotl_succ (n k : Nat) (h : n < 18446744073709551616) (hk : k < 64) :
    (rotl n k * 2 % 18446744073709551616 + rotl n k / 9223372036854775808) % 18446744073709551616 = rotl n (k + 1) := by
  obtain ⟨a, b, hn, ha, hb⟩ := rotl_split n k h (by omega)
  obtain ⟨d, hd⟩ : ∃ d, 64 - k = d + 1 := ⟨63 - k, by omega⟩
  have hd' : 64 - (k + 1) = d := by omega
  have h63 : 2 ^ d * 2 ^ k = 9223372036854775808 := by
    rw [← Nat.pow_add, show d + k = 63 by omega]
  rw [hd, Nat.pow_succ] at hb
  -- b's own upper bit
  have hc : b / 2 ^ d < 2 := by rw [Nat.div_lt_iff_lt_mul (Nat.two_pow_pos _)]; omega
  have hb2 : b = b / 2 ^ d * 2 ^ d + b % 2 ^ d := by rw [Nat.mul_comm]; exact (Nat.div_add_mod _ _).symm
  have hlt : b % 2 ^ d < 2 ^ d := Nat.mod_lt _ (Nat.two_pow_pos _)
  generalize hcg : b / 2 ^ d = c at *
  generalize b % 2 ^ d = r at *
  have e1 : rotl n k = b * 2 ^ k + a := by
    rw [hn]; exact rotl_parts a b k (by omega) ha (by rw [hd, Nat.pow_succ]; exact hb)
  have e2 : rotl n (k + 1) = r * 2 ^ (k + 1) + (2 * a + c) := by
    have : n = (2 * a + c) * 2 ^ (64 - (k + 1)) + r := by
      rw [hn, hd, hd', Nat.pow_succ, Nat.add_mul, hb2]
      have : a * (2 ^ d * 2) = 2 * a * 2 ^ d := by rw [Nat.mul_comm (2 ^ d) 2, ← Nat.mul_assoc, Nat.mul_comm a 2]
      omega
    rw [this]
    exact rotl_parts _ _ _ (by omega) (by rw [Nat.pow_succ]; omega) (by rw [hd']; exact hlt)
  have e3 : b * 2 ^ k = c * 9223372036854775808 + r * 2 ^ k := by
    rw [hb2, Nat.add_mul, Nat.mul_assoc, h63]
  have e4 : r * 2 ^ (k + 1) = 2 * (r * 2 ^ k) := by rw [Nat.pow_succ, Nat.mul_comm (2 ^ k), ← Nat.mul_assoc, Nat.mul_comm r, Nat.mul_assoc]
  have e5 : r * 2 ^ k + 2 ^ k ≤ 9223372036854775808 := by
    have : (r + 1) * 2 ^ k ≤ 2 ^ d * 2 ^ k := Nat.mul_le_mul_right _ hlt
    rw [Nat.add_mul, h63] at this
    omega
  rw [e1, e2, e3, e4]
  exact rotl_arith c (r * 2 ^ k) a (2 ^ k) hc ha e5
theorem rotl_back (n k : Nat) (h : n < 18446744073709551616) (hk : k ≤ 64) : rotl (rotl n k) (64 - k) = n := by
  obtain ⟨a, b, rfl, ha, hb⟩ := rotl_split n k h hk
  rw [rotl_parts a b k hk ha hb]
  have := rotl_parts b a (64 - k) (by omega) hb (by rw [show 64 - (64 - k) = k by omega]; exact ha)
  rw [show 64 - (64 - k) = k by omega] at this
  exact this
/-- The code's own way: shifted to both sides, and joined. -/
theorem rot_bits (n r : Nat) (h : n < 18446744073709551616) (hr : r < 64) :
    bits BinOp.or IntKind.u64 (((n * 2 ^ r % 18446744073709551616 : Nat) : Int)) (((n / 2 ^ (64 - r) : Nat) : Int)) = ((rotl n r : Nat) : Int) := by
  have hlo : n / 2 ^ (64 - r) < 2 ^ r := by
    rw [Nat.div_lt_iff_lt_mul (Nat.two_pow_pos _), ← Nat.pow_add, show r + (64 - r) = 64 by omega]; exact h
  have h2 : (2 : Nat) ^ r < 2 ^ 64 := Nat.pow_lt_pow_right (by decide) hr
  rw [u64_or_nat _ _ (Nat.mod_lt _ (by decide)) (by omega)]
  rw [nat_join r _ _ ?_ hlo]
  · rfl
  · have h64 : (18446744073709551616 : Nat) = 2 ^ r * 2 ^ (64 - r) := by
      rw [← Nat.pow_add, show r + (64 - r) = 64 by omega]
    rw [h64, Nat.mul_comm n, Nat.mul_mod_mul_left]
    exact Nat.mul_mod_right _ _
end Go.Proofs.Yteehkjdolmmapaa
