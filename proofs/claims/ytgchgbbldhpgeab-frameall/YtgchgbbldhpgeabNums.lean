/-
  Plain facts on numbers as bytes, the highest first, for layer 1 (bits). Of no program. Own work.
-/
import Derived.Test.YtgchgbbldhpgeabTexts
namespace Go.Proofs.Ytgchgbbldhpgeab
open Go

/-- The k lowest bytes of a number, the highest of them first. -/
def putS (n : Nat) : Nat → List Int
  | 0 => []
  | k + 1 => ((n / 256 ^ k % 256 : Nat) : Int) :: putS n k
theorem putS_len (n : Nat) : ∀ k, (putS n k).length = k
  | 0 => rfl
  | k + 1 => by simp [putS, putS_len n k]
theorem putS_bytes (n : Nat) : ∀ k, ∀ c ∈ putS n k, 0 ≤ c ∧ c < 256
  | 0, c, hc => by simp [putS] at hc
  | k + 1, c, hc => by
    rcases List.mem_cons.1 hc with rfl | h
    · have := Nat.mod_lt (n / 256 ^ k) (show 0 < 256 by decide)
      omega
    · exact putS_bytes n k c h
/-- What bytes are worth, the highest first. -/
def valB (xs : List Int) : Nat := xs.foldl (fun a c => a * 256 + c.toNat) 0
theorem valB_snoc (xs : List Int) (c : Int) : valB (xs ++ [c]) = valB xs * 256 + c.toNat := by simp [valB, List.foldl_append]
theorem valB_lt (xs : List Int) (h : ∀ c ∈ xs, 0 ≤ c ∧ c < 256) : ∀ k, k ≤ xs.length → valB (xs.take k) < 256 ^ k
  | 0, _ => by simp [valB]
  | k + 1, hk => by
    have ih := valB_lt xs h k (by omega)
    rw [take_snoc xs k (by omega), valB_snoc, Nat.pow_succ]
    have := h (xs.getD k 0) (by simp [List.getD, show k < xs.length by omega])
    omega
theorem foldl_from (ys : List Int) : ∀ a : Nat, ys.foldl (fun a c => a * 256 + c.toNat) a = a * 256 ^ ys.length + valB ys := by
  induction ys with
  | nil => intro a; simp [valB]
  | cons y ys ih =>
    intro a
    have e : valB (y :: ys) = y.toNat * 256 ^ ys.length + valB ys := by
      show (ys.foldl (fun a c => a * 256 + c.toNat) (0 * 256 + y.toNat)) = _
      rw [ih]; simp
    rw [List.foldl_cons, ih, e, List.length_cons, Nat.pow_succ, Nat.add_mul, Nat.mul_assoc, Nat.mul_comm 256]
    omega
theorem valB_putS (n : Nat) : ∀ k, valB (putS n k) = n % 256 ^ k
  | 0 => by simp [putS, valB, Nat.mod_one]
  | k + 1 => by
    have ih := valB_putS n k
    show (putS n k).foldl (fun a c => a * 256 + c.toNat) (0 * 256 + (((n / 256 ^ k % 256 : Nat) : Int)).toNat) = _
    rw [foldl_from, putS_len, ih, Nat.pow_succ, Nat.mod_mul, Int.toNat_natCast]
    rw [Nat.mul_comm (256 ^ k), Nat.zero_mul, Nat.zero_add]
    omega
theorem pow8 (k : Nat) : (2 : Nat) ^ (8 * k) = 256 ^ k := by rw [Nat.pow_mul]
/-- A byte of a number, as the code takes it. -/
theorem byte_of (n k : Nat) : (n : Int) / 2 ^ (8 * k) % 256 = ((n / 256 ^ k % 256 : Nat) : Int) := by
  have : ((2 : Int) ^ (8 * k)) = ((256 ^ k : Nat) : Int) := by rw [← pow8]; simp
  rw [this]; omega
theorem pw8 (k : Nat) (h : k < 8) : pw (8 * k) = ((256 ^ k : Nat) : Int) := by rw [pw_lt _ (by omega), pow8]
theorem get_step (a : Nat) (c : Int) (ha : a * 256 < 18446744073709551616) (h0 : 0 ≤ c) (h1 : c < 256) :
    bits BinOp.or IntKind.u64 ((a : Int) * 256) c = ((a * 256 + c.toNat : Nat) : Int) := by
  have e1 : (a : Int) * 256 = ((a * 256 : Nat) : Int) := by omega
  have e2 : c = ((c.toNat : Nat) : Int) := by omega
  rw [e1, e2, u64_or_nat _ _ ha (by omega), nat_join 8 _ _ (by omega) (by omega)]
  simp
/-- How many bytes are put. -/
def clamp8 (size : Int) : Nat := (max 0 (min size 8)).toNat
theorem clamp8_le (size : Int) : clamp8 size ≤ 8 := by unfold clamp8; omega
/-- What Get answers. -/
def getS (xs : List Int) (size : Int) : Int × Int :=
  if size < 1 ∨ 8 < size then (0, 3) else if (xs.length : Int) < size then (0, 4) else (((valB (xs.take size.toNat) : Nat) : Int), 0)
end Go.Proofs.Ytgchgbbldhpgeab
