/-
  Plain facts on sets of bits (their lists, how many are in them) for layer 1 (bits). Of no program. Own work.
-/
import Derived.Test.YtnljibmdcknmeabDoorPlain
namespace Go.Proofs.YtnljibmdcknmeabDoor
open Go

/-- Which bits are 1, rising. -/
def listN (s : Nat) : List Nat := (List.range 64).filter (fun i => s.testBit i)
def listS (s : Nat) : List Int := (listN s).map fun (i : Nat) => (i : Int)
theorem listS_len (s : Nat) : (listS s).length ≤ 64 := by
  unfold listS listN
  rw [List.length_map]
  exact Nat.le_trans (List.length_filter_le _ _) (by simp)
theorem listS_zero : listS 0 = [] := by
  simp [listS, listN]
theorem listS_five : listS 5 = [0, 2] := by decide +kernel

theorem tb (k y i : Nat) : (2 ^ k * y).testBit i = (decide (k ≤ i) && y.testBit (i - k)) := by
  rw [Nat.mul_comm, Nat.testBit_mul_two_pow]
/-- A number that is not 0: its lowest bit, and it without that one. -/
theorem lowest (x : Nat) (h0 : x ≠ 0) (h : x < 18446744073709551616) :
    ∃ k m, k < 64 ∧ x = 2 ^ k * (2 * m + 1) ∧ Lib.ctz 64 x = k ∧ x &&& (x - 1) = 2 ^ k * (2 * m) := by
  obtain ⟨m, hm, hk⟩ := Lib.ctzFrom_spec 64 x (by omega) h
  have e : Lib.ctz 64 x = Lib.ctzFrom 64 x := by simp [Lib.ctz, h0]
  refine ⟨Lib.ctzFrom 64 x, m, hk, hm, e, ?_⟩
  generalize Lib.ctzFrom 64 x = k at *
  have hp : 0 < 2 ^ k := Nat.two_pow_pos k
  have e1 : x = 2 ^ k * (2 * m) + 2 ^ k := by rw [hm, Nat.mul_add]; omega
  have e2 : x - 1 = 2 ^ k * (2 * m) + (2 ^ k - 1) := by omega
  apply Nat.eq_of_testBit_eq
  intro i
  rw [Nat.testBit_and, e2]
  by_cases hi : i < k
  · rw [hm, tb, tb]
    simp [show ¬ k ≤ i by omega]
  · have d1 : (2 ^ k * (2 * m) + (2 ^ k - 1)) / 2 ^ k = 2 * m := by
      rw [Nat.mul_add_div hp, Nat.div_eq_of_lt (by omega)]; omega
    have t1 : (2 ^ k * (2 * m) + (2 ^ k - 1)).testBit i = (2 * m).testBit (i - k) := by
      have := Nat.testBit_div_two_pow (2 ^ k * (2 * m) + (2 ^ k - 1)) (n := k) (i := i - k)
      rw [d1] at this
      rw [this, show i - k + k = i by omega]
    rw [t1, hm, tb, tb]
    simp only [show k ≤ i by omega, decide_true, Bool.true_and]
    cases hj : i - k with
    | zero => simp [Nat.testBit_zero]
    | succ j =>
      rw [Nat.testBit_succ, Nat.testBit_succ, show (2 * m + 1) / 2 = m by omega, show 2 * m / 2 = m by omega]
      simp
theorem rest_lt (x : Nat) (h0 : x ≠ 0) : x &&& (x - 1) < x := Nat.lt_of_le_of_lt Nat.and_le_right (by omega)
theorem range_split (k : Nat) (hk : k < 64) : List.range 64 = List.range k ++ k :: List.range' (k + 1) (63 - k) := by
  rw [List.range_eq_range', List.range_eq_range', show 64 = k + (1 + (63 - k)) by omega, List.range'_append_1.symm, Nat.add_comm 1, List.range'_succ]
  simp
theorem listN_step (x : Nat) (h0 : x ≠ 0) (h : x < 18446744073709551616) : listN x = Lib.ctz 64 x :: listN (x &&& (x - 1)) := by
  obtain ⟨k, m, hk, hm, hc, hr⟩ := lowest x h0 h
  rw [hc, hr]
  unfold listN
  rw [range_split k hk, List.filter_append, List.filter_append, List.filter_cons, List.filter_cons]
  have lowx : ∀ i, i < k → x.testBit i = false := by
    intro i hi; rw [hm, tb]; simp [show ¬ k ≤ i by omega]
  have lowr : ∀ i, i < k + 1 → (2 ^ k * (2 * m)).testBit i = false := by
    intro i hi; rw [tb]
    by_cases h1 : k ≤ i
    · have : i - k = 0 := by omega
      rw [this]; simp [Nat.testBit_zero]
    · simp [h1]
  have atk : x.testBit k = true := by rw [hm, tb]; simp [Nat.testBit_zero]
  have f1 : (List.range k).filter (fun i => x.testBit i) = [] := by
    rw [List.filter_eq_nil_iff]; intro i hi; simp at hi; simp [lowx i hi]
  have f2 : (List.range k).filter (fun i => (2 ^ k * (2 * m)).testBit i) = [] := by
    rw [List.filter_eq_nil_iff]; intro i hi; simp at hi; rw [lowr i (by omega)]; simp
  rw [f1, f2, atk, lowr k (by omega)]
  simp only [List.nil_append, if_true]
  congr 1
  apply List.filter_congr
  intro i hi
  have hi' : k + 1 ≤ i := by have := List.mem_range'_1.1 hi; omega
  rw [hm, tb, tb]
  obtain ⟨j, hj⟩ : ∃ j, i - k = j + 1 := ⟨i - k - 1, by omega⟩
  rw [hj, Nat.testBit_succ, Nat.testBit_succ, show (2 * m + 1) / 2 = m by omega, show 2 * m / 2 = m by omega]
theorem listS_step (x : Nat) (h0 : x ≠ 0) (h : x < 18446744073709551616) : listS x = ((Lib.ctz 64 x : Nat) : Int) :: listS (x &&& (x - 1)) := by
  unfold listS; rw [listN_step x h0 h]; rfl
theorem rest_bits (x : Nat) (h : x < 18446744073709551616) (h0 : x ≠ 0) : bits BinOp.and IntKind.u64 (x : Int) ((x : Int) - 1) = ((x &&& (x - 1) : Nat) : Int) := by
  have := u64_and_nat x (x - 1) h (by omega)
  rw [← this]
  congr 1
  omega
end Go.Proofs.YtnljibmdcknmeabDoor
