/-
  Plain facts on a set and its list: what is with the list is the set. Of no program. Own work.
-/
import Derived.Test.YtnljibmdcknmeabDoorBit
namespace Go.Proofs.YtnljibmdcknmeabDoor
open Go

/-- What is with the first k of a list. -/
def withAll (l : List Nat) : Nat := l.foldl withN 0
theorem withAll_snoc (l : List Nat) (a : Nat) : withAll (l ++ [a]) = withN (withAll l) a := by simp [withAll, List.foldl_append]
theorem foldl_bit (i : Nat) : ∀ (l : List Nat) (z : Nat), (l.foldl withN z).testBit i = (z.testBit i || decide (i ∈ l))
  | [], z => by simp
  | a :: l, z => by
    rw [List.foldl_cons, foldl_bit i l, ← or_with, Nat.testBit_or, Nat.testBit_two_pow]
    by_cases h : a = i
    · subst h; simp
    · have h' : i ≠ a := fun e => h e.symm
      simp [h, h']
theorem withAll_bit (l : List Nat) (i : Nat) : (withAll l).testBit i = decide (i ∈ l) := by
  unfold withAll; rw [foldl_bit]; simp
theorem mem_listN (s i : Nat) : i ∈ listN s ↔ i < 64 ∧ s.testBit i = true := by simp [listN]
theorem withAll_list (s : Nat) (hs : s < 18446744073709551616) : withAll (listN s) = s := by
  apply Nat.eq_of_testBit_eq
  intro i
  rw [withAll_bit]
  by_cases hi : i < 64
  · cases h : s.testBit i
    · rw [decide_eq_false_iff_not, mem_listN]; simp [h]
    · rw [decide_eq_true_iff, mem_listN]; exact ⟨hi, h⟩
  · have : s.testBit i = false := Nat.testBit_lt_two_pow (Nat.lt_of_lt_of_le (show s < 2 ^ 64 from hs) (Nat.pow_le_pow_right (by decide) (by omega)))
    rw [this, decide_eq_false_iff_not, mem_listN]
    exact fun h => hi h.1
theorem withAll_lt (l : List Nat) (h : ∀ a ∈ l, a < 64) : withAll l < 18446744073709551616 := by
  apply Nat.lt_of_not_le
  intro hle
  obtain ⟨i, hi, hb⟩ := Nat.exists_ge_and_testBit_of_ge_two_pow (show 2 ^ 64 ≤ withAll l from hle)
  rw [withAll_bit] at hb
  have := h i (of_decide_eq_true hb)
  omega
theorem take_snocN (l : List Nat) (k : Nat) (h : k < l.length) : l.take (k + 1) = l.take k ++ [l.getD k 0] := by
  rw [List.take_succ_eq_append_getElem h]; simp [h]
theorem listN_at (s k : Nat) (h : k < (listN s).length) : (listN s).getD k 0 < 64 ∧ s.testBit ((listN s).getD k 0) = true := by
  have : (listN s).getD k 0 ∈ listN s := by simp [List.getD, h]
  exact (mem_listN s _).1 this
theorem listN_rise (s k : Nat) (h0 : 0 < k) (h : k < (listN s).length) : (listN s).getD (k - 1) 0 < (listN s).getD k 0 := by
  have hp : (listN s).Pairwise (· < ·) := List.Pairwise.filter _ List.pairwise_lt_range
  have := List.pairwise_iff_getElem.1 hp (k - 1) k (by omega) h (by omega)
  simpa [List.getD, h, show k - 1 < (listN s).length by omega] using this
theorem listS_at (s k : Nat) (h : k < (listN s).length) : (listS s).getD k 0 = (((listN s).getD k 0 : Nat) : Int) := by
  simp [listS, List.getD, h]
theorem listS_length (s : Nat) : (listS s).length = (listN s).length := by simp [listS]
/-- With and without turn just one node. -/
theorem without_with (s n : Nat) : withoutN (withN s n) n = withoutN s n := by
  have hb := with_bit s n
  unfold withoutN
  rw [hb]
  simp only [if_true]
  unfold withN
  cases h : s.testBit n
  · simp
  · simp
theorem with_without (s n : Nat) : withN (withoutN s n) n = withN s n := by
  have hb := without_bit s n
  unfold withN
  rw [hb]
  simp only [Bool.false_eq_true, if_false]
  unfold withoutN
  cases h : s.testBit n
  · simp
  · have := pow_le s n h
    simp; omega
theorem just_one (s n : Nat) : (((withN s n : Nat) : Int) == (s : Int)) = s.testBit n ∧ (((withoutN s n : Nat) : Int) == (s : Int)) = !s.testBit n := by
  have hp : 0 < 2 ^ n := Nat.two_pow_pos n
  unfold withN withoutN
  cases h : s.testBit n
  · simp only [Bool.false_eq_true, if_false]
    generalize (2 : Nat) ^ n = p at *
    refine ⟨beq_eq_false_iff_ne.2 (by omega), by simp⟩
  · have hle := pow_le s n h
    simp only [if_true]
    generalize (2 : Nat) ^ n = p at *
    refine ⟨by simp, beq_eq_false_iff_ne.2 (by omega)⟩
end Go.Proofs.YtnljibmdcknmeabDoor
