/-
  Own texts put together: LkSift. Own work.
-/
import Derived.Test.YtiloagmkkhlfjaaGreatG17
namespace Go.Proofs.YtiloagmkkhlfjaaGreat
section
open Go.RowKit Go.Maps Go.Shelf Go.Sort Classical
def Chos (lt : TxN → TxN → Bool) (hi first r c : Nat) (d : Array TxN) : Prop := (c = 2 * r + 2 ∧ 2 * r + 2 < hi ∧ lt d[first + (2 * r + 1)]! d[first + (2 * r + 1) + 1]! = true) ∨ (c = 2 * r + 1 ∧ 2 * r + 1 < hi ∧ (2 * r + 2 < hi → lt d[first + (2 * r + 1)]! d[first + (2 * r + 1) + 1]! = false))
theorem sift_end {lt : TxN → TxN → Bool} {hi first r : Nat} {d : Array TxN} (h : 2 * r + 1 ≥ hi) : siftDown lt hi first r d = d := by
 rw [siftDown, dif_pos h]
theorem sift_stop {lt : TxN → TxN → Bool} {hi first r c : Nat} {d : Array TxN} (h : Chos lt hi first r c d) (hl : lt d[first + r]! d[first + c]! = false) : siftDown lt hi first r d = d := by
 rcases h with ⟨rfl, h1, h2⟩ | ⟨rfl, h1, h2⟩
 ·rw [siftDown, dif_neg (by omega), if_pos (by simp [h2]; omega), if_pos (by simp [hl])]
 ·rw [siftDown, dif_neg (by omega), if_neg (by
   intro h3
   simp only [Bool.and_eq_true, decide_eq_true_eq] at h3
   rw [h2 (by omega)] at h3
   cases h3.2), if_pos (by simp [hl])]
theorem sift_go {lt : TxN → TxN → Bool} {hi first r c : Nat} {d : Array TxN} (h : Chos lt hi first r c d) (hl : lt d[first + r]! d[first + c]! = true) : siftDown lt hi first r d = siftDown lt hi first c (swp d (first + r) (first + c)) := by
 rcases h with ⟨rfl, h1, h2⟩ | ⟨rfl, h1, h2⟩
 ·rw [siftDown, dif_neg (by omega), if_pos (by simp [h2]; omega), if_neg (by simp [hl]), dif_pos h1]
 ·conv => lhs; rw [siftDown]
  rw [dif_neg (by omega), if_neg (by
   intro h3
   simp only [Bool.and_eq_true, decide_eq_true_eq] at h3
   rw [h2 (by omega)] at h3
   cases h3.2), if_neg (by simp [hl])]
end
end Go.Proofs.YtiloagmkkhlfjaaGreat
