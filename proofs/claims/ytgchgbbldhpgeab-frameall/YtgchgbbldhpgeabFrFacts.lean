/-
  What the laws of layer 4 want besides. Own work.
-/
import Derived.Test.YtgchgbbldhpgeabFrSpec
namespace Go.Proofs.Ytgchgbbldhpgeab
open Go.RowKit

theorem frameF_bytes (load : List Int) (h : ∀ c ∈ load, 0 ≤ c ∧ c < 256) : ∀ c ∈ frameF load, 0 ≤ c ∧ c < 256 := by
  intro c hc
  unfold frameF headF lenB at hc
  simp only [List.mem_append, List.mem_cons, List.not_mem_nil, or_false] at hc
  rcases hc with (((rfl | rfl) | hc) | hc) | hc
  · decide
  · decide
  · exact putS_bytes _ _ c hc
  · exact putS_bytes _ _ c hc
  · exact h c hc
theorem put_ok (load : List Int) (h : load.length ≤ 4096) : putF [] load = (frameF load, 0) := by unfold putF; rw [if_pos h]; rfl
theorem put_no (bs load : List Int) (h : ¬ load.length ≤ 4096) : putF bs load = ([], 5) := by unfold putF; rw [if_neg h]
theorem size_ok (n : Nat) (h : n ≤ 4096) : sizeF (n : Int) = 8 + (n : Int) := by unfold sizeF; rw [if_neg (by omega)]
theorem at_index4 (p : Int) (n : Nat) (h1 : 1 ≤ n) (h2 : n ≤ 5001) : ∃ k : Nat, k < n ∧ (wrap64 (p.tmod n + n)).tmod n = k := by
  have hn : (0 : Int) < (n : Int) := by omega
  have ha := Int.tmod_lt_of_pos p hn
  have hb := Int.lt_tmod_of_pos p hn
  generalize p.tmod n = q at *
  have hw : wrap64 (q + n) = q + n := by unfold wrap64; omega
  rw [hw, Int.tmod_eq_emod_of_nonneg (by omega)]
  have h0 := Int.emod_nonneg (q + n) (by omega : (n : Int) ≠ 0)
  have h3 := Int.emod_lt_of_pos (q + n) hn
  exact ⟨((q + n) % n).toNat, by omega, by omega⟩
end Go.Proofs.Ytgchgbbldhpgeab
