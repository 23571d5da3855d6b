/-
  The sum of two parts that lie in a new block. Own work.
-/
import Derived.Test.YtgchgbbldhpgeabCrcSum
import Derived.Test.YtgchgbbldhpgeabBoxes
namespace Go.Proofs.Ytgchgbbldhpgeab
open Go.RowKit

/-- Parts in a new block. -/
theorem parts_new (w : World) (vs : List Value) (xss : List (List Int)) (t : TypeId) (hl : vs.length = xss.length) (hL : ∀ k, k < vs.length → Lies .u8 w (vs.getD k (.slice none 0 0)) (xss.getD k [])) :
    PartsLie (w.alloc (.cells vs.toArray t)) w.heap.size vs xss := by
  refine ⟨hl, fun k hk => ⟨?_, ?_, (hL k hk).below ((Below.refl _ _).alloc (Nat.le_refl _) _)⟩⟩
  · rw [cell_of_row _ _ k _ t (0, 0) (heap_alloc_last w _)]
    simp [List.getD, hk]
  · obtain ⟨ao, cap, e⟩ := (hL k hk).shape
    exact ⟨ao, _, cap, e⟩
theorem parts_two (w : World) (v1 v2 : Value) (x1 x2 : List Int) (t : TypeId) (h1 : Lies .u8 w v1 x1) (h2 : Lies .u8 w v2 x2) : PartsLie (w.alloc (.cells #[v1, v2] t)) w.heap.size [v1, v2] [x1, x2] :=
  parts_new w [v1, v2] [x1, x2] t rfl fun k hk => by
    have : k = 0 ∨ k = 1 := by simp at hk; omega
    rcases this with rfl | rfl
    · exact h1
    · exact h2
theorem sum_two (w : World) (v1 v2 : Value) (x1 x2 : List Int) (t : TypeId) (h1 : Lies .u8 w v1 x1) (h2 : Lies .u8 w v2 x2) (b1 : ∀ c ∈ x1, 0 ≤ c ∧ c < 256) (b2 : ∀ c ∈ x2, 0 ≤ c ∧ c < 256) :
    Calls Try.prog 17 #[.slice (some ⟨w.heap.size, 0, none⟩) 2 2] (w.alloc (.cells #[v1, v2] t)) fun e w' => e = .returned (.int .u32 (moreI 0 (x1 ++ x2) : Nat)) ∧ w' = w.alloc (.cells #[v1, v2] t) := by
  have := sum_any w.heap.size 2 [v1, v2] [x1, x2] _ rfl (by decide) (parts_two w v1 v2 x1 x2 t h1 h2) (by intro xs hxs; simp at hxs; rcases hxs with rfl | rfl; exact b1; exact b2)
  simpa using this
end Go.Proofs.Ytgchgbbldhpgeab
