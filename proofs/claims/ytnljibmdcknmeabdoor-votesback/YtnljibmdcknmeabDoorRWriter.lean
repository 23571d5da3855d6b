/-
  The reference's writer: Short, and Num, Byte, Bool, Text, Key of a writer that is a variable of its own. Own work.
-/
import Derived.Test.YtnljibmdcknmeabDoorAppStr
import Derived.Test.YtnljibmdcknmeabDoorBytes
namespace Go.Proofs.YtnljibmdcknmeabDoor
open Go.RowKit

theorem shortS_pos (n : Nat) : 1 ≤ (shortS n).length := by
  by_cases h : n < 128
  · rw [shortS_lt h]; simp
  · rw [shortS_ge h]; simp
theorem heap_alloc_last' (w : World) (o : Obj) : (w.alloc o).heap[w.heap.size]? = some o := by
  show (w.heap.push o)[w.heap.size]? = some o
  simp
theorem owns_any {w : World} {base e size n : Nat} {v : Value} {xs : List Value} (h : w.ownsRow base e size v n xs) : w.ownsRow 0 e size v n xs := by
  obtain ⟨hl, h0 | ⟨g, cap, cur, rfl, _, r⟩⟩ := h
  · exact ⟨hl, .inl h0⟩
  · exact ⟨hl, .inr ⟨g, cap, cur, rfl, Nat.zero_le _, r⟩⟩
theorem owns_place {w : World} {base e size n : Nat} {v : Value} {xs : List Value} (h : w.ownsRow base e size v n xs) : v.ownBlock = none ∨ ∃ g, v.ownBlock = some g ∧ base ≤ g := by
  obtain ⟨_, ⟨rfl, _⟩ | ⟨g, cap, cur, rfl, hb, _⟩⟩ := h
  · exact .inl rfl
  · exact .inr ⟨g, rfl, hb⟩
theorem owns_lt {w : World} {base e size n g : Nat} {v : Value} {xs : List Value} (h : w.ownsRow base e size v n xs) (hg : v.ownBlock = some g) : g < w.heap.size := by
  obtain ⟨_, ⟨rfl, _⟩ | ⟨g2, cap, cur, rfl, _, hh, _⟩⟩ := h
  · cases hg
  · cases hg
    exact (Array.getElem?_eq_some_iff.1 hh).1
end Go.Proofs.YtnljibmdcknmeabDoor
