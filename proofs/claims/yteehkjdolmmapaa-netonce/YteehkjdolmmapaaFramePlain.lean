/-
  What the rows of layer 2 have in common: an argument []byte opened. Own work.
-/
import Derived.Test.YteehkjdolmmapaaRows
import Derived.Test.YteehkjdolmmapaaLies
import Derived.ChangeSlices
import Derived.ProofKit
import Derived.OpenShut
import Derived.ChangeOld
import Derived.Below
import Derived.Carry
namespace Go.Proofs.Yteehkjdolmmapaa
open Go.ChangeShapes Go.WideShapes Go.ChangeAt Go.RowKit

theorem own : ownKnob Try.prog.godebug = none := by kernel_rfl
theorem laidOut : laidOutB Try.prog = true := by kernel_rfl
/-- An argument of type []byte, opened: it lies there as bytes. -/
theorem lies_of_trod {H : Type} {enc : TypeId × Value → H} {W : World} {a0 : Option Addr} {len cap : Nat} {d : DataW H} {p : List MemPlace}
    (h : DataW.Trod enc Try.prog W 0 (fun _ => true) true 35 (.slice a0 len cap) d p) : ∃ xs, Lies .u8 W (.slice a0 len cap) xs ∧ ∀ c ∈ xs, 0 ≤ c ∧ c < 256 := by
  obtain ⟨fuel, hf⟩ := h
  rcases open_ints Try.underlying35 Try.underlying5 (by kernel_rfl) hf with ⟨hcs, _⟩ | ⟨x, l, c, zs, hcs, _, hl, hm, hz, _, hcell, hwz⟩
  · simp [Value.cells] at hcs
    obtain ⟨rfl, rfl, rfl⟩ := hcs
    exact ⟨[], Lies.nil _ _, by simp⟩
  · simp [Value.cells] at hcs
    obtain ⟨rfl, rfl, rfl⟩ := hcs
    simp only [if_true] at hz
    refine ⟨zs.take len, ?_, fun c hc => ?_⟩
    · by_cases h0 : len = 0
      · subst h0
        exact .inl ⟨by simp, _, _, rfl, fun h => by cases h⟩
      · obtain ⟨b, off, spot⟩ := x
        have hc0 := hcell 0 (by omega)
        have hspot : spot = none := by simpa [Addr.add] using World.cell?_spot hc0
        subst hspot
        have hxl : (zs.take len).length = len := by simp; omega
        have hb : b < W.heap.size := by
          rcases Nat.lt_or_ge b W.heap.size with h | h
          · exact h
          · have hn : W.heap[b]? = none := by simp [h]
            simp [Addr.add, World.cell?, hn] at hc0
        refine .inr ⟨?_, b, off, cap, by rw [hxl], hb, by omega, hm, fun t ht => ?_⟩
        · intro e; rw [e] at hxl; simp at hxl; omega
        · have := hcell t (by omega)
          rw [Addr.add_lit] at this
          rw [this]
          have ht2 : t < len := by omega
          simp [List.getD, ht2]
    · have := bounds_u8 (hwz c (List.mem_of_mem_take hc))
      omega
end Go.Proofs.Yteehkjdolmmapaa
