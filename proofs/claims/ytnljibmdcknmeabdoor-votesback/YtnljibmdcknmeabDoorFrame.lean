/-
  What the rows of layer 1 have in common: the library's table as the rows list it, and a world for the witness that holds it. Own work.
-/
import Derived.Test.YtnljibmdcknmeabDoorCards
import Derived.Test.YtnljibmdcknmeabDoorTie
import Derived.Test.YtnljibmdcknmeabDoorLists
import Derived.ChangeSlices
import Derived.ProofKit
import Derived.OpenShut
import Derived.ChangeOld
import Derived.Below
import Derived.Deep.DeepHandedRow
import Derived.Lib.LaidTab
namespace Go.Proofs.YtnljibmdcknmeabDoor
open Go.ChangeShapes Go.WideShapes Go.ChangeAt Go.RowKit

theorem own : ownKnob Tryd.prog.godebug = none := by kernel_rfl
theorem laidOut : laidOutB Tryd.prog = true := by kernel_rfl
theorem gTab : Tryd.prog.globalNamed "math/bits.deBruijn64tab" = some 0 := by kernel_rfl
theorem gTabType : (Tryd.prog.globals[0]?).map (·.type) = some 87 := by kernel_rfl
theorem cellsTab : Tryd.prog.cellsOf 87 = 64 := by kernel_rfl
theorem cellsU8 : Tryd.prog.cellsOf 5 = 1 := by kernel_rfl
/-- The rows' one list. -/
abbrev laidList : List (String × DataW Unit) := [("math/bits.deBruijn64tab", Rows.laid_math_bits_deBruijn64tab)]
def tabInts : List Int := Lib.deBruijn64tab.map fun (n : Nat) => (n : Int)
theorem laid_eq {H : Type} : (Rows.laid_math_bits_deBruijn64tab : DataW H) = Lib.tabData .u8 tabInts := rfl
theorem table {W : World} (h : laidMet Tryd.prog laidList W) : Lib.TabIs Tryd.prog W "math/bits.deBruijn64tab" .u8 tabInts :=
  Lib.tabIs_of_head (rest := []) gTab gTabType Tryd.underlying87 Tryd.underlying5 cellsU8 cellsTab (by rw [← laid_eq]; exact h)
theorem tab_of_laid {W : World} (h : laidMet Tryd.prog laidList W) : Tab W := by
  intro j hj
  have hl : tabInts.length = 64 := by decide
  have := (table h).cell gTab j (by omega)
  rw [this]
  have e : tabInts.getD j 0 = ((Lib.deBruijn64tab.getD j 0 : Nat) : Int) := by
    simp only [tabInts, List.getD, List.getElem?_map]
    cases Lib.deBruijn64tab[j]? <;> simp
  rw [e]
/-- A world with the table laid (block 0 holds what its initialiser lays): for the witness. -/
def layTab (w : World) : World :=
  { w with heap := w.heap.modify 0 fun
      | .cells _ t frozen => .cells (tabInts.map (Value.int .u8)).toArray t frozen
      | o => o }
/-- An argument of type []byte, opened: it lies there as bytes. -/
theorem lies_of_trod {H : Type} {enc : TypeId × Value → H} {W : World} {a0 : Option Addr} {len cap : Nat} {d : DataW H} {p : List MemPlace}
    (h : DataW.Trod enc Tryd.prog W 0 (fun _ => true) true 41 (.slice a0 len cap) d p) : ∃ xs, Lies .u8 W (.slice a0 len cap) xs ∧ ∀ c ∈ xs, 0 ≤ c ∧ c < 256 := by
  obtain ⟨fuel, hf⟩ := h
  rcases open_ints Tryd.underlying41 Tryd.underlying5 (by kernel_rfl) hf with ⟨hcs, _⟩ | ⟨x, l, c, zs, hcs, _, hl, hm, hz, _, hcell, hwz⟩
  · simp [Value.cells] at hcs
    obtain ⟨rfl, rfl, rfl⟩ := hcs
    exact ⟨[], Lies.nil _ _, by simp⟩
  · simp [Value.cells] at hcs
    obtain ⟨rfl, rfl, rfl⟩ := hcs
    simp only [if_true] at hz
    refine ⟨zs.take len, ?_, fun c hc => ?_⟩
    · by_cases h0 : len = 0
      · subst h0
        exact .inl ⟨by simp, _, _, rfl, fun h => by cases h⟩
      · obtain ⟨b, off, spot⟩ := x
        have hc0 := hcell 0 (by omega)
        have hspot : spot = none := by simpa [Addr.add] using World.cell?_spot hc0
        subst hspot
        have hxl : (zs.take len).length = len := by simp; omega
        have hb : b < W.heap.size := by
          rcases Nat.lt_or_ge b W.heap.size with h | h
          · exact h
          · have hn : W.heap[b]? = none := by simp [h]
            simp [Addr.add, World.cell?, hn] at hc0
        refine .inr ⟨?_, b, off, cap, by rw [hxl], hb, by omega, hm, fun t ht => ?_⟩
        · intro e; rw [e] at hxl; simp at hxl; omega
        · have := hcell t (by omega)
          rw [Addr.add_lit] at this
          rw [this]
          have ht2 : t < len := by omega
          simp [List.getD, ht2]
    · have := bounds_u8 (hwz c (List.mem_of_mem_take hc))
      omega
end Go.Proofs.YtnljibmdcknmeabDoor
