/-
  What the rows of layer 1 have in common: the library's table as the rows list it, and a world for the witness that holds it. Own work.
-/
import Derived.Test.YtdfoclmkhhmdbaaDoorCards
import Derived.Test.YtdfoclmkhhmdbaaDoorTie
import Derived.Test.YtdfoclmkhhmdbaaDoorLists
import Derived.ProofKit
import Derived.OpenShut
import Derived.ChangeOld
import Derived.Below
import Derived.Deep.DeepHandedRow
import Derived.Lib.LaidTab
namespace Go.Proofs.YtdfoclmkhhmdbaaDoor
open Go.ChangeShapes Go.WideShapes Go.ChangeAt Go.RowKit

theorem own : ownKnob Tryd.prog.godebug = none := by kernel_rfl
theorem laidOut : laidOutB Tryd.prog = true := by kernel_rfl
theorem gTab : Tryd.prog.globalNamed "math/bits.deBruijn64tab" = some 0 := by kernel_rfl
theorem gTabType : (Tryd.prog.globals[0]?).map (·.type) = some 63 := by kernel_rfl
theorem cellsTab : Tryd.prog.cellsOf 63 = 64 := by kernel_rfl
theorem cellsU8 : Tryd.prog.cellsOf 5 = 1 := by kernel_rfl
/-- The rows' one list. -/
abbrev laidList : List (String × DataW Unit) := [("math/bits.deBruijn64tab", Rows.laid_math_bits_deBruijn64tab)]
def tabInts : List Int := Lib.deBruijn64tab.map fun (n : Nat) => (n : Int)
theorem laid_eq {H : Type} : (Rows.laid_math_bits_deBruijn64tab : DataW H) = Lib.tabData .u8 tabInts := rfl
theorem table {W : World} (h : laidMet Tryd.prog laidList W) : Lib.TabIs Tryd.prog W "math/bits.deBruijn64tab" .u8 tabInts :=
  Lib.tabIs_of_head (rest := []) gTab gTabType Tryd.underlying63 Tryd.underlying5 cellsU8 cellsTab (by rw [← laid_eq]; exact h)
theorem tab_of_laid {W : World} (h : laidMet Tryd.prog laidList W) : Tab W := by
  intro j hj
  have hl : tabInts.length = 64 := by decide
  have := (table h).cell gTab j (by omega)
  rw [this]
  have e : tabInts.getD j 0 = ((Lib.deBruijn64tab.getD j 0 : Nat) : Int) := by
    simp only [tabInts, List.getD, List.getElem?_map]
    cases Lib.deBruijn64tab[j]? <;> simp
  rw [e]
/-- A world with the table laid (block 0 holds what its initialiser lays): for the witness. -/
def layTab (w : World) : World :=
  { w with heap := w.heap.modify 0 fun
      | .cells _ t frozen => .cells (tabInts.map (Value.int .u8)).toArray t frozen
      | o => o }
end Go.Proofs.YtdfoclmkhhmdbaaDoor
