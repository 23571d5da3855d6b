/-
  What the rows of layer 2 have in common: an argument []byte opened. Own work.
-/
import Derived.Test.YtgjdlclkibiffaaRows
import Derived.Test.YtgjdlclkibiffaaLies
import Derived.ChangeSlices
import Derived.ProofKit
import Derived.OpenShut
import Derived.ChangeOld
import Derived.Below
import Derived.Carry
namespace Go.Proofs.Ytgjdlclkibiffaa
open Go.ChangeShapes Go.WideShapes Go.ChangeAt Go.RowKit

theorem own : ownKnob Try.prog.godebug = none := by kernel_rfl
theorem laidOut : laidOutB Try.prog = true := by kernel_rfl
end Go.Proofs.Ytgjdlclkibiffaa
