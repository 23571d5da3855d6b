/-
  copy(x, y) into bytes that are a whole variable, at any place of it, from bytes that lie there in whatever form, or from a text: as an arm, and as a step of a region that draws. Own work.
-/
import Derived.Test.YtgjdlclkibiffaaBoxes
import Derived.Laws.CopyRow
import Derived.Laws.IdiomCopy
import Derived.Lib.BufferWrite
namespace Go.Proofs.Ytgjdlclkibiffaa
open Go.RowKit

def cells8 (xs : List Int) : Array Value := (xs.map (Value.int .u8)).toArray
theorem cells8_size (xs : List Int) : (cells8 xs).size = xs.length := by simp [cells8]
theorem cells8_one (xs : List Int) : (cells8 xs).all (·.oneCell') = true := by simp [cells8, Value.oneCell']
end Go.Proofs.Ytgjdlclkibiffaa
