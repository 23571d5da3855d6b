/-
  append(own, x...) where x lies there as bytes, whatever its form. Own work.
-/
import Derived.Test.YtgjdlclkibiffaaLies
import Derived.Laws.AppendOwnNone
import Derived.Deep.DeepAppendWide
namespace Go.Proofs.Ytgjdlclkibiffaa
open Go.RowKit

theorem info5 : (Try.prog.info? 5).map (fun i => (i.zero, i.size, i.bytes)) = some (some (.int .u8 0), 1, 1) := by kernel_rfl
end Go.Proofs.Ytgjdlclkibiffaa
