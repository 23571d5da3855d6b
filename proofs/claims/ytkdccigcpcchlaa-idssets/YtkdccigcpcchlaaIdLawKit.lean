/-
  What the walks of layer 5's laws stand on. Own work.
-/
import Derived.Test.YtkdccigcpcchlaaIdAlive
import Derived.Test.YtkdccigcpcchlaaIdBox
namespace Go.Proofs.Ytkdccigcpcchlaa
end Go.Proofs.Ytkdccigcpcchlaa
