/-
  What the walks of layer 5's laws stand on. Own work.
-/
import Derived.Test.YtkdccigcpcchlabIdAlive
import Derived.Test.YtkdccigcpcchlabIdBox
namespace Go.Proofs.Ytkdccigcpcchlab
end Go.Proofs.Ytkdccigcpcchlab
