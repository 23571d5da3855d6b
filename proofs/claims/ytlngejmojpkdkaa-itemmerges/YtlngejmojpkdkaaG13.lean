/-
  Own texts put together: RvSeq. Own work.
-/
import Derived.Test.YtlngejmojpkdkaaG11
namespace Go.Proofs.Ytlngejmojpkdkaa
end Go.Proofs.Ytlngejmojpkdkaa
