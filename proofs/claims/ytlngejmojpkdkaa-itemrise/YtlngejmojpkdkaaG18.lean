/-
  Own texts put together: TbRef. Own work.
-/
import Derived.Test.YtlngejmojpkdkaaG15
import Derived.Test.YtlngejmojpkdkaaG17
namespace Go.Proofs.Ytlngejmojpkdkaa
end Go.Proofs.Ytlngejmojpkdkaa
