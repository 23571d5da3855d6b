/-
  The reference of layer 4: Scan, All, Lists. Own work.
-/
import Derived.Test.YtgchgbbldhpgeabFrNext
import Derived.Test.YtgchgbbldhpgeabFrScan
import Derived.Test.YtgchgbbldhpgeabFrRows
namespace Go.Proofs.Ytgchgbbldhpgeab
open Go.RowKit

end Go.Proofs.Ytgchgbbldhpgeab
