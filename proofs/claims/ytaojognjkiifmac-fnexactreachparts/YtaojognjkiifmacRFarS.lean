/-
  The most that it costs at least from one node to another one, as the specification goes: spec.ReachFar. No condition.
-/
import Derived.Test.YtaojognjkiifmacPReach
namespace Go.Proofs.Ytaojognjkiifmac
open Go.RowKit

end Go.Proofs.Ytaojognjkiifmac
