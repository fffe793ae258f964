/-
  Whether there is a cost for each arc: spec.l9Ok, impl.eachWithin, impl.metricOk. No condition.
-/
import Derived.Test.YtaojognjkiifmacMList
import Derived.Test.YtaojognjkiifmacPLift
namespace Go.Proofs.Ytaojognjkiifmac
open Go.RowKit




end Go.Proofs.Ytaojognjkiifmac
