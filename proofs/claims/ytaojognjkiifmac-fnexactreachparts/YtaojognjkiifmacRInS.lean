/-
  The nodes that can be reached for no more, as the specification goes: spec.ReachIn. No condition.
-/
import Derived.Maps.AppendAt
import Derived.Test.YtaojognjkiifmacPReach
namespace Go.Proofs.Ytaojognjkiifmac
open Go.RowKit

theorem Res.empty_new (w : World) : Res (w.alloc (.cells #[] 3)) w.heap.size (.slice (some ⟨w.heap.size, 0, none⟩) 0 0) [] :=
  ⟨rfl, .inr ⟨w.heap.size, 0, #[], rfl, Nat.le_refl _, heap_alloc_new w _, Nat.le_refl _, by unfold maxLen; omega, rfl, rfl⟩⟩

end Go.Proofs.Ytaojognjkiifmac
