/-
  A cost for each arc, of costs and tolls: spec.CostOf. No condition.
-/
import Derived.Test.YtaojognjkiifmacNCosts
import Derived.Test.YtaojognjkiifmacPCost
namespace Go.Proofs.Ytaojognjkiifmac
open Go.RowKit

theorem res_none (w : World) (t : Nat) (cs : Array Value) : Res ((w.alloc (.cells cs t)).alloc (.cells #[] 3)) (w.heap.size + 1) (.slice (some ⟨w.heap.size + 1, 0, none⟩) 0 0) [] := by
  refine ⟨rfl, .inr ⟨w.heap.size + 1, 0, #[], rfl, Nat.le_refl _, ?_, Nat.le_refl _, by unfold maxLen; omega, rfl, rfl⟩⟩
  have := heap_alloc_new (w.alloc (.cells cs t)) (.cells #[] 3)
  simpa using this


end Go.Proofs.Ytaojognjkiifmac
