/-
  The nodes of a walk: spec.l2Nodes, impl's walk.nodes, spec.WalkNodes, impl.WalkNodes. And what is known of a slice of numbers that a call hands back in new memory.
-/
import Derived.Test.YtaojognjkiifmaaCost
import Derived.Test.YtaojognjkiifmaaTo
import Derived.Test.YtaojognjkiifmaaResI
namespace Go.Proofs.Ytaojognjkiifmaa
open Go.RowKit

/-- Where a walk begins, and the ends of its first k arcs. -/
def nodesTo (xs : List ArcD) (ys : List Int) (from_ : Int) (k : Nat) : List Int := from_ :: (List.range k).map fun i => (arcOf xs (numOf ys i)).t
theorem nodesTo_length (xs : List ArcD) (ys : List Int) (f : Int) (k : Nat) : (nodesTo xs ys f k).length = k + 1 := by simp [nodesTo]
theorem nodesTo_next (xs : List ArcD) (ys : List Int) (f : Int) (k : Nat) : nodesTo xs ys f (k + 1) = nodesTo xs ys f k ++ [(arcOf xs (numOf ys k)).t] := by simp [nodesTo, List.range_succ]


end Go.Proofs.Ytaojognjkiifmaa
