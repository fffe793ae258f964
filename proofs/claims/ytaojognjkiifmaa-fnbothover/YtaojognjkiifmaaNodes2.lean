/-
  The nodes of a walk: impl's walk.nodes, spec.WalkNodes, impl.WalkNodes.
-/
import Derived.Test.YtaojognjkiifmaaNodes
namespace Go.Proofs.Ytaojognjkiifmaa
open Go.RowKit

/-- The nodes of a walk that has an arc. -/
def nodesW (xs : List ArcD) (ys : List Int) : List Int := if ys.length = 0 then [] else nodesTo xs ys (arcOf xs (numOf ys 0)).f ys.length
def nodesI (m : Int) (xs : List ArcD) (ys : List Int) : List Int := if okB m xs ys then nodesW xs ys else []

theorem nodesI_len (m : Int) (xs : List ArcD) (ys : List Int) : (nodesI m xs ys).length ≤ 1048576 := by
  unfold nodesI
  split
  · rename_i h
    have := ok_len h
    unfold nodesW
    split
    · simp
    · rw [nodesTo_length]; omega
  · simp

end Go.Proofs.Ytaojognjkiifmaa
