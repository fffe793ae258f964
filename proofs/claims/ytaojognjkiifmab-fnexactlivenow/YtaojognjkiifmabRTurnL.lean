/-
  Turn: the copies, comparisons and marks that the laws make of slices of them. No condition.
-/
import Derived.Test.YtaojognjkiifmabRTurn
namespace Go.Proofs.Ytaojognjkiifmab
open Go.RowKit

set_option maxRecDepth 100000 in
open Go.ChangeShapes Go.WideShapes Go.ChangeAt Go.Deep Go.Joins in
open Go.ChangeShapes Go.WideShapes Go.ChangeAt Go.Deep Go.Joins in
def markTurns (k : Nat) (n : Nat) : List TurnD := (List.range n).map fun i => ⟨((k + 3 * i : Nat) : Int), ((k + 3 * i + 1 : Nat) : Int), ((k + 3 * i + 2 : Nat) : Int)⟩
theorem markTurns_length (k n : Nat) : (markTurns k n).length = n := by simp [markTurns]
theorem markTurns_at (k n i : Nat) (h : i < n) : (markTurns k n)[i]? = some ⟨((k + 3 * i : Nat) : Int), ((k + 3 * i + 1 : Nat) : Int), ((k + 3 * i + 2 : Nat) : Int)⟩ := by simp [markTurns, h]
/-- The row and the marks so far. -/
def MarkedToTurn (w : World) (g t sz k n j : Nat) : Prop := RowN w g t sz ∧ ∀ i a, i < j → (markTurns k n)[i]? = some a → TurnRec w g (i * 3) a
theorem MarkedToTurn.next {w : World} {g t n sz k j : Nat} (h : MarkedToTurn w g t sz k n j) (hj : j < n) (hs : n * 3 ≤ sz) :
    MarkedToTurn (((w.setCell ⟨g, j * 3, none⟩ (.int .i64 ((k + 3 * j : Nat) : Int))).setCell ⟨g, j * 3 + 1, none⟩ (.int .i64 ((k + 3 * j + 1 : Nat) : Int))).setCell ⟨g, j * 3 + 2, none⟩ (.int .i64 ((k + 3 * j + 2 : Nat) : Int))) g t sz k n (j + 1) := by
  refine ⟨(((h.1.set _ _).set _ _).set _ _), fun i a hi hia => ?_⟩
  rcases Nat.lt_or_ge i j with hlt | hge
  · exact ((((h.2 i a hlt hia).set _ _ (by omega)).set _ _ (by omega)).set _ _ (by omega))
  · obtain rfl : i = j := by omega
    rw [markTurns_at k n i hj] at hia
    injection hia with hia
    subst hia
    exact TurnRec.put h.1 (by omega) _ _ _

end Go.Proofs.Ytaojognjkiifmab
