/-
  What two walks share: what arcs of the first cost that are in the second, too. Plain. No condition.
-/
import Derived.Test.YtaojognjkiifmacCost
namespace Go.Proofs.Ytaojognjkiifmac
open Go.RowKit

/-- A number is in a list. -/
def inL (ys : List Int) (x : Int) : Bool := decide (x ∈ ys)
theorem inL_iff (ys : List Int) (x : Int) : inL ys x = true ↔ x ∈ ys := by simp [inL]
theorem inL_no (ys : List Int) (x : Int) : inL ys x = false ↔ x ∉ ys := by simp [inL]
/-- What the first k arcs cost, those that are in another list. -/
def shareTo (xs : List ArcD) (ys zs : List Int) : Nat → Int
  | 0 => 0
  | k + 1 => if inL zs (numOf ys k) then shareTo xs ys zs k + (arcOf xs (numOf ys k)).c else shareTo xs ys zs k
def shareI (m : Int) (xs : List ArcD) (ys zs : List Int) : Int := if okB m xs ys && okB m xs zs then shareTo xs ys zs ys.length else -1
theorem shareTo_bd {m : Int} {xs : List ArcD} {ys zs : List Int} (h : okB m xs ys = true) : ∀ k, k ≤ ys.length → 0 ≤ shareTo xs ys zs k ∧ shareTo xs ys zs k ≤ 99 * k
  | 0, _ => by simp [shareTo]
  | k + 1, hk => by
    have ih := shareTo_bd (zs := zs) h k (by omega)
    obtain ⟨j, a, _, _, h0, h1, e⟩ := ok_arc h (List.getElem?_eq_getElem (show k < ys.length by omega))
    unfold shareTo
    split
    · rw [e]; omega
    · omega
theorem numOf_get {ys : List Int} {k : Nat} {y : Int} (h : ys[k]? = some y) : numOf ys k = y := by simp [numOf, List.getD_eq_getElem?_getD, h]

end Go.Proofs.Ytaojognjkiifmac
