/-
  What a walk costs: spec.l2Cost, impl's walk.cost, spec.WalkCost, impl.WalkCost.
-/
import Derived.Test.YtaojognjkiifmacWalk2
namespace Go.Proofs.Ytaojognjkiifmac
open Go.RowKit

/-- What the first k arcs cost. -/
def sumTo (xs : List ArcD) (ys : List Int) : Nat → Int
  | 0 => 0
  | k + 1 => sumTo xs ys k + (arcOf xs (numOf ys k)).c

/-- What arcs cost; -1: they are no walk. -/
def costI (m : Int) (xs : List ArcD) (ys : List Int) : Int := if okB m xs ys then sumTo xs ys ys.length else -1

theorem okB_iff (m : Int) (xs : List ArcD) (ys : List Int) : okB m xs ys = true ↔ netB m xs = true ∧ walkB xs ys = true := by simp [okB]

/-- An arc of a walk: it is there, and costs 0 to 99. -/
theorem ok_arc {m : Int} {xs : List ArcD} {ys : List Int} {k : Nat} {y : Int} (h : okB m xs ys = true) (hy : ys[k]? = some y) : ∃ (j : Nat) (a : ArcD), y = j ∧ xs[j]? = some a ∧ 0 ≤ a.c ∧ a.c ≤ 99 ∧ arcOf xs (numOf ys k) = a := by
  obtain ⟨h1, h2⟩ := (okB_iff _ _ _).1 h
  obtain ⟨j, a, rfl, ha⟩ := stepB_arc (((walkB_iff _ _).1 h2).2 k (List.getElem?_eq_some_iff.1 hy).1) hy
  have hb := ((netB_iff _ _).1 h1).2.2 a (List.mem_of_getElem? ha)
  have hc : 0 ≤ a.c ∧ a.c ≤ 99 := by
    simp [arcB, inB_iff] at hb
    exact hb.2.2.2.1
  exact ⟨j, a, rfl, ha, hc.1, hc.2, by simp [arcOf, numOf, List.getD_eq_getElem?_getD, hy, ha]⟩

theorem sumTo_bd {m : Int} {xs : List ArcD} {ys : List Int} (h : okB m xs ys = true) : ∀ k, k ≤ ys.length → 0 ≤ sumTo xs ys k ∧ sumTo xs ys k ≤ 99 * k
  | 0, _ => by simp [sumTo]
  | k + 1, hk => by
    have ih := sumTo_bd h k (by omega)
    obtain ⟨j, a, _, _, h0, h1, e⟩ := ok_arc h (List.getElem?_eq_getElem (show k < ys.length by omega))
    simp only [sumTo, e]
    omega

theorem ok_len {m : Int} {xs : List ArcD} {ys : List Int} (h : okB m xs ys = true) : ys.length ≤ 20 := ((walkB_iff _ _).1 ((okB_iff _ _ _).1 h).2).1
theorem ok_num {m : Int} {xs : List ArcD} {ys : List Int} (h : okB m xs ys = true) : xs.length ≤ 16 := ((netB_iff _ _).1 ((okB_iff _ _ _).1 h).1).2.1

end Go.Proofs.Ytaojognjkiifmac
