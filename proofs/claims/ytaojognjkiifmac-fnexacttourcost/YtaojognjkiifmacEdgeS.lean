/-
  Nodes with arcs to or from other parts, as the specification goes: spec.l10Parts, spec.l10Edge, spec.PartEdges. No condition.
-/
import Derived.Test.YtaojognjkiifmacMList
import Derived.Test.YtaojognjkiifmacPEdge
import Derived.Test.YtaojognjkiifmacCOfS
namespace Go.Proofs.Ytaojognjkiifmac
open Go.RowKit

theorem edgeB_next {ps : List Int} {xs : List ArcD} {v : Int} {k : Nat} {a : ArcD} (h : edgeB ps (xs.take k) v = false) (ha : xs[k]? = some a) (hb : hitA ps a v = false) : edgeB ps (xs.take (k + 1)) v = false := by
  rw [edgeB, List.take_add_one, ha, List.any_append]
  rw [edgeB] at h
  rw [h]
  simp only [Option.toList_some, List.any_cons, List.any_nil, hb, Bool.or_false]
theorem edgeB_hit {ps : List Int} {xs : List ArcD} {v : Int} {k : Nat} {a : ArcD} (ha : xs[k]? = some a) (hb : hitA ps a v = true) : edgeB ps xs v = true := by
  rw [edgeB, List.any_eq_true]
  exact ⟨a, List.mem_of_getElem? ha, hb⟩
theorem getElem_part {d : List Int} {v : Int} (h0 : 0 ≤ v) (h : v < d.length) : d[v.toNat]? = some (at_ d v) := by
  have : v.toNat < d.length := by omega
  simp [at_, this]

theorem edges_none {m : Int} {xs : List ArcD} {ps : List Int} {k : Nat} (h : k = 0 ∨ ((k : Int) ≤ m ∧ partB m xs ps = true)) (hb : partB m xs ps = false) : edgesI m xs ps = edgesTo ps xs k := by
  rcases h with rfl | ⟨_, h⟩
  · rw [edgesI, hb]; rfl
  · rw [hb] at h; cases h
theorem edges_end {m : Int} {xs : List ArcD} {ps : List Int} {k : Nat} (h : k = 0 ∨ ((k : Int) ≤ m ∧ partB m xs ps = true)) (hk : ¬ (k : Int) < m) : edgesI m xs ps = edgesTo ps xs k := by
  cases hp : partB m xs ps with
  | false => exact edges_none h hp
  | true =>
    have h1 := ((netB_iff _ _).1 ((partB_iff _ _ _).1 hp).1).1
    have : m = k := by rcases h with rfl | ⟨h, _⟩ <;> omega
    rw [edgesI, hp, if_pos rfl, this, Int.toNat_natCast]

end Go.Proofs.Ytaojognjkiifmac
