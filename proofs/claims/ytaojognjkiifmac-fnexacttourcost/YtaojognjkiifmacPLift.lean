/-
  A cost for each arc, with heights taken off and put on; whether there is a cost for each arc. Plain. No condition.
-/
import Derived.Test.YtaojognjkiifmacPCost
namespace Go.Proofs.Ytaojognjkiifmac

def allB (zs : List Int) : Bool := zs.all (fun z => inB z 0 99)
/-- A net is ok, and there is a cost for each arc. -/
def metricB (m : Int) (xs : List ArcD) (cs : List Int) : Bool := netB m xs && (decide (cs.length = xs.length) && allB cs)
def liftOne (hs : List Int) (a : ArcD) : Int := a.c - at_ hs a.f + at_ hs a.t
def liftsOf (hs : List Int) (xs : List ArcD) : List Int := xs.map (liftOne hs)
def highB (m : Int) (xs : List ArcD) (hs : List Int) : Bool := netB m xs && (decide ((hs.length : Int) = m) && allB hs)
def liftB (m : Int) (xs : List ArcD) (hs : List Int) : Bool := highB m xs hs && allB (liftsOf hs xs)
def liftI (m : Int) (xs : List ArcD) (hs : List Int) : List Int := if liftB m xs hs then liftsOf hs xs else []

theorem highB_iff (m : Int) (xs : List ArcD) (hs : List Int) : highB m xs hs = true ↔ netB m xs = true ∧ (hs.length : Int) = m ∧ allB hs = true := by simp [highB]

theorem liftI_len (m : Int) (xs : List ArcD) (hs : List Int) : (liftI m xs hs).length ≤ 1048576 := by
  unfold liftI
  split
  · rename_i h
    simp only [liftB, Bool.and_eq_true] at h
    have := net_num ((highB_iff _ _ _).1 h.1).1
    rw [liftsOf, List.length_map]
    omega
  · simp

theorem liftsOf_next {hs : List Int} {xs : List ArcD} {k : Nat} {a : ArcD} (h : xs[k]? = some a) : liftsOf hs (xs.take (k + 1)) = liftsOf hs (xs.take k) ++ [liftOne hs a] := by
  rw [List.take_add_one, h]
  simp [liftsOf]

/-- The heights at an arc's ends. -/
theorem lift_way {m : Int} {xs : List ArcD} {hs : List Int} {k : Nat} {a : ArcD} (h : highB m xs hs = true) (ha : xs[k]? = some a) :
    ∃ x y : Int, hs[a.f.toNat]? = some x ∧ hs[a.t.toNat]? = some y ∧ (0 ≤ x ∧ x ≤ 99) ∧ (0 ≤ y ∧ y ≤ 99) ∧ (0 ≤ a.c ∧ a.c ≤ 99) ∧ (0 ≤ a.f ∧ a.f < m) ∧ (0 ≤ a.t ∧ a.t < m) ∧ liftOne hs a = a.c - x + y := by
  obtain ⟨h1, h2, h3⟩ := (highB_iff _ _ _).1 h
  have hb := ((netB_iff _ _).1 h1).2.2 a (List.mem_of_getElem? ha)
  have hm := ((netB_iff _ _).1 h1).1
  simp [arcB, inB_iff] at hb
  have hf : 0 ≤ a.f ∧ a.f < m := by omega
  have ht : 0 ≤ a.t ∧ a.t < m := by omega
  have e1 : a.f.toNat < hs.length := by omega
  have e2 : a.t.toNat < hs.length := by omega
  have q1 := List.getElem?_eq_getElem e1
  have q2 := List.getElem?_eq_getElem e2
  have hall : ∀ z ∈ hs, 0 ≤ z ∧ z ≤ 99 := fun z hz => by
    have := List.all_eq_true.1 h3 z hz
    simpa [inB_iff] using this
  refine ⟨_, _, q1, q2, hall _ (List.getElem_mem e1), hall _ (List.getElem_mem e2), by omega, hf, ht, ?_⟩
  simp [liftOne, at_, q1, q2]

end Go.Proofs.Ytaojognjkiifmac
