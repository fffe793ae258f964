/-
  When arcs are a walk: spec.l2Ok, spec.WalkOk, impl's walk.ok, impl.WalkOk all answer by 'walkB'.
-/
import Derived.Test.YtaojognjkiifmacOk
namespace Go.Proofs.Ytaojognjkiifmac
open Go.RowKit

/-- Number k of a list; arc number i of a list. -/
def numOf (ys : List Int) (k : Nat) : Int := ys.getD k 0
def arcOf (xs : List ArcD) (i : Int) : ArcD := xs.getD i.toNat default

/-- Arc k of a walk is there, and begins where the one ahead ends. -/
def stepB (xs : List ArcD) (ys : List Int) (k : Nat) : Bool :=
  inB (numOf ys k) 0 ((xs.length : Int) - 1) && (k == 0 || (arcOf xs (numOf ys k)).f == (arcOf xs (numOf ys (k - 1))).t)

def walkB (xs : List ArcD) (ys : List Int) : Bool := decide (ys.length ≤ 20) && (List.range ys.length).all (stepB xs ys)

theorem walkB_iff (xs : List ArcD) (ys : List Int) : walkB xs ys = true ↔ ys.length ≤ 20 ∧ ∀ k, k < ys.length → stepB xs ys k = true := by simp [walkB]

/-- The first k arcs are right. -/
def StepsTo (xs : List ArcD) (ys : List Int) (k : Nat) : Prop := ∀ j, j < k → stepB xs ys j = true
theorem StepsTo.next {xs : List ArcD} {ys : List Int} {k : Nat} (h : StepsTo xs ys k) (hk : stepB xs ys k = true) : StepsTo xs ys (k + 1) := fun j hj => by
  rcases Nat.lt_or_ge j k with hlt | hge
  · exact h j hlt
  · obtain rfl : j = k := by omega
    exact hk
theorem walkB_bad {xs : List ArcD} {ys : List Int} {k : Nat} (hk : k < ys.length) (h : stepB xs ys k = false) : walkB xs ys = false := by
  rw [Bool.eq_false_iff]
  intro hw
  rw [((walkB_iff _ _).1 hw).2 k hk] at h
  cases h
theorem walkB_long {xs : List ArcD} {ys : List Int} (h : 20 < ys.length) : walkB xs ys = false := by
  rw [Bool.eq_false_iff]
  intro hw
  have := ((walkB_iff _ _).1 hw).1
  omega

theorem stepB_out {xs : List ArcD} {ys : List Int} {k : Nat} {y : Int} (hy : ys[k]? = some y) (h : inB y 0 ((xs.length : Int) - 1) = false) : stepB xs ys k = false := by
  simp [stepB, numOf, List.getD_eq_getElem?_getD, hy, h]
theorem stepB_first {xs : List ArcD} {ys : List Int} {y : Int} (hy : ys[0]? = some y) (h : inB y 0 ((xs.length : Int) - 1) = true) : stepB xs ys 0 = true := by
  simp [stepB, numOf, List.getD_eq_getElem?_getD, hy, h]
theorem stepB_in {xs : List ArcD} {ys : List Int} {k : Nat} {j j' : Nat} {a a' : ArcD} (hk : k ≠ 0) (hy : ys[k]? = some (j : Int)) (hy' : ys[k - 1]? = some (j' : Int)) (ha : xs[j]? = some a) (ha' : xs[j']? = some a') : stepB xs ys k = (a.f == a'.t) := by
  have h1 : inB (j : Int) 0 ((xs.length : Int) - 1) = true := (inB_iff _ _ _).2 (by have := (List.getElem?_eq_some_iff.1 ha).1; omega)
  simp [stepB, numOf, arcOf, List.getD_eq_getElem?_getD, hy, hy', ha, ha', h1, hk]

/-- What a right step tells: its arc is there. -/
theorem stepB_arc {xs : List ArcD} {ys : List Int} {k : Nat} {y : Int} (h : stepB xs ys k = true) (hy : ys[k]? = some y) : ∃ (j : Nat) (a : ArcD), y = j ∧ xs[j]? = some a := by
  have h1 : inB y 0 ((xs.length : Int) - 1) = true := by
    have := h
    simp [stepB, numOf, List.getD_eq_getElem?_getD, hy] at this
    exact this.1
  have := (inB_iff _ _ _).1 h1
  exact ⟨y.toNat, _, by omega, List.getElem?_eq_getElem (by omega)⟩

theorem in_arc {xs : List ArcD} {y : Int} (h : inB y 0 ((xs.length : Int) - 1) = true) : ∃ (j : Nat) (a : ArcD), y = j ∧ xs[j]? = some a := by
  have := (inB_iff _ _ _).1 h
  exact ⟨y.toNat, _, by omega, List.getElem?_eq_getElem (by omega)⟩

/-- The net is ok and the arcs are a walk. -/
def okB (m : Int) (xs : List ArcD) (ys : List Int) : Bool := netB m xs && walkB xs ys

end Go.Proofs.Ytaojognjkiifmac
