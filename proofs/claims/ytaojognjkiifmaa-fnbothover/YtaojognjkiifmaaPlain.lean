/-
  A walk without its rings: impl.lastIndex, impl's walk.plain, spec.WalkPlain, impl.WalkPlain.
-/
import Derived.Test.YtaojognjkiifmaaNodes2
namespace Go.Proofs.Ytaojognjkiifmaa
open Go.RowKit

/-- i is where x stands last in a list. -/
def IsLast (nd : List Int) (x : Int) (i : Nat) : Prop := nd[i]? = some x ∧ ∀ j, i < j → nd[j]? ≠ some x

/-- Where x stands last among the first k + 1. -/
def lastFrom (nd : List Int) (x : Int) : Nat → Nat
  | 0 => 0
  | k + 1 => if nd[k + 1]? = some x then k + 1 else lastFrom nd x k
def lastIx (nd : List Int) (x : Int) : Nat := lastFrom nd x nd.length

theorem lastFrom_eq {nd : List Int} {x : Int} {i : Nat} (h : IsLast nd x i) : ∀ k, i ≤ k → lastFrom nd x k = i
  | 0, hk => by simp [lastFrom]; omega
  | k + 1, hk => by
    unfold lastFrom
    split
    · rename_i h1
      rcases Nat.lt_or_ge i (k + 1) with hlt | hge
      · exact absurd h1 (h.2 _ hlt)
      · omega
    · rename_i h1
      have : i ≠ k + 1 := fun e => by subst e; exact h1 h.1
      exact lastFrom_eq h k (by omega)
theorem lastIx_eq {nd : List Int} {x : Int} {i : Nat} (h : IsLast nd x i) : lastIx nd x = i :=
  lastFrom_eq h _ (Nat.le_of_lt (List.getElem?_eq_some_iff.1 h.1).1)

theorem lastFrom_spec {nd : List Int} {x : Int} {s : Nat} (hs : nd[s]? = some x) : ∀ k, s ≤ k → (∀ j, k < j → nd[j]? ≠ some x) → IsLast nd x (lastFrom nd x k) ∧ s ≤ lastFrom nd x k
  | 0, hk, h => by
    obtain rfl : s = 0 := by omega
    exact ⟨⟨hs, h⟩, Nat.le_refl _⟩
  | k + 1, hk, h => by
    unfold lastFrom
    split
    · rename_i h1
      exact ⟨⟨h1, h⟩, hk⟩
    · rename_i h1
      have hne : s ≠ k + 1 := fun e => by subst e; exact h1 hs
      refine lastFrom_spec hs k (by omega) (fun j hj => ?_)
      rcases Nat.lt_or_ge (k + 1) j with hlt | hge
      · exact h j hlt
      · obtain rfl : j = k + 1 := by omega
        exact h1
theorem lastIx_spec {nd : List Int} {x : Int} {s : Nat} (hs : nd[s]? = some x) : IsLast nd x (lastIx nd x) ∧ s ≤ lastIx nd x :=
  lastFrom_spec hs _ (Nat.le_of_lt (List.getElem?_eq_some_iff.1 hs).1) (fun j hj => by rw [List.getElem?_eq_none (by omega)]; simp)

/-- What is left of a walk from node s on. -/
def plainFrom (nd ys : List Int) : Nat → Nat → List Int
  | 0, _ => []
  | fuel + 1, s => if lastIx nd (numOf nd s) < ys.length then numOf ys (lastIx nd (numOf nd s)) :: plainFrom nd ys fuel (lastIx nd (numOf nd s) + 1) else []

def plainW (xs : List ArcD) (ys : List Int) : List Int := plainFrom (nodesW xs ys) ys (ys.length + 1) 0
def plainI (m : Int) (xs : List ArcD) (ys : List Int) : List Int := if okB m xs ys then (if ys.length = 0 then [] else plainW xs ys) else []

theorem nodesW_length {xs : List ArcD} {ys : List Int} (h : ys.length ≠ 0) : (nodesW xs ys).length = ys.length + 1 := by rw [nodesW, if_neg h, nodesTo_length]
theorem nodesW_to {xs : List ArcD} {ys : List Int} {k : Nat} (hk : k < ys.length) : (nodesW xs ys)[k + 1]? = some (arcOf xs (numOf ys k)).t := by
  rw [nodesW, if_neg (by omega)]
  simp [nodesTo, hk]
theorem nodesW_from {m : Int} {xs : List ArcD} {ys : List Int} {k : Nat} (ho : okB m xs ys = true) (hk : k < ys.length) : (nodesW xs ys)[k]? = some (arcOf xs (numOf ys k)).f := by
  cases k with
  | zero => rw [nodesW, if_neg (by omega)]; simp [nodesTo]
  | succ k =>
    rw [nodesW_to (by omega)]
    have h := ((walkB_iff _ _).1 ((okB_iff _ _ _).1 ho).2).2 (k + 1) hk
    simp [stepB] at h
    rw [h.2]

theorem numOf_at {zs : List Int} {k : Nat} {x : Int} (h : zs[k]? = some x) : numOf zs k = x := by simp [numOf, List.getD_eq_getElem?_getD, h]
theorem at_numOf {zs : List Int} {k : Nat} (h : k < zs.length) : zs[k]? = some (numOf zs k) := by simp [numOf, List.getD_eq_getElem?_getD, List.getElem?_eq_getElem h]

theorem plainFrom_len (nd ys : List Int) : ∀ fuel s, (plainFrom nd ys fuel s).length ≤ fuel
  | 0, _ => by simp [plainFrom]
  | fuel + 1, s => by
    unfold plainFrom
    split
    · simp only [List.length_cons]
      have := plainFrom_len nd ys fuel (lastIx nd (numOf nd s) + 1)
      omega
    · simp
theorem plainI_len (m : Int) (xs : List ArcD) (ys : List Int) : (plainI m xs ys).length ≤ 1048576 := by
  unfold plainI
  split
  · rename_i h
    have := ok_len h
    split
    · simp
    · have := plainFrom_len (nodesW xs ys) ys (ys.length + 1) 0
      unfold plainW
      omega
  · simp

/-- What was kept so far, and what is still to come from node s on, are the whole. -/
structure PlainAt (nd ys tot done : List Int) (s fuel : Nat) : Prop where
  whole : done ++ plainFrom nd ys fuel s = tot
  enough : ys.length + 1 ≤ fuel + s
  inside : s ≤ ys.length

theorem PlainAt.next {nd ys tot done : List Int} {s fuel i : Nat} (h : PlainAt nd ys tot done s fuel) (hi : IsLast nd (numOf nd s) i) (hs : s ≤ i) (hlt : i < ys.length) : ∃ fuel', PlainAt nd ys tot (done ++ [numOf ys i]) (i + 1) fuel' := by
  obtain ⟨h1, h2, h3⟩ := h
  cases fuel with
  | zero => omega
  | succ fuel =>
    refine ⟨fuel, ?_, by omega, by omega⟩
    rw [← h1]
    conv => rhs; unfold plainFrom
    rw [lastIx_eq hi, if_pos hlt]
    simp
theorem PlainAt.stop {nd ys tot done : List Int} {s fuel i : Nat} (h : PlainAt nd ys tot done s fuel) (hi : IsLast nd (numOf nd s) i) (hge : ys.length ≤ i) : done = tot := by
  obtain ⟨h1, h2, h3⟩ := h
  cases fuel with
  | zero => omega
  | succ fuel =>
    rw [← h1]
    unfold plainFrom
    rw [lastIx_eq hi, if_neg (by omega)]
    simp
theorem PlainAt.len {nd ys tot done : List Int} {s fuel : Nat} (h : PlainAt nd ys tot done s fuel) : done.length ≤ tot.length := by rw [← h.whole]; simp

end Go.Proofs.Ytaojognjkiifmaa
