/-
  The arcs of a node: in order, and over all nodes each arc once.
-/
import Derived.Test.YtokljfeoignbcaaOut2
namespace Go.Proofs.Ytokljfeoignbcaa
open Go.RowKit

theorem outTo_mem (xs : List ArcD) (v : Int) : ∀ (K i : Nat) (y : Int), (outTo xs v K)[i]? = some y → ∃ j : Nat, y = j ∧ j < K ∧ hitB xs v j = true
  | 0, i, y, h => by simp [outTo] at h
  | K + 1, i, y, h => by
    unfold outTo at h
    split at h
    · rename_i hh
      rw [List.getElem?_append] at h
      split at h
      · obtain ⟨j, h1, h2, h3⟩ := outTo_mem xs v K i y h
        exact ⟨j, h1, by omega, h3⟩
      · have := List.mem_of_getElem? h
        simp at this
        exact ⟨K, this, by omega, hh⟩
    · obtain ⟨j, h1, h2, h3⟩ := outTo_mem xs v K i y h
      exact ⟨j, h1, by omega, h3⟩

theorem outTo_inc (xs : List ArcD) (v : Int) : ∀ (K i : Nat) (y z : Int), (outTo xs v K)[i]? = some y → (outTo xs v K)[i + 1]? = some z → y < z
  | 0, i, y, z, h, _ => by simp [outTo] at h
  | K + 1, i, y, z, h, h2 => by
    unfold outTo at h h2
    split at h
    · rename_i hh
      rw [if_pos hh] at h2
      rw [List.getElem?_append] at h h2
      by_cases h3 : i + 1 < (outTo xs v K).length
      · rw [if_pos (by omega)] at h
        rw [if_pos h3] at h2
        exact outTo_inc xs v K i y z h h2
      · rw [if_neg h3] at h2
        have hz := List.mem_of_getElem? h2
        simp at hz
        split at h
        · obtain ⟨j, h4, h5, _⟩ := outTo_mem xs v K i y h
          omega
        · rename_i h6
          have := (List.getElem?_eq_some_iff.1 h2).1
          simp at this
          omega
    · rename_i hh
      rw [if_neg hh] at h2
      exact outTo_inc xs v K i y z h h2

/-- How many arcs begin at the first M nodes. -/
def sumOut (xs : List ArcD) (K : Nat) : Nat → Nat
  | 0 => 0
  | M + 1 => sumOut xs K M + (outTo xs (M : Int) K).length

theorem outTo_next (xs : List ArcD) (v : Int) (K : Nat) : (outTo xs v (K + 1)).length = (outTo xs v K).length + (if hitB xs v K then 1 else 0) := by
  rw [outTo]
  split <;> simp

theorem sumOut_next (xs : List ArcD) (K M : Nat) (a : ArcD) (ha : xs[K]? = some a) (h0 : 0 ≤ a.f) : sumOut xs (K + 1) M = sumOut xs K M + (if a.f < (M : Int) then 1 else 0) := by
  induction M with
  | zero => simp [sumOut]; omega
  | succ M ih =>
    rw [sumOut, sumOut, ih, outTo_next]
    have hh : hitB xs (M : Int) K = (a.f == (M : Int)) := by simp [hitB, ha]
    rw [hh]
    by_cases h1 : a.f < (M : Int)
    · have h2 : ¬ (a.f = (M : Int)) := by omega
      have h3 : a.f < ((M + 1 : Nat) : Int) := by omega
      rw [if_pos h1, if_pos h3]; simp [h2]; omega
    · by_cases h2 : a.f = (M : Int)
      · have h3 : a.f < ((M + 1 : Nat) : Int) := by omega
        rw [if_neg h1, if_pos h3]; simp [h2]; omega
      · have h3 : ¬ (a.f < ((M + 1 : Nat) : Int)) := by omega
        rw [if_neg h1, if_neg h3]; simp [h2]

theorem sumOut_all (xs : List ArcD) (M : Nat) (h : ∀ a ∈ xs, 0 ≤ a.f ∧ a.f < (M : Int)) : ∀ K, K ≤ xs.length → sumOut xs K M = K
  | 0, _ => by
    have : ∀ M, sumOut xs 0 M = 0 := fun M => by induction M with
      | zero => rfl
      | succ M ih => rw [sumOut, ih]; simp [outTo]
    exact this M
  | K + 1, hK => by
    have ha := List.getElem?_eq_getElem (show K < xs.length by omega)
    have hb := h _ (List.mem_of_getElem? ha)
    rw [sumOut_next xs K M _ ha hb.1, sumOut_all xs M h K (by omega), if_pos hb.2]

end Go.Proofs.Ytokljfeoignbcaa
