/-
  What is ok of a walk is ok of each piece of it.
-/
import Derived.Test.YtaojognjkiifmaaCost
namespace Go.Proofs.Ytaojognjkiifmaa
open Go.RowKit

theorem numOf_take {ys : List Int} {k j : Nat} (h : j < k) : numOf (ys.take k) j = numOf ys j := by simp only [numOf, List.getD_eq_getElem?_getD]; rw [List.getElem?_take_of_lt h]
theorem numOf_drop {ys : List Int} {k j : Nat} : numOf (ys.drop k) j = numOf ys (k + j) := by simp only [numOf, List.getD_eq_getElem?_getD]; rw [List.getElem?_drop]

theorem ok_take {m : Int} {xs : List ArcD} {ys : List Int} (h : okB m xs ys = true) (k : Nat) : okB m xs (ys.take k) = true := by
  obtain ⟨hn, hw⟩ := (okB_iff m xs ys).1 h
  obtain ⟨hl, hs⟩ := (walkB_iff xs ys).1 hw
  refine (okB_iff m xs _).2 ⟨hn, (walkB_iff xs _).2 ⟨by rw [List.length_take]; omega, fun j hj => ?_⟩⟩
  rw [List.length_take] at hj
  have := hs j (by omega)
  unfold stepB at this ⊢
  rw [numOf_take (by omega), numOf_take (by omega)]
  exact this

theorem ok_drop {m : Int} {xs : List ArcD} {ys : List Int} (h : okB m xs ys = true) (k : Nat) : okB m xs (ys.drop k) = true := by
  obtain ⟨hn, hw⟩ := (okB_iff m xs ys).1 h
  obtain ⟨hl, hs⟩ := (walkB_iff xs ys).1 hw
  refine (okB_iff m xs _).2 ⟨hn, (walkB_iff xs _).2 ⟨by rw [List.length_drop]; omega, fun j hj => ?_⟩⟩
  rw [List.length_drop] at hj
  have := hs (k + j) (by omega)
  unfold stepB at this ⊢
  rw [numOf_drop]
  by_cases h0 : j = 0
  · subst h0
    simp only [Bool.and_eq_true] at this ⊢
    exact ⟨this.1, rfl⟩
  · rw [numOf_drop, show k + (j - 1) = k + j - 1 by omega]
    simp only [Bool.and_eq_true, Bool.or_eq_true, beq_iff_eq] at this ⊢
    refine ⟨this.1, .inr ?_⟩
    rcases this.2 with h1 | h1
    · omega
    · exact h1

end Go.Proofs.Ytaojognjkiifmaa
