/-
  A list that is sorted, and of which runs of equal numbers are made one, rises. Plain. No condition.
-/
import Derived.Lib.SlicesCompact
import Derived.Test.YtaojognjkiifmacPEdge
namespace Go.Proofs.Ytaojognjkiifmac

theorem comp_all (zs : List Int) (hs : zs.Pairwise (· ≤ ·)) : ∀ m, m ≤ zs.length → (Lib.compactUpTo zs.toArray m).Pairwise (· < ·) ∧ (∀ v, v ∈ Lib.compactUpTo zs.toArray m ↔ v ∈ zs.take m) ∧ (∀ v ∈ Lib.compactUpTo zs.toArray m, ∀ x, zs[m - 1]? = some x → v ≤ x)
  | 0, _ => ⟨by simp [Lib.compactUpTo], by simp [Lib.compactUpTo], by simp [Lib.compactUpTo]⟩
  | m + 1, hm => by
    obtain ⟨h1, h2, h3⟩ := comp_all zs hs m (by omega)
    have hx : zs[m]? = some zs[m] := List.getElem?_eq_getElem (by omega)
    have hg : zs.toArray[m]! = zs[m] := by rw [getElem!_pos _ _ (by simp; omega)]; simp
    have hle : ∀ v ∈ zs.take m, v ≤ zs[m] := fun v hv => by
      obtain ⟨i, hi, rfl⟩ := List.getElem_of_mem hv
      rw [List.length_take] at hi
      rw [List.getElem_take]
      exact List.pairwise_iff_getElem.1 hs i m (by omega) (by omega) (by omega)
    rw [Lib.compactUpTo_succ, List.take_add_one, hx]
    cases hk : Lib.keeps zs.toArray m with
    | true =>
      rw [if_pos rfl, hg]
      refine ⟨?_, fun v => by rw [List.mem_append, List.mem_append, h2, Option.toList_some], fun v hv x hxx => ?_⟩
      · rw [List.pairwise_append]
        refine ⟨h1, List.pairwise_singleton _ _, fun a ha b hb => ?_⟩
        rw [List.mem_singleton] at hb
        subst hb
        have := hle a ((h2 a).1 ha)
        rcases Int.lt_or_eq_of_le this with h | h
        · exact h
        · exfalso
          simp only [Lib.keeps, decide_eq_true_eq] at hk
          rcases hk with hk | hk
          · subst hk
            simp [Lib.compactUpTo] at ha
          · have hm0 : m ≠ 0 := fun e => by subst e; simp [Lib.compactUpTo] at ha
            have hp : zs[m - 1]? = some zs[m - 1] := List.getElem?_eq_getElem (by omega)
            have h4 := h3 a ha _ hp
            have hg1 : zs.toArray[m - 1]! = zs[m - 1] := by rw [getElem!_pos _ _ (by simp; omega)]; simp
            rw [hg, hg1] at hk
            have h5 := List.pairwise_iff_getElem.1 hs (m - 1) m (by omega) (by omega) (by omega)
            omega
      · rw [Nat.add_sub_cancel, hx] at hxx
        injection hxx with hxx
        subst hxx
        rw [List.mem_append, List.mem_singleton] at hv
        rcases hv with hv | hv
        · exact hle v ((h2 v).1 hv)
        · omega
    | false =>
      simp only [Bool.false_eq_true, if_false, List.append_nil]
      simp only [Lib.keeps, decide_eq_false_iff_not, not_or, ne_eq, Decidable.not_not] at hk
      have hp : zs[m - 1]? = some zs[m - 1] := List.getElem?_eq_getElem (by omega)
      have hg1 : zs.toArray[m - 1]! = zs[m - 1] := by rw [getElem!_pos _ _ (by simp; omega)]; simp
      have e := hk.2
      rw [hg, hg1] at e
      refine ⟨h1, fun v => ?_, fun v hv x hxx => ?_⟩
      · rw [h2]
        simp only [Option.toList_some, List.mem_append, List.mem_singleton]
        constructor
        · exact .inl
        · rintro (h | h)
          · exact h
          · rw [h, e]
            rw [List.mem_take_iff_getElem]
            exact ⟨m - 1, by have := hk.1; omega, rfl⟩
      · rw [Nat.add_sub_cancel, hx] at hxx
        injection hxx with hxx
        subst hxx
        exact hle v ((h2 v).1 hv)

theorem comp_rises (zs : List Int) (hs : zs.Pairwise (· ≤ ·)) : (Lib.compact zs).Pairwise (· < ·) ∧ (∀ v, v ∈ Lib.compact zs ↔ v ∈ zs) := by
  obtain ⟨h1, h2, _⟩ := comp_all zs hs zs.length (Nat.le_refl _)
  refine ⟨h1, fun v => ?_⟩
  have := h2 v
  rw [List.take_length] at this
  exact this

theorem sort_rises (zs : List Int) : (zs.mergeSort fun x y => decide (x ≤ y)).Pairwise (· ≤ ·) := by
  have h := List.pairwise_mergeSort (le := fun (x y : Int) => decide (x ≤ y)) (fun a b c h1 h2 => by simp at *; omega) (fun a b => by simp; omega) zs
  exact h.imp fun h => by simpa using h

/-- The ends of the arcs between parts, sorted, each once. -/
theorem ends_edges {M : Nat} {xs : List ArcD} {ps : List Int} (hin : ArcsIn M xs) : Lib.compact ((endsOf ps xs).mergeSort fun x y => decide (x ≤ y)) = edgesTo ps xs M := by
  obtain ⟨h1, h2⟩ := comp_rises _ (sort_rises (endsOf ps xs))
  refine rising_eq _ _ h1 (edgesTo_sorted _ _ _) fun v => ?_
  rw [h2, List.mem_mergeSort, endsOf_mem, edgesTo_mem]
  constructor
  · intro h
    refine ⟨?_, h⟩
    simp only [edgeB, hitA, List.any_eq_true, Bool.and_eq_true, Bool.or_eq_true, decide_eq_true_eq] at h
    obtain ⟨a, ha, h, _⟩ := h
    have := hin a ha
    omega
  · exact fun h => h.2

end Go.Proofs.Ytaojognjkiifmac
