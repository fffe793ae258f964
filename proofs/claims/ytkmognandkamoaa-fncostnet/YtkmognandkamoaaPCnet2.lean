/-
  A net with other costs is ok, and with its own costs as it was. Plain. No condition.
-/
import Derived.Test.YtkmognandkamoaaPCnet
import Derived.Test.YtkmognandkamoaaPCost
namespace Go.Proofs.Ytkmognandkamoaa

def ownC (xs : List ArcD) : List Int := xs.map (·.c)

theorem ownC_next {xs : List ArcD} {k : Nat} {a : ArcD} (h : xs[k]? = some a) : ownC (xs.take (k + 1)) = ownC (xs.take k) ++ [a.c] := by
  rw [List.take_add_one, h]
  simp [ownC]
theorem metric_parts {m : Int} {xs : List ArcD} {cs : List Int} (h : metricB m xs cs = true) : netB m xs = true ∧ cs.length = xs.length ∧ ∀ c ∈ cs, 0 ≤ c ∧ c ≤ 99 := by
  simp only [metricB, Bool.and_eq_true, decide_eq_true_eq, allB, List.all_eq_true] at h
  exact ⟨h.1, h.2.1, fun c hc => (inB_iff _ _ _).1 (h.2.2 c hc)⟩
theorem costed_ok {m : Int} {xs : List ArcD} {cs : List Int} (h : metricB m xs cs = true) : netB m (costed xs cs) = true := by
  obtain ⟨h1, h2, h3⟩ := metric_parts h
  obtain ⟨hm, hl, ha⟩ := (netB_iff _ _).1 h1
  refine (netB_iff _ _).2 ⟨hm, by rw [costed_len h2]; exact hl, fun b hb => ?_⟩
  obtain ⟨k, hk⟩ := List.getElem?_of_mem hb
  obtain ⟨a, c, hka, hkc, rfl⟩ := costed_at hk
  have h4 := ha a (List.mem_of_getElem? hka)
  have h5 := h3 c (List.mem_of_getElem? hkc)
  simp only [arcB, setC, Bool.and_eq_true, inB_iff] at h4 ⊢
  exact ⟨h4.1, h4.2.1, h4.2.2.1, h5, h4.2.2.2.2.1, h4.2.2.2.2.2⟩
theorem own_metric {m : Int} {xs : List ArcD} {cs : List Int} (h : metricB m xs cs = true) : metricB m (costed xs cs) (ownC xs) = true := by
  obtain ⟨h1, h2, _⟩ := metric_parts h
  have hl : (ownC xs).length = (costed xs cs).length := by rw [costed_len h2, ownC, List.length_map]
  have ha : allB (ownC xs) = true := by
    rw [allB, List.all_eq_true]
    intro z hz
    rw [ownC, List.mem_map] at hz
    obtain ⟨a, ha, rfl⟩ := hz
    obtain ⟨k, hk⟩ := List.getElem?_of_mem ha
    have := net_arc h1 hk
    exact (inB_iff _ _ _).2 (by omega)
  rw [metricB, costed_ok h, hl, ha]
  simp
theorem costed_own {xs : List ArcD} {cs : List Int} (h : cs.length = xs.length) : costed (costed xs cs) (ownC xs) = xs := by
  apply List.ext_getElem?
  intro k
  rw [costed, costed, ownC, List.getElem?_zipWith, List.getElem?_zipWith, List.getElem?_map]
  cases hx : xs[k]? with
  | none => simp
  | some a =>
    have hk : k < cs.length := by rw [h]; exact (List.getElem?_eq_some_iff.1 hx).1
    rw [List.getElem?_eq_getElem hk]
    rfl

end Go.Proofs.Ytkmognandkamoaa
