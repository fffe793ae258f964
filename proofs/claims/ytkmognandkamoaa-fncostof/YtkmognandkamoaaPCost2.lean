/-
  Costs alone are the costs, tolls alone the tolls; what counts more costs no less. Plain. No condition.
-/
import Derived.Test.YtkmognandkamoaaPCost
import Derived.Test.YtkmognandkamoaaPLift
namespace Go.Proofs.Ytkmognandkamoaa

theorem costOne_cost {a : ArcD} (h : 0 ≤ a.c ∧ a.c ≤ 99) : costOne 100 0 a = a.c := by
  have e : (a.c * 100 + a.l * 0).tdiv 100 = a.c := by rw [Int.mul_zero, Int.add_zero, Int.tdiv_eq_ediv_of_nonneg (by omega)]; omega
  rw [costOne, e, if_neg (by omega)]
theorem costOne_toll {a : ArcD} (h : 0 ≤ a.l ∧ a.l ≤ 99) : costOne 0 100 a = a.l := by
  have e : (a.c * 0 + a.l * 100).tdiv 100 = a.l := by rw [Int.mul_zero, Int.zero_add, Int.tdiv_eq_ediv_of_nonneg (by omega)]; omega
  rw [costOne, e, if_neg (by omega)]
theorem costOne_in {p q : Int} {a : ArcD} (ha : 0 ≤ a.c ∧ a.c ≤ 99 ∧ 0 ≤ a.l ∧ a.l ≤ 99) (hp : 0 ≤ p ∧ p ≤ 100) (hq : 0 ≤ q ∧ q ≤ 100) : 0 ≤ costOne p q a ∧ costOne p q a ≤ 99 := by
  obtain ⟨x, y, z, _, _, _, _, _, hz, e⟩ := costOne_way (a := a) ha hp hq
  rw [e]
  split <;> omega
theorem costOne_le {p q : Int} {a : ArcD} (ha : 0 ≤ a.c ∧ a.c ≤ 99 ∧ 0 ≤ a.l ∧ a.l ≤ 99) (hp : 0 ≤ p ∧ p ≤ 100) (hq : 0 ≤ q ∧ q ≤ 100) : costOne p q a ≤ costOne 100 100 a := by
  have h1 : a.c * p ≤ a.c * 100 := Int.mul_le_mul_of_nonneg_left hp.2 ha.1
  have h2 : a.l * q ≤ a.l * 100 := Int.mul_le_mul_of_nonneg_left hq.2 ha.2.2.1
  have h3 := Int.mul_nonneg ha.1 hp.1
  have h4 := Int.mul_nonneg ha.2.2.1 hq.1
  have e1 : (a.c * p + a.l * q).tdiv 100 = (a.c * p + a.l * q) / 100 := Int.tdiv_eq_ediv_of_nonneg (by omega)
  have e2 : (a.c * 100 + a.l * 100).tdiv 100 = (a.c * 100 + a.l * 100) / 100 := Int.tdiv_eq_ediv_of_nonneg (by omega)
  rw [costOne, costOne, e1, e2]
  split <;> split <;> omega

theorem metric_of {m : Int} {xs : List ArcD} {p q : Int} (h : netB m xs = true) (hp : 0 ≤ p ∧ p ≤ 100) (hq : 0 ≤ q ∧ q ≤ 100) : metricB m xs (costsOf p q xs) = true := by
  have hl : (costsOf p q xs).length = xs.length := by rw [costsOf, List.length_map]
  have ha : allB (costsOf p q xs) = true := by
    rw [allB, List.all_eq_true]
    intro z hz
    rw [costsOf, List.mem_map] at hz
    obtain ⟨a, ha, rfl⟩ := hz
    obtain ⟨k, hk⟩ := List.getElem?_of_mem ha
    exact (inB_iff _ _ _).2 (costOne_in (net_arc h hk) hp hq)
  rw [metricB, h, hl, ha]
  simp

end Go.Proofs.Ytkmognandkamoaa
