/-
  The most that it costs at least: it is reached, and the same the other way round. Plain. No condition.
-/
import Derived.Test.YtifbigfkakappaaPReach
import Derived.Test.YtifbigfkakappaaPBack
namespace Go.Proofs.Ytifbigfkakappaa
open Go.RowKit

theorem farR_some {M : Nat} {xs : List ArcD} (hM : M ≤ 17) (h1 : 1 ≤ M) (hx : ArcsIn M xs) : ∃ s v : Nat, s < M ∧ v < M ∧ at_ (nearL M xs (s : Int)) (v : Int) = farR M xs M := by
  rcases farR_is M xs M with h | ⟨s, v, h2, h3, _, h4⟩
  · exact ⟨0, 0, by omega, by omega, by rw [h]; exact nearL_start hM hx ⟨by omega, by omega⟩⟩
  · exact ⟨s, v, h2, h3, h4.symm⟩
theorem farR_back_le {M : Nat} {xs : List ArcD} (hM : M ≤ 17) (hx : ArcsIn M xs) : farR M xs M ≤ farR M (xs.map flip) M := by
  rcases farR_is M xs M with h | ⟨s, v, h2, h3, h4, h5⟩
  · rw [h]
    exact (farR_bound M _ M).1
  · rw [h5]
    have e := near_back hM hx (s := (s : Int)) (v := (v : Int)) ⟨by omega, by omega⟩ ⟨by omega, by omega⟩
    rw [e] at h4 ⊢
    exact farR_ge M v s h3 h2 h4
theorem farR_back {M : Nat} {xs : List ArcD} (hM : M ≤ 17) (hx : ArcsIn M xs) : farR M (xs.map flip) M = farR M xs M := by
  have h1 := farR_back_le hM hx
  have h2 := farR_back_le hM (arcsIn_back hx)
  rw [flips_id] at h2
  omega

end Go.Proofs.Ytifbigfkakappaa
