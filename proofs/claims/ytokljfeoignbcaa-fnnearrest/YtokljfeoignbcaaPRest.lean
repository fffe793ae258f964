/-
  Plain mathematics: what is left of a best way is the best way from where its first arc leads. No program is named. No condition.
-/
import Derived.Test.YtokljfeoignbcaaNWalk
namespace Go.Proofs.Ytokljfeoignbcaa

theorem near_rest {m : Int} {xs : List ArcD} {a b z : Int} {rest : List Int} (h : nearWI m xs a b = z :: rest) :
    ∃ (j : Nat) (q : ArcD), z = (j : Int) ∧ xs[j]? = some q ∧ q.f = a ∧ nearWI m xs q.t b = rest ∧ nearWB m xs q.t b = true ∧ nearWB m xs a b = true := by
  cases hB : hereB2 m xs a b with
  | false => rw [nearWI, hB] at h; cases h
  | true =>
    obtain ⟨hN, ha, hb⟩ := (hereB2_iff _ _ _ _).1 hB
    obtain ⟨M, rfl, h3, h8⟩ := here_nat hN
    have hT := treeL_of (arcsIn_net hN) hb h8
    rw [nearWI, hB, if_pos rfl, Int.toNat_natCast, wayM] at h
    cases hF : farB M xs b a with
    | true => rw [hF] at h; cases h
    | false =>
      rw [hF, if_neg (by simp)] at h
      have hf : lab (labsOf M xs b) a ≠ farL := by simpa [farB] using hF
      have hab : a ≠ b := fun e => by rw [e, hT.wayL_to] at h; cases h
      obtain ⟨j, q, e1, e2, _, e4, e5, _, e7, _⟩ := hT.some a hab hf ha.1 ha.2
      rw [hT.wayL_step hab e1 e2 e5] at h
      injection h with h1 h2
      have hbq := arcsIn_net hN q (List.mem_of_getElem? e2)
      have hB2 : hereB2 (M : Int) xs q.t b = true := (hereB2_iff _ _ _ _).2 ⟨hN, ⟨by omega, by omega⟩, hb⟩
      have hF2 : farB M xs b q.t = false := by simpa [farB] using e4
      refine ⟨j, q, h1.symm, e2, e7, ?_, ?_, ?_⟩
      · rw [nearWI, hB2, if_pos rfl, Int.toNat_natCast, wayM, hF2, if_neg (by simp)]
        exact h2
      · rw [nearWB, hB2, Int.toNat_natCast, hF2]; rfl
      · rw [nearWB, hB, Int.toNat_natCast, hF]; rfl

end Go.Proofs.Ytokljfeoignbcaa
