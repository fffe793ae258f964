/-
  A slice that a call handed back: where it lies.
-/
import Derived.Test.YtgeoheeibebmcabResI
namespace Go.Proofs.Ytgeoheeibebmcab
open Go.RowKit

theorem Res.form2 {w : World} {lo : Nat} {v : Value} {zs : List Int} (h : Res w lo v zs) : ∃ A c, v = .slice A zs.length c ∧ IntsAt w A zs ∧ zs.length ≤ c ∧ c ≤ maxLen ∧ ((A = none ∧ zs.length = 0 ∧ c = 0) ∨ ∃ g, A = some ⟨g, 0, none⟩) := by
  obtain ⟨A, c, rfl, hi, _⟩ := h.form
  rcases h.2 with ⟨e, h0⟩ | ⟨g, cap, cur, e, hlo, hh, hn, hm, hs, ht⟩
  · injection e with e1 e2 e3
    subst e1 e3
    exact ⟨_, _, rfl, hi, by omega, by omega, .inl ⟨rfl, h0, rfl⟩⟩
  · injection e with e1 e2 e3
    subst e1 e3
    exact ⟨_, _, rfl, hi, hn, hm, .inr ⟨g, rfl⟩⟩


end Go.Proofs.Ytgeoheeibebmcab
