/-
  A row of numbers of which the first are there: one more is put. No condition.
-/
import Derived.Test.YtaojognjkiifmacBase
namespace Go.Proofs.Ytaojognjkiifmac
open Go.RowKit

theorem MadeI.put {w : World} {g t n k : Nat} {xs : List Int} (h : MadeI w g t n xs k) (u : Value) : MadeI (w.setCell ⟨g, k, none⟩ u) g t n xs k :=
  ⟨h.1.set _ _, fun j x hj hx => (World.cell?_setCell_other w ⟨g, k, none⟩ ⟨g, j, none⟩ _ (by intro e; injection e; omega)).trans (h.2 j x hj hx)⟩
theorem MadeI.one {w : World} {g t n k : Nat} {xs : List Int} {x : Int} (h : MadeI w g t n xs k) (hx : xs[k]? = some x) (hc : w.cell? ⟨g, k, none⟩ = some (.int .i64 x)) : MadeI w g t n xs (k + 1) :=
  ⟨h.1, fun j y hj hy => by
    rcases Nat.lt_or_ge j k with hlt | hge
    · exact h.2 j y hlt hy
    · obtain rfl : j = k := by omega
      rw [hx] at hy
      injection hy with hy
      subst hy
      exact hc⟩

end Go.Proofs.Ytaojognjkiifmac
