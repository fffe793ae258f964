/-
  What is known behind marks that were written into memory of the call's own.
-/
import Derived.Test.YtaojognjkiifmacWords
namespace Go.Proofs.Ytaojognjkiifmac
open Go.RowKit

/-- The marks have been written: nothing but the slice's own block has turned. -/
def Marked (w : World) (A : Option Addr) (r : Int) (P : World → Prop) (e : Ending) (w' : World) : Prop :=
  e = .returned (.int .i64 r) ∧ w.grownBy w' (blk A) ∧ P w'

theorem OwnAt.young {w w' : World} {A : Option Addr} {size n g lo t : Nat} (ho : OwnAt w lo A t size n) (hg : w.grownBy w' (some g)) (hlt : g < lo) : OwnAt w' lo A t size n :=
  ho.keep hg (fun b e => by injection e with e; omega)
theorem RowN.young {w w' : World} {g' t n g : Nat} (h : RowN w g' t n) (hg : w.grownBy w' (some g)) (hne : g' ≠ g) : RowN w' g' t n := h.keep (hg.block g' h.lt (by simpa using hne))
theorem cell_far {w w' : World} {p : Addr} {v : Value} {g : Nat} (hg : w.grownBy w' (some g)) (h : w.cell? p = some v) (hne : p.block ≠ g) : w'.cell? p = some v := hg.cell h (by simpa using hne)
theorem OwnAt.below {w w' : World} {lo t size n : Nat} {A : Option Addr} (h : OwnAt w lo A t size n) (hb : Below w.heap.size w w') : OwnAt w' lo A t size n := h.keep (grown_of_below hb none) (by simp)

/-- Behind marks in a block of the call's own. -/
theorem below_marked {a w w' : World} {A : Option Addr} {lo t size n : Nat} (h : Below a.heap.size a w) (hg : w.grownBy w' (blk A)) (ho : OwnAt w lo A t size n) (hle : a.heap.size ≤ lo) : Below a.heap.size a w' := by
  rcases ho with ⟨rfl, _⟩ | ⟨g, sz, rfl, hl, _, _⟩
  · exact h.trans ((below_of_grown hg).mono h.size)
  · exact h.grown hg h.size (fun k hk => by simp [blk] at hk; omega)

theorem below_own {w w' : World} {A : Option Addr} {lo t size n : Nat} (hg : w.grownBy w' (blk A)) (ho : OwnAt w lo A t size n) (hle : lo ≤ w.heap.size) : Below lo w w' := by
  rcases ho with ⟨rfl, _⟩ | ⟨g, sz, rfl, hl, _, _⟩
  · exact (below_of_grown hg).mono hle
  · exact (Below.refl lo w).grown hg hle (fun k hk => by simp [blk] at hk; omega)

end Go.Proofs.Ytaojognjkiifmac
