/-
  The most that it costs at least from one node to another one, as the program goes: impl.ReachFar. No condition.
-/
import Derived.Test.YtaojognjkiifmacTrav
import Derived.Test.YtaojognjkiifmacRFarS
namespace Go.Proofs.Ytaojognjkiifmac
open Go.RowKit

/-- A box of one number that a function value writes. -/
structure FarJ (w : World) (bx : Nat) (z : Int) (W : World) : Prop where
  cell : W.cell? ⟨bx, 0, none⟩ = some (.int .i64 z)
  free : W.frozen? ⟨bx, 0, none⟩ = false
  past : Past w W
  le : w.heap.size ≤ bx
theorem FarJ.later {w W W' : World} {bx : Nat} {z : Int} (h : FarJ w bx z W) (hp : Past W W') : FarJ w bx z W' := ⟨cell_in hp h.cell, free_in hp h.cell h.free, h.past.trans hp, h.le⟩
theorem FarJ.set {w W : World} {bx : Nat} {z y : Int} (h : FarJ w bx z W) : FarJ w bx y (W.setCell ⟨bx, 0, none⟩ (.int .i64 y)) :=
  ⟨World.cell?_setCell_same W ⟨bx, 0, none⟩ _ h.cell, by rw [← h.free]; simp, Below.setCell h.past (p := ⟨bx, 0, none⟩) h.le _, h.le⟩
theorem Mid.set {lo B b o : Nat} {W : World} {v : Value} (h : b < lo ∨ B ≤ b) : Mid lo B W (W.setCell ⟨b, o, none⟩ v) :=
  ⟨by simp [World.setCell], fun c h1 h2 => Below.heap_setCell W ⟨b, o, none⟩ v c (by simp only [ne_eq]; omega)⟩

end Go.Proofs.Ytaojognjkiifmac
