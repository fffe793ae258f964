/-
  What is drawn of bytes: one, l30Open, l30Net.
-/
import Derived.Test.YtgeoheeibebmcaaDraw
import Derived.Deep.DeepCutAuto
namespace Go.Proofs.Ytgeoheeibebmcaa
open Go.RowKit

/-- One of a list was drawn. -/
def Ones (w : World) (R lo : Nat) (A : Option Addr) (n c p : Nat) (zs : List Int) (e : Ending) (w' : World) : Prop :=
  ∃ z : Int, e = .returned (.int .i64 z) ∧ z ∈ zs ∧ Rd w' R lo A n c (p + 1) ∧ w.grownBy w' (some R)

/-- A reader was made of bytes. -/
def Opens (w : World) (A : Option Addr) (e : Ending) (w' : World) : Prop :=
  ∃ R n c, e = .returned (.pointer (some ⟨R, 0, none⟩)) ∧ w.heap.size ≤ R ∧ Rd w' R w.heap.size A n c 0 ∧ Below w.heap.size w w'

end Go.Proofs.Ytgeoheeibebmcaa
