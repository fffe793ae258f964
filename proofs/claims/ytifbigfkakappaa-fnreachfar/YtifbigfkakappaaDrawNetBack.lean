/-
  DrawNetBack: a net in new memory.
-/
import Derived.Test.YtifbigfkakappaaDraw4
namespace Go.Proofs.Ytifbigfkakappaa
open Go.RowKit

/-- A net was drawn into new memory. -/
def DrawNetG (w : World) (e : Ending) (w' : World) : Prop :=
  ∃ (m : Int) (B : Option Addr) (k cap : Nat) (xs : List ArcD), e = .returned (.agg #[.int .i64 m, .slice B k cap]) ∧ xs.length = k ∧ k ≤ 13 ∧ ArcsAt w' B xs ∧ OwnAt w' w.heap.size B 57 5 k ∧ Below w.heap.size w w'

end Go.Proofs.Ytifbigfkakappaa
