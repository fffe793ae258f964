/-
  A region that draws its order, whose operations only read, and whose callees may lay blocks of their own: walked once, in the order of the text, in every later world.
-/
import Derived.Deep.QuietTactic
import Derived.Test.YtaojognjkiifmacWords
namespace Go.Proofs.Ytaojognjkiifmac
open Go.RowKit

/-- A later world. -/
structure PastOf (w : World) where
  W : World
  h : Past w W

theorem wp_region_past {P : Program} {id : Nat} {Q : Exit → Act → World → Prop} {a : Act} {w : World} {l : List Oper} (hm : P.follows .mixedOrders = true) (hB : Region.lexB .any l.toArray = true)
    (h : wpQuiet P l.toArray (fun w' => ∃ p : PastOf w, w' = p.W) (fun a' => ∀ w', (∃ p : PastOf w, w' = p.W) → Q .normal a' w') l a) : (Code.region id l.toArray true).wp P Q a w :=
  wp_region_quiet (C := fun w' => ∃ p : PastOf w, w' = p.W) hm hB ⟨⟨w.drew, (Past.refl w).drew⟩, rfl⟩ (by simpa using h)

/-- A callee's contract, met in a later world. -/
theorem past_call {P : Program} {f : FuncId} {args : Array Value} {w : World} {p : PastOf w} {v : Value}
    (h : Calls P f args p.W fun e w' => e = .returned v ∧ Below p.W.heap.size p.W w') : Calls P f args p.W fun e w'' => e = .returned v ∧ ∃ p : PastOf w, w'' = p.W :=
  h.mono fun _ _ ⟨he, hb⟩ => ⟨he, ⟨_, p.h.trans hb⟩, rfl⟩

theorem past_cell {w : World} {p : Addr} {v : Value} (h : w.cell? p = some v) (q : PastOf w) : q.W.cell? p = some v := cell_in q.h h

end Go.Proofs.Ytaojognjkiifmac
