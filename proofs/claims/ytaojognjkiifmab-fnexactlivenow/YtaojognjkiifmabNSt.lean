/-
  A net in a box of its own, whose arcs come one by one. No condition.
-/
import Derived.Test.YtaojognjkiifmabBack
import Derived.Test.YtaojognjkiifmabOwnL
import Derived.Test.YtaojognjkiifmabTApp
namespace Go.Proofs.Ytaojognjkiifmab
open Go.RowKit

/-- The net that is being made, in the block X, its arcs from block lo on. -/
structure NSt (X lo : Nat) (w3 wr : World) (m : Int) (v : Value) (L : List ArcD) : Prop where
  o0 : wr.cell? ⟨X, 0, none⟩ = some (.int .i64 m)
  o1 : wr.cell? ⟨X, 1, none⟩ = some v
  row : RowN wr X 25 2
  own : wr.ownsRow lo 34 5 v L.length (cellsOf L)
  past : Past w3 wr
theorem NSt.start (w : World) (m : Int) (lo : Nat) : NSt w.heap.size lo w (w.alloc (.cells #[.int .i64 m, .slice none 0 0] 25)) m (.slice none 0 0) [] :=
  ⟨by go_simp, by go_simp, ⟨_, heap_alloc_new w _, rfl⟩, World.ownsRow_nil _ _ _ _, (Past.refl w).alloc _⟩
theorem NSt.later {X lo : Nat} {m : Int} {w3 wr w' : World} {v : Value} {L : List ArcD} (h : NSt X lo w3 wr m v L) (hb : Past wr w') : NSt X lo w3 w' m v L :=
  ⟨cell_in hb h.o0, cell_in hb h.o1, h.row.keep (hb.block _ h.row.lt), World.ownsRow.kept h.own (grown_of_below hb none) (by cases hv : v.ownBlock <;> simp), h.past.trans hb⟩
theorem NSt.put {X lo k : Nat} {m : Int} {w3 wr wa w9 : World} {v v' : Value} {L : List ArcD} {a : ArcD} {cs : List Value} (h : NSt X lo w3 wr m v L) (hX : w3.heap.size ≤ X) (hXl : X < lo) (hp : Past wr wa) (hg : wa.grownBy w9 v.ownBlock)
    (ho : w9.ownsRow lo 34 5 v' k cs) (hk : k = L.length + 1) (hc : cs = cellsOf L ++ [.int .i64 a.f, .int .i64 a.t, .int .i64 a.c, .int .i64 a.l, .int .i64 a.d]) :
    (∃ u, w9.cell? ⟨X, 1, none⟩ = some u) ∧ w9.frozen? ⟨X, 1, none⟩ = false ∧ NSt X lo w3 (w9.setCell ⟨X, 1, none⟩ v') m v' (L ++ [a]) := by
  have h1 := h.later hp
  have hne : some X ≠ v.ownBlock := own_ne h1.own (by omega)
  have r9 : RowN w9 X 25 2 := h1.row.keep (hg.block _ h1.row.lt hne)
  have o0 : w9.cell? ⟨X, 0, none⟩ = some (.int .i64 m) := (World.cell?_of_block (w := wa) (a := ⟨X, 0, none⟩) (hg.block _ h1.row.lt hne)).trans h1.o0
  have o1 : w9.cell? ⟨X, 1, none⟩ = some v := (World.cell?_of_block (w := wa) (a := ⟨X, 1, none⟩) (hg.block _ h1.row.lt hne)).trans h1.o1
  have hne' : v'.ownBlock ≠ some X := fun e => own_ne ho (g := X) (by omega) e.symm
  have hp9 : Past w3 w9 := Below.grown h1.past hg h1.past.size (fun b e => by have := (h1.own.lt b e).1; omega)
  refine ⟨⟨_, o1⟩, r9.frozen 1, ⟨(World.cell?_setCell_other _ _ _ _ (by simp)).trans o0, World.cell?_setCell_same _ _ _ o1, r9.set _ _, ?_, Below.setCell hp9 hX _⟩⟩
  rw [List.length_append, cellsOf_append]
  subst hk hc
  exact own_far ho hne' _
theorem NSt.res {X lo : Nat} {m : Int} {w3 wr : World} {v : Value} {L : List ArcD} (h : NSt X lo w3 wr m v L) : ResA wr lo v L := h.own

end Go.Proofs.Ytaojognjkiifmab
