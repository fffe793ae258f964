/-
  The copies that the laws make: toArcS, toNet, toIntS.
-/
import Derived.Test.YtgeoheeibebmcabLeaf
import Derived.Test.YtgeoheeibebmcabInfoI
namespace Go.Proofs.Ytgeoheeibebmcab
open Go.RowKit

theorem infoArc : (Try.prog.info? 36).map (fun i => (i.zero, i.size, i.bytes)) = some (some (.agg #[.int .i64 0, .int .i64 0, .int .i64 0, .int .i64 0, .int .i64 0]), 5, 40) := by kernel_rfl
theorem makeArc (n : Nat) (hn : n ≤ 1048576) (u : World) : (Instr.makeSlice 23 (.int .i64 (n : Int)) (.int .i64 (n : Int))).run Try.prog u =
    .ok (.slice (some ⟨u.heap.size, 0, none⟩) n n) (u.alloc (.cells (madeCells #[.int .i64 0, .int .i64 0, .int .i64 0, .int .i64 0, .int .i64 0] (n * 5)) 36)) := by
  obtain ⟨i0, hi, hz0, hz1, hz2⟩ := info_parts infoArc
  have h := run_make (P := Try.prog) u 23 36 i0 _ Try.underlying23 hi hz0 .i64 .i64 (n : Int) (n : Int) (by omega) (Int.le_refl _) (by rw [hz2]; omega) (by omega)
  simpa [hz1, Value.cells] using h

/-- A net in new memory of the call's own is handed back. -/
def NetNew (w : World) (m : Int) (n : Nat) (xs : List ArcD) (e : Ending) (w' : World) : Prop :=
  ∃ g, e = .returned (.agg #[.int .i64 m, .slice (some ⟨g, 0, none⟩) n n]) ∧ Below w.heap.size w w' ∧ w.heap.size ≤ g ∧ Made w' g 36 n xs n

end Go.Proofs.Ytgeoheeibebmcab
