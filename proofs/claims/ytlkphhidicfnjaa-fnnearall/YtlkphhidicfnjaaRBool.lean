/-
  A row of truths in memory. No condition.
-/
import Derived.Test.YtlkphhidicfnjaaInfoI
import Derived.Test.YtlkphhidicfnjaaWords
import Derived.Laws.OwnMore
namespace Go.Proofs.Ytlkphhidicfnjaa
open Go.RowKit

theorem infoBool : (Try.prog.info? 4).map (fun i => (i.zero, i.size, i.bytes)) = some (some (.bool false), 1, 1) := by kernel_rfl
theorem makeBool (n : Nat) (hn : n ≤ 1048576) (u : World) : (Instr.makeSlice 31 (.int .i64 (n : Int)) (.int .i64 (n : Int))).run Try.prog u =
    .ok (.slice (some ⟨u.heap.size, 0, none⟩) n n) (u.alloc (.cells (madeCells #[.bool false] n) 4)) := by
  obtain ⟨i0, hi, hz0, hz1, hz2⟩ := info_parts infoBool
  have h := run_make (P := Try.prog) u 31 4 i0 _ Try.underlying31 hi hz0 .i64 .i64 (n : Int) (n : Int) (by omega) (Int.le_refl _) (by rw [hz2]; omega) (by omega)
  simpa [hz1, Value.cells] using h

/-- Block G is a row that holds just these truths. -/
def RowB (w : World) (G : Nat) (hs : List Bool) : Prop := RowN w G 4 hs.length ∧ ∀ k b, hs[k]? = some b → w.cell? ⟨G, k, none⟩ = some (.bool b)
theorem RowB.set {w : World} {G : Nat} {hs : List Bool} (h : RowB w G hs) (i : Nat) (x : Bool) (hi : i < hs.length) : RowB (w.setCell ⟨G, i, none⟩ (.bool x)) G (hs.set i x) := by
  refine ⟨by rw [List.length_set]; exact h.1.set _ _, fun k y hk => ?_⟩
  rw [List.getElem?_set] at hk
  by_cases e : i = k
  · subst e
    simp [hi] at hk
    subst hk
    obtain ⟨v, hv⟩ := h.1.cell hi
    exact World.cell?_setCell_same w ⟨G, i, none⟩ _ hv
  · rw [if_neg e] at hk
    exact (World.cell?_setCell_other w ⟨G, i, none⟩ ⟨G, k, none⟩ _ (by intro e; injection e; omega)).trans (h.2 k y hk)
theorem RowB.keep {w w' : World} {G : Nat} {hs : List Bool} (h : RowB w G hs) (e : w'.heap[G]? = w.heap[G]?) : RowB w' G hs :=
  ⟨h.1.keep e, fun k y hk => (World.cell?_of_block (w := w) (a := ⟨G, k, none⟩) e).trans (h.2 k y hk)⟩
theorem RowB.below {w w' : World} {G : Nat} {hs : List Bool} (h : RowB w G hs) (hb : Past w w') : RowB w' G hs := h.keep (hb.block G h.1.lt)
theorem RowB.drewN {w : World} {G : Nat} {hs : List Bool} (h : RowB w G hs) (n : Nat) : RowB (w.drewN n) G hs := h
theorem rowB_start (w : World) (n : Nat) : RowB (w.alloc (.cells (madeCells #[.bool false] n) 4)) w.heap.size (List.replicate n false) := by
  refine ⟨⟨_, heap_alloc_new w _, by rw [List.length_replicate]; simp [size_madeCells]⟩, fun k b hk => ?_⟩
  rw [List.getElem?_replicate] at hk
  split at hk
  · rename_i hlt
    injection hk with hk
    subst hk
    rw [cell_of_row _ _ _ _ _ _ (heap_alloc_new w _), ← Array.getElem?_toList, toList_madeCells_one, List.getElem?_replicate, if_pos hlt]
  · cases hk

end Go.Proofs.Ytlkphhidicfnjaa
