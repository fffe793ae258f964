/-
  The net that impl.TurnAll makes: the line net with one node more, while its arcs come. No condition.
-/
import Derived.Test.YtaojognjkiifmaaNetTI
import Derived.Test.YtaojognjkiifmaaPTAll2
namespace Go.Proofs.Ytaojognjkiifmaa
open Go.RowKit Go.Shelf Go.Maps

/-- X: the net's box, X + 1: the box of the start, X + 2 and X + 3: the iterator's. The arcs lie anywhere else from lo on. -/
structure TaIn (w W : World) (X n lo : Nat) (v : Value) (L : List ArcD) : Prop where
  o0 : W.cell? ⟨X, 0, none⟩ = some (.int .i64 ((n : Int) + 1))
  o1 : W.cell? ⟨X, 1, none⟩ = some v
  num : W.cell? ⟨X + 1, 0, none⟩ = some (.int .i64 (n : Int))
  row : RowN W X 32 2
  own : W.ownsRow lo 52 5 v L.length (cellsOf L)
  off : ∀ b, v.ownBlock = some b → b < X ∨ X + 4 ≤ b
  base : X + 4 ≤ W.heap.size
  past : Past w W

theorem TaIn.turn {w W W' : World} {X n lo : Nat} {v : Value} {L : List ArcD} {row : Option Nat} (h : TaIn w W X n lo v L) (hwX : w.heap.size ≤ X) (hg : W.grownBy W' row) (hr : ∀ r, row = some r → X + 4 ≤ r ∧ ∃ o : Obj, W.heap[r]? = some o ∧ o.isCells = false) : TaIn w W' X n lo v L := by
  have no : ∀ x cs t f, W.heap[x]? = some (.cells cs t f) → some x ≠ row := fun x cs t f hx e => by
    obtain ⟨_, o, ho, hc⟩ := hr x e.symm
    rw [hx] at ho
    injection ho with ho
    rw [← ho] at hc
    cases hc
  refine ⟨cell_kept h.o0 hg (fun r e => (hr r e).2), cell_kept h.o1 hg (fun r e => (hr r e).2), cell_kept h.num hg (fun r e => (hr r e).2), ?_, ?_, h.off, Nat.le_trans h.base hg.size, Below.grown h.past hg h.past.size (fun r e => by have := (hr r e).1; omega)⟩
  · obtain ⟨cs, hcs, hl⟩ := h.row
    exact h.row.keep (hg.block _ h.row.lt (no _ _ _ _ hcs))
  · refine World.ownsRow.kept h.own hg ?_
    cases hv : v.ownBlock with
    | none => simp
    | some b =>
      obtain ⟨cs, hcs⟩ := cells_of_own h.own hv
      exact .inr (no _ _ _ _ hcs)

/-- One arc more. -/
theorem TaIn.fill {w W : World} {X n lo : Nat} {v : Value} {L : List ArcD} (h : TaIn w W X n lo v L) (a : ArcD) (hlo : w.heap.size ≤ lo) (hloX : lo ≤ X) (hL : L.length ≤ 1000) :
    ∃ v1 w9, (Builtin.append_ #[30, 30] 30 #[v, .slice (some ⟨W.heap.size, 0, none⟩) 1 1]).run Try.prog (W.drew.alloc (.cells #[.int .i64 a.f, .int .i64 a.t, .int .i64 a.c, .int .i64 a.l, .int .i64 a.d] 52)) = .ok v1 w9 ∧
      (∃ A2 k c2, v1 = .slice A2 k c2) ∧ (∀ p u, p.block < lo ∨ (X ≤ p.block ∧ p.block < X + 4) → W.cell? p = some u → w9.cell? p = some u) ∧
      (∃ u, w9.cell? ⟨X, 1, none⟩ = some u) ∧ w9.frozen? ⟨X, 1, none⟩ = false ∧ TaIn w (w9.setCell ⟨X, 1, none⟩ v1) X n lo v1 (L ++ [a]) ∧
      KeepsFrom (X + 4) W (w9.setCell ⟨X, 1, none⟩ v1) ∧ (∀ k, k < lo ∨ (X + 1 ≤ k ∧ k < X + 4) → (w9.setCell ⟨X, 1, none⟩ v1).heap[k]? = W.heap[k]?) ∧ Below w.heap.size W (w9.setCell ⟨X, 1, none⟩ v1) := by
  obtain ⟨i0, hi, hz0, hz1, hz2⟩ := info_parts infoArc
  have hown := h.own
  have hsz := h.base
  have hownA : (W.drew.alloc (.cells #[.int .i64 a.f, .int .i64 a.t, .int .i64 a.c, .int .i64 a.l, .int .i64 a.d] 52)).ownsRow lo 52 5 v L.length (cellsOf L) := World.ownsRow.alloc (w := W.drew) hown _
  obtain ⟨v1, w9, hr, h2, h3, _, h5⟩ := run_append_own_at (P := Try.prog) (W.drew.alloc (.cells #[.int .i64 a.f, .int .i64 a.t, .int .i64 a.c, .int .i64 a.l, .int .i64 a.d] 52)) lo 30 30 52 i0 _ 5 40 Try.underlying30 hi hz0 hz1 hz2 rfl (by omega) v L.length (cellsOf L) hownA ⟨W.heap.size, 0, none⟩ 1 1 [.int .i64 a.f, .int .i64 a.t, .int .i64 a.c, .int .i64 a.l, .int .i64 a.d] rfl (five_news W.drew _ _ _ _ _ _) (cellsOf_one [a]) (by unfold maxLen; omega) (by omega) (by simp; omega)
  have hs1 : (W.drew.alloc (.cells #[.int .i64 a.f, .int .i64 a.t, .int .i64 a.c, .int .i64 a.l, .int .i64 a.d] 52)).heap.size = W.heap.size + 1 := by simp
  have off : ∀ k, k < lo ∨ (X ≤ k ∧ k < X + 4) → some k ≠ v.ownBlock := fun k hk e => by
    rcases hk with hk | hk
    · exact own_ne hown (g := k) (by omega) e
    · have := h.off k e.symm; omega
  have old : ∀ k, k < W.heap.size → (W.drew.alloc (.cells #[.int .i64 a.f, .int .i64 a.t, .int .i64 a.c, .int .i64 a.l, .int .i64 a.d] 52)).heap[k]? = W.heap[k]? := fun k hk => Below.heap_alloc W.drew _ k hk
  have far : ∀ p u, p.block < lo ∨ (X ≤ p.block ∧ p.block < X + 4) → W.cell? p = some u → w9.cell? p = some u := fun p u hp hc => h3.cell (cell_in (((Past.refl W).drew).alloc _) hc) (off _ hp)
  have h9 : ∀ k, k < W.heap.size → some k ≠ v.ownBlock → k ≠ X → (w9.setCell ⟨X, 1, none⟩ v1).heap[k]? = W.heap[k]? := fun k hk hne hx => (Below.heap_setCell _ _ _ _ hx).trans ((h3.block k (by omega) hne).trans (old k hk))
  have hsz9 : W.heap.size ≤ (w9.setCell ⟨X, 1, none⟩ v1).heap.size := by have := h3.size; rw [hs1] at this; simp; omega
  have r9 : RowN w9 X 32 2 := h.row.keep ((h3.block X (by omega) (off X (.inr (by omega)))).trans (old X (by omega)))
  have x9 := far ⟨X, 1, none⟩ v (.inr (by simp)) h.o1
  have off1 : ∀ b, v1.ownBlock = some b → b < X ∨ X + 4 ≤ b := fun b e => by
    rcases h5 with e5 | e5
    · exact h.off b (e5.symm.trans e)
    · rw [e5] at e
      injection e with e
      omega
  have hbel : Below w.heap.size W (w9.setCell ⟨X, 1, none⟩ v1) := Below.setCell (Below.grown (Below.alloc (Below.drew (Below.refl w.heap.size W)) (by simp; omega) _) h3 (by rw [hs1]; omega) (fun b e => by have := (hown.lt b e).1; omega)) (by simp; omega) _
  refine ⟨v1, w9, hr, ?_, far, ⟨_, x9⟩, r9.frozen 1, ⟨?_, World.cell?_setCell_same _ _ _ x9, ?_, r9.set _ _, ?_, off1, by omega, h.past.belowTrans hbel⟩, ⟨hsz9, fun k o hk ho hc => ?_⟩, fun k hk => h9 k (by omega) (off k (by omega)) (by omega), hbel⟩
  · obtain ⟨g, c, e, _⟩ := World.ownsRow.form h2 (by omega)
    exact ⟨_, _, _, e⟩
  · exact (World.cell?_setCell_other _ _ _ _ (by simp)).trans (far _ _ (.inr (by simp)) h.o0)
  · exact (World.cell?_setCell_other _ _ _ _ (by intro e; injection e; omega)).trans (far _ _ (.inr (by simp)) h.num)
  · rw [List.length_append, cellsOf_append]
    exact own_far h2 (fun e => by have := off1 X e; omega) _
  · refine (h9 k (Array.getElem?_eq_some_iff.1 ho).1 (fun e => ?_) (by omega)).trans ho
    obtain ⟨cs, hcs⟩ := cells_of_own hown e.symm
    rw [hcs] at ho
    injection ho with ho
    rw [← ho] at hc
    cases hc

end Go.Proofs.Ytaojognjkiifmaa
