/-
  What lengthsFrom has in memory, and what its steps leave of it. No condition.
-/
import Derived.Test.YtaojognjkiifmacNPush
import Derived.Test.YtaojognjkiifmacNPop
import Derived.Test.YtaojognjkiifmacOut
namespace Go.Proofs.Ytaojognjkiifmac
open Go.RowKit

/-- The net's box, the lengths and their box, the heap, the loops that are over. -/
structure LMem (w wr : World) (m : Int) (B : Option Addr) (k cap LG LB hp lo M : Nat) (L : List LenD) (H : List OpenD) (g cp : Nat) (rs : List Nat) : Prop where
  n0 : wr.cell? ⟨w.heap.size, 0, none⟩ = some (.int .i64 m)
  n1 : wr.cell? ⟨w.heap.size, 1, none⟩ = some (.slice B k cap)
  bx : wr.cell? ⟨LB, 0, none⟩ = some (.slice (some ⟨LG, 0, none⟩) M M)
  row : RowLen wr LG (.slice (some ⟨LG, 0, none⟩) M M) L
  heap : HeapAt wr hp lo (.slice (some ⟨g, 0, none⟩) H.length cp) H
  past : Past w wr
  defs : ∀ r ∈ rs, wr.heap[r]? = some (.deferred (some []))
  ord : w.heap.size < LG ∧ LG < LB ∧ LB < hp ∧ hp < lo
  len : L.length = M

section
variable {w wr wr' : World} {m : Int} {B : Option Addr} {k cap LG LB hp lo M : Nat} {L : List LenD} {H : List OpenD} {g cp : Nat} {rs : List Nat}

theorem LMem.glt (h : LMem w wr m B k cap LG LB hp lo M L H g cp rs) : lo ≤ g ∧ g < wr.heap.size := World.ownsRow.lt h.heap.rowH g rfl
theorem cells_of_own {W : World} {b e size n : Nat} {v : Value} {xs : List Value} {q : Nat} (h : W.ownsRow b e size v n xs) (hv : v.ownBlock = some q) : ∃ cs, W.heap[q]? = some (.cells cs e (0, 0)) := by
  rcases h.2 with ⟨h0, _⟩ | ⟨g, cap, cur, he, _, hh, _⟩
  · rw [h0] at hv; cases hv
  · rw [he] at hv
    have : g = q := Option.some.inj hv
    subst this
    exact ⟨cur, hh⟩
theorem LMem.rg (h : LMem w wr m B k cap LG LB hp lo M L H g cp rs) : ∀ r ∈ rs, r ≠ g ∧ r ≠ hp ∧ r ≠ LG := fun r hr => by
  have hd := h.defs r hr
  refine ⟨fun e => ?_, fun e => ?_, fun e => ?_⟩
  · obtain ⟨cs, hc⟩ := cells_of_own h.heap.rowH (q := g) rfl
    rw [e, hc] at hd
    cases hd
  · obtain ⟨cs, hc, _⟩ := h.heap.row
    rw [e, hc] at hd
    cases hd
  · obtain ⟨cs, hc⟩ := cells_of_own h.row (q := LG) rfl
    rw [e, hc] at hd
    cases hd
/-- Others have turned. -/
theorem LMem.ch {S : Nat → Prop} (h : LMem w wr m B k cap LG LB hp lo M L H g cp rs) (c : Ch S wr wr') (hS : ∀ x, x < wr.heap.size → S x → w.heap.size < x ∧ x ≠ LG ∧ x ≠ LB ∧ x ≠ hp ∧ x ≠ g ∧ x ∉ rs) : LMem w wr' m B k cap LG LB hp lo M L H g cp rs := by
  have lt0 : w.heap.size < wr.heap.size := lt_of_cell h.n0
  have lt1 : LB < wr.heap.size := lt_of_cell h.bx
  have lt2 : hp < wr.heap.size := h.heap.row.lt
  have lt3 : LG < wr.heap.size := (World.ownsRow.lt h.row LG rfl).2
  have lt4 := h.glt.2
  have nS : ∀ x, x < wr.heap.size → (x ≤ w.heap.size ∨ x = LG ∨ x = LB ∨ x = hp ∨ x = g ∨ x ∈ rs) → ¬ S x := fun x hx ho hs => by
    obtain ⟨a1, a2, a3, a4, a5, a6⟩ := hS x hx hs
    rcases ho with ho | ho | ho | ho | ho | ho
    · omega
    · exact a2 ho
    · exact a3 ho
    · exact a4 ho
    · exact a5 ho
    · exact a6 ho
  refine ⟨c.cell h.n0 (nS _ lt0 (.inl (Nat.le_refl _))), c.cell h.n1 (nS _ lt0 (.inl (Nat.le_refl _))), c.cell h.bx (nS _ lt1 (.inr (.inr (.inl rfl)))), c.own h.row (fun q e => ?_), h.heap.ch c (nS _ lt2 (.inr (.inr (.inr (.inl rfl))))) (fun q e => ?_), ?_, fun r hr => ?_, h.ord, h.len⟩
  · have : LG = q := Option.some.inj e
    subst this
    exact nS _ lt3 (.inr (.inl rfl))
  · have : g = q := Option.some.inj e
    subst this
    exact nS _ lt4 (.inr (.inr (.inr (.inr (.inl rfl)))))
  · exact h.past.belowTrans (c.below (Nat.le_of_lt lt0) (fun x hx => nS x (by omega) (.inl (Nat.le_of_lt hx))))
  · have hd := h.defs r hr
    rw [c.block r (Array.getElem?_eq_some_iff.1 hd).1 (nS r (Array.getElem?_eq_some_iff.1 hd).1 (.inr (.inr (.inr (.inr (.inr hr))))))]
    exact hd
theorem LMem.later (h : LMem w wr m B k cap LG LB hp lo M L H g cp rs) (c : Past wr wr') : LMem w wr' m B k cap LG LB hp lo M L H g cp rs := h.ch (S := fun _ => False) (Ch.of_past c) (fun _ _ e => e.elim)
/-- The heap has turned. -/
theorem LMem.chH {S : Nat → Prop} {H' : List OpenD} {g' cp' : Nat} (h : LMem w wr m B k cap LG LB hp lo M L H g cp rs) (c : Ch S wr wr') (hS : ∀ x, S x → x = hp ∨ x = g) (h' : HeapAt wr' hp lo (.slice (some ⟨g', 0, none⟩) H'.length cp') H') : LMem w wr' m B k cap LG LB hp lo M L H' g' cp' rs := by
  have ho := h.ord
  have hg := h.glt.1
  have nS : ∀ x, x ≠ hp → x ≠ g → ¬ S x := fun x h1 h2 hs => by
    rcases hS x hs with e | e
    · exact h1 e
    · exact h2 e
  refine ⟨c.cell h.n0 (nS _ (by simp only [ne_eq]; omega) (by simp only [ne_eq]; omega)), c.cell h.n1 (nS _ (by simp only [ne_eq]; omega) (by simp only [ne_eq]; omega)), c.cell h.bx (nS _ (by simp only [ne_eq]; omega) (by simp only [ne_eq]; omega)), c.own h.row (fun q e => ?_), h', ?_, fun r hr => ?_, h.ord, h.len⟩
  · have : LG = q := Option.some.inj e
    subst this
    exact nS _ (by omega) (by omega)
  · exact h.past.belowTrans (c.below (Nat.le_of_lt (lt_of_cell h.n0)) (fun x hx => nS x (by omega) (by omega)))
  · have hd := h.defs r hr
    have hq := h.rg r hr
    rw [c.block r (Array.getElem?_eq_some_iff.1 hd).1 (nS r hq.2.1 hq.1)]
    exact hd
/-- A length is written. -/
theorem LMem.put (h : LMem w wr m B k cap LG LB hp lo M L H g cp rs) (j : Nat) (x0 x1 : Int) :
    LMem w ((wr.setCell ⟨LG, j * 2, none⟩ (.int .i64 x0)).setCell ⟨LG, j * 2 + 1, none⟩ (.int .i64 x1)) m B k cap LG LB hp lo M (L.set j ⟨x0, x1⟩) H g cp rs ∧
      wr.grownBy ((wr.setCell ⟨LG, j * 2, none⟩ (.int .i64 x0)).setCell ⟨LG, j * 2 + 1, none⟩ (.int .i64 x1)) (some LG) := by
  have ho := h.ord
  have hg := h.glt.1
  obtain ⟨r1, g1⟩ := h.row.put h.len j x0 x1
  have c := Ch.of_grown (S := fun x => x = LG) g1 (fun g e => by injection e with e; exact e.symm)
  refine ⟨⟨c.cell h.n0 (by simp only; omega), c.cell h.n1 (by simp only; omega), c.cell h.bx (by simp only; omega), r1, h.heap.ch c (by omega) (fun q e => ?_), ?_, fun r hr => ?_, h.ord, by rw [List.length_set]; exact h.len⟩, g1⟩
  · have : g = q := Option.some.inj e
    subst this
    show ¬ g = LG
    omega
  · exact h.past.belowTrans (c.below (Nat.le_of_lt (lt_of_cell h.n0)) (fun x hx => by show ¬ x = LG; omega))
  · have hd := h.defs r hr
    rw [c.block r (Array.getElem?_eq_some_iff.1 hd).1 (h.rg r hr).2.2]
    exact hd
/-- What is no cells has turned. -/
theorem LMem.turn {row : Option Nat} {Bd : Nat} (h : LMem w wr m B k cap LG LB hp lo M L H g cp rs) (hg : wr.grownBy wr' row) (hr : ∀ r, row = some r → Bd ≤ r ∧ ∃ o : Obj, wr.heap[r]? = some o ∧ o.isCells = false) (hw : w.heap.size < Bd) (hrs : ∀ r ∈ rs, r < Bd) : LMem w wr' m B k cap LG LB hp lo M L H g cp rs := by
  refine h.ch (S := fun x => row = some x) (Ch.of_grown hg (fun g e => e)) (fun x hx e => ?_)
  obtain ⟨hb, o, ho, hc⟩ := hr x e
  have no : ∀ cs t f, wr.heap[x]? ≠ some (.cells cs t f) := fun cs t f e => by
    rw [ho] at e
    injection e with e
    rw [e] at hc
    cases hc
  refine ⟨by omega, fun e => ?_, fun e => ?_, fun e => ?_, fun e => ?_, fun e => ?_⟩
  · obtain ⟨cs, hcs⟩ := cells_of_own h.row (q := LG) rfl
    rw [e] at no
    exact no _ _ _ hcs
  · obtain ⟨o', ho', hc'⟩ := cells_of_cell h.bx
    simp only at ho'
    rw [e, ho'] at ho
    injection ho with ho
    rw [ho, hc] at hc'
    cases hc'
  · obtain ⟨cs, hcs, _⟩ := h.heap.row
    rw [e] at no
    exact no _ _ _ hcs
  · obtain ⟨cs, hcs⟩ := cells_of_own h.heap.rowH (q := g) rfl
    rw [e] at no
    exact no _ _ _ hcs
  · have := hrs x e
    omega
end

end Go.Proofs.Ytaojognjkiifmac
