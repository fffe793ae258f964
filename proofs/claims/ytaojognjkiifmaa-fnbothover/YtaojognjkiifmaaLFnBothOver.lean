/-
  FnBothOver answers true at every input: over a node it costs no less than any way, and over one of the best way as little. No condition.
-/
import Derived.Test.YtaojognjkiifmaaNPush
import Derived.Test.YtaojognjkiifmaaNPop
import Derived.Test.YtaojognjkiifmaaOut
import Derived.Sort.LoopGhostIn
import Derived.Laws.EntriesVeiled
import Derived.Test.YtaojognjkiifmaaNRep
import Derived.Test.YtaojognjkiifmaaNArcs
import Derived.Test.YtaojognjkiifmaaNCh
import Derived.Test.YtaojognjkiifmaaNear
import Derived.Test.YtaojognjkiifmaaBack
import Derived.Test.YtaojognjkiifmaaOwnL
import Derived.Test.YtaojognjkiifmaaInfoI
import Derived.Test.YtaojognjkiifmaaMarkB
import Derived.Test.YtaojognjkiifmaaTo
import Derived.Deep.DeepCutAuto
import Derived.Test.YtaojognjkiifmaaFirst
import Derived.Test.YtaojognjkiifmaaPTree2
import Derived.Test.YtaojognjkiifmaaWalkT
import Derived.Test.YtaojognjkiifmaaPWay
import Derived.Test.YtaojognjkiifmaaPPlain
import Derived.Test.YtaojognjkiifmaaPNear
import Derived.Deep.RegionWith
import Derived.Test.YtaojognjkiifmaaQPast
import Derived.Test.YtaojognjkiifmaaDrawBothOver
import Derived.Test.YtaojognjkiifmaaOpenB
namespace Go.Proofs.Ytaojognjkiifmaa
open Go.RowKit

/-- The net's box, the lengths and their box, the heap, the loops that are over. -/
structure LMem (w wr : World) (m : Int) (B : Option Addr) (k cap LG LB hp lo M : Nat) (L : List LenD) (H : List OpenD) (g cp : Nat) (rs : List Nat) : Prop where
  n0 : wr.cell? ⟨w.heap.size, 0, none⟩ = some (.int .i64 m)
  n1 : wr.cell? ⟨w.heap.size, 1, none⟩ = some (.slice B k cap)
  bx : wr.cell? ⟨LB, 0, none⟩ = some (.slice (some ⟨LG, 0, none⟩) M M)
  row : RowLen wr LG (.slice (some ⟨LG, 0, none⟩) M M) L
  heap : HeapAt wr hp lo (.slice (some ⟨g, 0, none⟩) H.length cp) H
  past : Past w wr
  defs : ∀ r ∈ rs, wr.heap[r]? = some (.deferred (some []))
  ord : w.heap.size < LG ∧ LG < LB ∧ LB < hp ∧ hp < lo
  len : L.length = M

section
variable {w wr wr' : World} {m : Int} {B : Option Addr} {k cap LG LB hp lo M : Nat} {L : List LenD} {H : List OpenD} {g cp : Nat} {rs : List Nat}

theorem LMem.glt (h : LMem w wr m B k cap LG LB hp lo M L H g cp rs) : lo ≤ g ∧ g < wr.heap.size := World.ownsRow.lt h.heap.rowH g rfl
theorem cells_of_own {W : World} {b e size n : Nat} {v : Value} {xs : List Value} {q : Nat} (h : W.ownsRow b e size v n xs) (hv : v.ownBlock = some q) : ∃ cs, W.heap[q]? = some (.cells cs e (0, 0)) := by
  rcases h.2 with ⟨h0, _⟩ | ⟨g, cap, cur, he, _, hh, _⟩
  · rw [h0] at hv; cases hv
  · rw [he] at hv
    have : g = q := Option.some.inj hv
    subst this
    exact ⟨cur, hh⟩
theorem LMem.rg (h : LMem w wr m B k cap LG LB hp lo M L H g cp rs) : ∀ r ∈ rs, r ≠ g ∧ r ≠ hp ∧ r ≠ LG := fun r hr => by
  have hd := h.defs r hr
  refine ⟨fun e => ?_, fun e => ?_, fun e => ?_⟩
  · obtain ⟨cs, hc⟩ := cells_of_own h.heap.rowH (q := g) rfl
    rw [e, hc] at hd
    cases hd
  · obtain ⟨cs, hc, _⟩ := h.heap.row
    rw [e, hc] at hd
    cases hd
  · obtain ⟨cs, hc⟩ := cells_of_own h.row (q := LG) rfl
    rw [e, hc] at hd
    cases hd
/-- Others have turned. -/
theorem LMem.ch {S : Nat → Prop} (h : LMem w wr m B k cap LG LB hp lo M L H g cp rs) (c : Ch S wr wr') (hS : ∀ x, x < wr.heap.size → S x → w.heap.size < x ∧ x ≠ LG ∧ x ≠ LB ∧ x ≠ hp ∧ x ≠ g ∧ x ∉ rs) : LMem w wr' m B k cap LG LB hp lo M L H g cp rs := by
  have lt0 : w.heap.size < wr.heap.size := lt_of_cell h.n0
  have lt1 : LB < wr.heap.size := lt_of_cell h.bx
  have lt2 : hp < wr.heap.size := h.heap.row.lt
  have lt3 : LG < wr.heap.size := (World.ownsRow.lt h.row LG rfl).2
  have lt4 := h.glt.2
  have nS : ∀ x, x < wr.heap.size → (x ≤ w.heap.size ∨ x = LG ∨ x = LB ∨ x = hp ∨ x = g ∨ x ∈ rs) → ¬ S x := fun x hx ho hs => by
    obtain ⟨a1, a2, a3, a4, a5, a6⟩ := hS x hx hs
    rcases ho with ho | ho | ho | ho | ho | ho
    · omega
    · exact a2 ho
    · exact a3 ho
    · exact a4 ho
    · exact a5 ho
    · exact a6 ho
  refine ⟨c.cell h.n0 (nS _ lt0 (.inl (Nat.le_refl _))), c.cell h.n1 (nS _ lt0 (.inl (Nat.le_refl _))), c.cell h.bx (nS _ lt1 (.inr (.inr (.inl rfl)))), c.own h.row (fun q e => ?_), h.heap.ch c (nS _ lt2 (.inr (.inr (.inr (.inl rfl))))) (fun q e => ?_), ?_, fun r hr => ?_, h.ord, h.len⟩
  · have : LG = q := Option.some.inj e
    subst this
    exact nS _ lt3 (.inr (.inl rfl))
  · have : g = q := Option.some.inj e
    subst this
    exact nS _ lt4 (.inr (.inr (.inr (.inr (.inl rfl)))))
  · exact h.past.belowTrans (c.below (Nat.le_of_lt lt0) (fun x hx => nS x (by omega) (.inl (Nat.le_of_lt hx))))
  · have hd := h.defs r hr
    rw [c.block r (Array.getElem?_eq_some_iff.1 hd).1 (nS r (Array.getElem?_eq_some_iff.1 hd).1 (.inr (.inr (.inr (.inr (.inr hr))))))]
    exact hd
theorem LMem.later (h : LMem w wr m B k cap LG LB hp lo M L H g cp rs) (c : Past wr wr') : LMem w wr' m B k cap LG LB hp lo M L H g cp rs := h.ch (S := fun _ => False) (Ch.of_past c) (fun _ _ e => e.elim)
/-- The heap has turned. -/
theorem LMem.chH {S : Nat → Prop} {H' : List OpenD} {g' cp' : Nat} (h : LMem w wr m B k cap LG LB hp lo M L H g cp rs) (c : Ch S wr wr') (hS : ∀ x, S x → x = hp ∨ x = g) (h' : HeapAt wr' hp lo (.slice (some ⟨g', 0, none⟩) H'.length cp') H') : LMem w wr' m B k cap LG LB hp lo M L H' g' cp' rs := by
  have ho := h.ord
  have hg := h.glt.1
  have nS : ∀ x, x ≠ hp → x ≠ g → ¬ S x := fun x h1 h2 hs => by
    rcases hS x hs with e | e
    · exact h1 e
    · exact h2 e
  refine ⟨c.cell h.n0 (nS _ (by simp only [ne_eq]; omega) (by simp only [ne_eq]; omega)), c.cell h.n1 (nS _ (by simp only [ne_eq]; omega) (by simp only [ne_eq]; omega)), c.cell h.bx (nS _ (by simp only [ne_eq]; omega) (by simp only [ne_eq]; omega)), c.own h.row (fun q e => ?_), h', ?_, fun r hr => ?_, h.ord, h.len⟩
  · have : LG = q := Option.some.inj e
    subst this
    exact nS _ (by omega) (by omega)
  · exact h.past.belowTrans (c.below (Nat.le_of_lt (lt_of_cell h.n0)) (fun x hx => nS x (by omega) (by omega)))
  · have hd := h.defs r hr
    have hq := h.rg r hr
    rw [c.block r (Array.getElem?_eq_some_iff.1 hd).1 (nS r hq.2.1 hq.1)]
    exact hd
/-- A length is written. -/
theorem LMem.put (h : LMem w wr m B k cap LG LB hp lo M L H g cp rs) (j : Nat) (x0 x1 : Int) :
    LMem w ((wr.setCell ⟨LG, j * 2, none⟩ (.int .i64 x0)).setCell ⟨LG, j * 2 + 1, none⟩ (.int .i64 x1)) m B k cap LG LB hp lo M (L.set j ⟨x0, x1⟩) H g cp rs ∧
      wr.grownBy ((wr.setCell ⟨LG, j * 2, none⟩ (.int .i64 x0)).setCell ⟨LG, j * 2 + 1, none⟩ (.int .i64 x1)) (some LG) := by
  have ho := h.ord
  have hg := h.glt.1
  obtain ⟨r1, g1⟩ := h.row.put h.len j x0 x1
  have c := Ch.of_grown (S := fun x => x = LG) g1 (fun g e => by injection e with e; exact e.symm)
  refine ⟨⟨c.cell h.n0 (by simp only; omega), c.cell h.n1 (by simp only; omega), c.cell h.bx (by simp only; omega), r1, h.heap.ch c (by omega) (fun q e => ?_), ?_, fun r hr => ?_, h.ord, by rw [List.length_set]; exact h.len⟩, g1⟩
  · have : g = q := Option.some.inj e
    subst this
    show ¬ g = LG
    omega
  · exact h.past.belowTrans (c.below (Nat.le_of_lt (lt_of_cell h.n0)) (fun x hx => by show ¬ x = LG; omega))
  · have hd := h.defs r hr
    rw [c.block r (Array.getElem?_eq_some_iff.1 hd).1 (h.rg r hr).2.2]
    exact hd
/-- What is no cells has turned. -/
theorem LMem.turn {row : Option Nat} {Bd : Nat} (h : LMem w wr m B k cap LG LB hp lo M L H g cp rs) (hg : wr.grownBy wr' row) (hr : ∀ r, row = some r → Bd ≤ r ∧ ∃ o : Obj, wr.heap[r]? = some o ∧ o.isCells = false) (hw : w.heap.size < Bd) (hrs : ∀ r ∈ rs, r < Bd) : LMem w wr' m B k cap LG LB hp lo M L H g cp rs := by
  refine h.ch (S := fun x => row = some x) (Ch.of_grown hg (fun g e => e)) (fun x hx e => ?_)
  obtain ⟨hb, o, ho, hc⟩ := hr x e
  have no : ∀ cs t f, wr.heap[x]? ≠ some (.cells cs t f) := fun cs t f e => by
    rw [ho] at e
    injection e with e
    rw [e] at hc
    cases hc
  refine ⟨by omega, fun e => ?_, fun e => ?_, fun e => ?_, fun e => ?_, fun e => ?_⟩
  · obtain ⟨cs, hcs⟩ := cells_of_own h.row (q := LG) rfl
    rw [e] at no
    exact no _ _ _ hcs
  · obtain ⟨o', ho', hc'⟩ := cells_of_cell h.bx
    simp only at ho'
    rw [e, ho'] at ho
    injection ho with ho
    rw [ho, hc] at hc'
    cases hc'
  · obtain ⟨cs, hcs, _⟩ := h.heap.row
    rw [e] at no
    exact no _ _ _ hcs
  · obtain ⟨cs, hcs⟩ := cells_of_own h.heap.rowH (q := g) rfl
    rw [e] at no
    exact no _ _ _ hcs
  · have := hrs x e
    omega
end

end Go.Proofs.Ytaojognjkiifmaa

namespace Go.Proofs.Ytaojognjkiifmaa
open Go.RowKit Go.Shelf

attribute [local go_sem] Oper.semAt_some


theorem rowLen_of_heap {W : World} {g lo n : Nat} {L : List LenD} (h : W.heap[g]? = some (.cells (cellsLen L).toArray 88 (0, 0))) (hl : L.length = n) (hlo : lo ≤ g) (hn : n ≤ 1048576) : RowLen W lo (.slice (some ⟨g, 0, none⟩) n n) L := by
  unfold RowLen
  rw [hl]
  have hc : (cellsLen L).length = n * 2 := by rw [cellsLen_length, hl]
  exact ⟨hc, .inr ⟨g, n, (cellsLen L).toArray, rfl, hlo, h, Nat.le_refl _, by unfold maxLen; omega, by simpa using hc, by rw [List.toList_toArray, ← hc, List.take_length]⟩⟩

theorem RowLen.lower {w : World} {lo lo' : Nat} {v : Value} {L : List LenD} (h : RowLen w lo v L) (hl : lo' ≤ lo) : RowLen w lo' v L := by
  refine ⟨h.1, ?_⟩
  rcases h.2 with h0 | ⟨g, cap, cur, hv, hlo, r⟩
  · exact .inl h0
  · exact .inr ⟨g, cap, cur, hv, by omega, r⟩
/-- A loop over an iterator that is over. -/
def mkD (r : Nat) : Deferred := { target := .collected r, args := #[] }
/-- The frame between two rounds. -/
def lFrame (w : World) (M S k cap LB : Nat) (B : Option Addr) (u : Nat → Value) (ds : List Deferred) : Act :=
  { tmps := (.agg #[.int .i64 (M : Int), .slice B k cap] :: .int .i64 (S : Int) :: .pointer (some ⟨w.heap.size, 0, none⟩) :: undef :: .slice none 0 0 :: .pointer (some ⟨LB, 0, none⟩) :: .pointer (some ⟨LB + 1, 0, none⟩) :: u 7 :: u 8 :: u 9 :: u 10 :: .agg #[.int .i64 99999, .int .i64 0] :: .slice (some ⟨w.heap.size + 1, 0, none⟩) 1 1 :: .pointer (some ⟨w.heap.size, 0, none⟩) :: .int .i64 (M : Int) :: .slice (some ⟨w.heap.size + 1 + 1, 0, none⟩) M M :: .slice (some ⟨w.heap.size + 1 + 1, 0, none⟩) M M :: .int .i64 (S : Int) :: .agg #[.int .i64 0, .int .i64 0] :: .pointer (some ⟨w.heap.size + 1 + 1, S * 2, none⟩) :: .agg #[.slice none 0 0, .func (.func 103) #[] #[]] :: .int .i64 (S : Int) :: .agg #[.int .i64 (S : Int), .int .i64 0, .int .i64 0] :: .tuple #[] :: u 24 :: u 25 :: u 26 :: u 27 :: u 28 :: u 29 :: u 30 :: u 31 :: u 32 :: u 33 :: u 34 :: u 35 :: u 36 :: u 37 :: u 38 :: u 39 :: u 40 :: u 41 :: u 42 :: u 43 :: u 44 :: u 45 :: u 46 :: u 47 :: u 48 :: u 49 :: u 50 :: u 51 :: u 52 :: u 53 :: u 54 :: u 55 :: u 56 :: u 57 :: u 58 :: u 59 :: u 60 :: u 61 :: u 62 :: u 63 :: u 64 :: u 65 :: u 66 :: u 67 :: undef :: []).toArray, defers := ds }
theorem lFrame_mk {w : World} {M S k cap LB : Nat} {B : Option Addr} (t : Array Value) (ds : List Deferred) (h : t = (lFrame w M S k cap LB B (fun i => t.getD i undef) ds).tmps) : ∃ u, (Act.mk t ds) = lFrame w M S k cap LB B u ds :=
  ⟨fun i => t.getD i undef, by rw [lFrame]; congr 1⟩

/-- The frame of a round behind the comparison. -/
def bFrame (p2 p5 p6 p7 p8 p9 p10 p57 : Value) (u : Nat → Value) : Act :=
  { tmps := (u 0 :: u 1 :: p2 :: u 3 :: u 4 :: p5 :: p6 :: p7 :: p8 :: p9 :: p10 :: u 11 :: u 12 :: u 13 :: u 14 :: u 15 :: u 16 :: u 17 :: u 18 :: u 19 :: u 20 :: u 21 :: u 22 :: u 23 :: u 24 :: u 25 :: u 26 :: u 27 :: u 28 :: u 29 :: u 30 :: u 31 :: u 32 :: u 33 :: u 34 :: u 35 :: u 36 :: u 37 :: u 38 :: u 39 :: u 40 :: u 41 :: u 42 :: u 43 :: u 44 :: u 45 :: u 46 :: u 47 :: u 48 :: u 49 :: u 50 :: u 51 :: u 52 :: u 53 :: u 54 :: u 55 :: u 56 :: p57 :: u 58 :: u 59 :: u 60 :: u 61 :: u 62 :: u 63 :: u 64 :: u 65 :: u 66 :: u 67 :: u 68 :: []).toArray, defers := [] }
theorem bFrame_mk {p2 p5 p6 p7 p8 p9 p10 p57 : Value} (t : Array Value) (h : t = (bFrame p2 p5 p6 p7 p8 p9 p10 p57 (fun i => t.getD i undef)).tmps) : ∃ u, (Act.mk t []) = bFrame p2 p5 p6 p7 p8 p9 p10 p57 u :=
  ⟨fun i => t.getD i undef, by rw [bFrame]; congr 1⟩

/-- The marks are taken one by one. -/
theorem leaves_marks {F : Fence} {n : Nat} {P : Program} {fn : Func} {tmps : Array Value} {R : Ending → World → Prop} : ∀ (rs : List Nat) (W : World), rs.Nodup → (∀ r ∈ rs, W.heap[r]? = some (.deferred (some []))) →
    (∀ W', Ch (fun x => x ∈ rs) W W' → ∃ v, (results fn tmps).run P W' = .ok v W' ∧ R (.returned v) W') → LeavesInM F n P fn tmps R (rs.map mkD) .returning W
  | [], W, _, _, h => h W (Ch.refl _ _)
  | r :: rs, W, hn, hd, h => by
    obtain ⟨hnr, hn'⟩ := List.nodup_cons.1 hn
    refine ⟨by simp, .inl ⟨r, W.putObj r (.deferred none), rfl, run_takeDeferred (hd r List.mem_cons_self), leaves_marks rs _ hn' (fun r' hr' => ?_) (fun W' hc => ?_)⟩⟩
    · have hd' := hd r' (List.mem_cons_of_mem _ hr')
      rw [(grownBy_putObj' W r (.deferred none)).block r' (Array.getElem?_eq_some_iff.1 hd').1 (fun e => by injection e with e; exact hnr (e ▸ hr'))]
      exact hd'
    · exact h W' ((Ch.of_grown (S := fun x => x ∈ r :: rs) (grownBy_putObj' W r (.deferred none)) (fun g e => by injection e with e; rw [← e]; exact List.mem_cons_self)).trans hc (fun x _ hx => List.mem_cons_of_mem _ hx))

/-- The lengths of the shortest ways, in new memory. -/
def LensG (w : World) (M S : Nat) (xs : List ArcD) (e : Ending) (w' : World) : Prop :=
  ∃ g L, e = .returned (.slice (some ⟨g, 0, none⟩) M M) ∧ RowLen w' w.heap.size (.slice (some ⟨g, 0, none⟩) M M) L ∧ L.length = M ∧ Labs M xs S L ∧ AllOpen M xs L [] ∧ Below w.heap.size w w'

/-- What holds between two rounds. -/
structure LState (w wr : World) (M S k cap LB : Nat) (B : Option Addr) (xs : List ArcD) (q : Nat) (L : List LenD) (H : List OpenD) (g cp : Nat) (rs : List Nat) : Prop where
  mem : LMem w wr (M : Int) B k cap (w.heap.size + 1 + 1) LB (LB + 1) (LB + 2) M L H g cp rs
  labs : Labs M xs S L
  opens : AllOpen M xs L H
  items : ∀ x ∈ H, 0 ≤ x.x0 ∧ x.x0 < M ∧ x.x1 < 99999
  meas : 2 * ranks L + H.length ≤ q
  small : 2 * ranks L + H.length ≤ 99999999
  nodup : rs.Nodup
  since : ∀ r ∈ rs, w.heap.size ≤ r
def LLoop (w : World) (M S k cap LB : Nat) (B : Option Addr) (xs : List ArcD) (q : Nat) (a : Act) (wr : World) : Prop :=
  ∃ L H g cp rs, (∃ u, a = lFrame w M S k cap LB B u (rs.map mkD)) ∧ LState w wr M S k cap LB B xs q L H g cp rs

/-- What holds between two rounds of the inner loop. -/
structure RState (w W : World) (M S k cap LB X : Nat) (B : Option Addr) (xs : List ArcD) (V : Nat) (a1 a2 : Int) (q : Nat) (rs : List Nat) (pre : List Int) (L : List LenD) (H : List OpenD) (g cp : Nat) : Prop where
  mem : LMem w W (M : Int) B k cap (w.heap.size + 1 + 1) LB (LB + 1) (LB + 2) M L H g cp rs
  labs : Labs M xs S L
  opens : PreOpen M xs L H V pre
  items : ∀ x ∈ H, 0 ≤ x.x0 ∧ x.x0 < M ∧ x.x1 < 99999
  meas : 2 * ranks L + H.length ≤ q
  lab0 : lab L V = ⟨a1, a2⟩
  x0 : W.cell? ⟨X, 0, none⟩ = some (.int .i64 (V : Int))
  x1 : W.cell? ⟨X, 1, none⟩ = some (.int .i64 a1)
  x2 : W.cell? ⟨X, 2, none⟩ = some (.int .i64 a2)
  off : g < X ∨ X + 3 ≤ g
  base : X + 3 ≤ W.heap.size
  xb : LB + 2 ≤ X

section
variable {w W W' : World} {M S k cap LB X : Nat} {B : Option Addr} {xs : List ArcD} {V : Nat} {a1 a2 : Int} {q : Nat} {rs : List Nat} {pre : List Int} {L : List LenD} {H : List OpenD} {g cp : Nat}
theorem RState.turn {row : Option Nat} (h : RState w W M S k cap LB X B xs V a1 a2 q rs pre L H g cp) (hrs : ∀ r ∈ rs, r < X + 3) (hg : W.grownBy W' row) (hr : ∀ r, row = some r → X + 3 ≤ r ∧ ∃ o : Obj, W.heap[r]? = some o ∧ o.isCells = false) : RState w W' M S k cap LB X B xs V a1 a2 q rs pre L H g cp := by
  have hxb := h.xb
  have hord := h.mem.ord
  exact ⟨h.mem.turn hg hr (by omega) hrs, h.labs, h.opens, h.items, h.meas, h.lab0, cell_kept h.x0 hg (fun r e => (hr r e).2), cell_kept h.x1 hg (fun r e => (hr r e).2), cell_kept h.x2 hg (fun r e => (hr r e).2), h.off, Nat.le_trans h.base hg.size, h.xb⟩
theorem RState.skip {j : Nat} {a : ArcD} (h : RState w W M S k cap LB X B xs V a1 a2 q rs pre L H g cp) (hp : Past W W') (ha : xs[j]? = some a) (hn : shorter L a = false) : RState w W' M S k cap LB X B xs V a1 a2 q rs (pre ++ [(j : Int)]) L H g cp :=
  ⟨h.mem.later hp, h.labs, h.opens.skip ha hn, h.items, h.meas, h.lab0, cell_in hp h.x0, cell_in hp h.x1, cell_in hp h.x2, h.off, Nat.le_trans h.base hp.size, h.xb⟩
theorem RState.keeps (h : RState w W M S k cap LB X B xs V a1 a2 q rs pre L H g cp) (c : Ch (fun x => x = w.heap.size + 1 + 1 ∨ x = LB + 1 ∨ x = g) W W') : KeepsFrom (X + 3) W W' ∧ KArcs w.heap.size (X + 1) (X + 2) W W' := by
  have hord := h.mem.ord
  have hxb := h.xb
  have hoff := h.off
  have hbase := h.base
  have hglt := h.mem.glt
  refine ⟨⟨c.size, fun b o hb ho hc => ?_⟩, c.below (by omega) (fun x hx e => by omega), c.block _ (by omega) (by omega), c.block _ (by omega) (by omega)⟩
  rw [c.block b (Array.getElem?_eq_some_iff.1 ho).1 ?_]
  · exact ho
  · rintro (e | e | e)
    · omega
    · omega
    · subst e
      obtain ⟨cs, hcs⟩ := cells_of_own h.mem.heap.rowH (q := b) rfl
      rw [hcs] at ho
      injection ho with ho
      rw [← ho] at hc
      cases hc
theorem RState.push {j t : Nat} {f c l d : Int} {W1 : World} {e : Ending} (h : RState w W M S k cap LB X B xs V a1 a2 q rs pre L H g cp) (hp : Past W W1) (hin : ArcsIn M xs) (hne : ∀ a ∈ xs, a.f ≠ a.t) (hM8 : M ≤ 17) (hSM : S < M) (hpre : ∀ j ∈ pre, ∀ b, xs[j.toNat]? = some b → b.f = V)
    (ha : xs[j]? = some ⟨f, (t : Int), c, l, d⟩) (hf : f = (V : Int)) (hV : lab L V ≠ farL) (hn : shorter L ⟨f, (t : Int), c, l, d⟩ = true)
    (hpu : Pushed ((W1.setCell ⟨w.heap.size + 1 + 1, t * 2, none⟩ (.int .i64 (a1 + c))).setCell ⟨w.heap.size + 1 + 1, t * 2 + 1, none⟩ (.int .i64 (a2 + 1))) (LB + 1) (LB + 2) (.slice (some ⟨g, 0, none⟩) H.length cp) H ⟨(t : Int), a1 + c, a2 + 1⟩ e W') :
    ∃ L' H' g' cp', RState w W' M S k cap LB X B xs V a1 a2 q rs (pre ++ [(j : Int)]) L' H' g' cp' ∧ KeepsFrom (X + 3) W W' ∧ KArcs w.heap.size (X + 1) (X + 2) W W' := by
  subst hf
  have hm := List.mem_of_getElem? ha
  have hord := h.mem.ord
  have hxb := h.xb
  have hbase := h.base
  have hglt := h.mem.glt
  have hoff := h.off
  obtain ⟨m1, g1⟩ := (h.mem.later hp).put t (a1 + c) (a2 + 1)
  obtain ⟨_, g', cp', H', hl', hm', hh', hc', hat⟩ := hpu
  have hat' : g = g' ∨ W.heap.size ≤ g' := by
    rcases hat with e | e
    · exact .inl (Option.some.inj e)
    · exact .inr (Nat.le_trans (Nat.le_trans hp.size g1.size) e)
  have cS : Ch (fun x => x = w.heap.size + 1 + 1 ∨ x = LB + 1 ∨ x = g) W W' := by
    refine ((Ch.of_past (S := fun x => x = w.heap.size + 1 + 1 ∨ x = LB + 1 ∨ x = g) hp).grown g1 (fun _ => .inl rfl)).trans hc' (fun x _ e => ?_)
    rcases e with e | e
    · exact .inr (.inl e)
    · exact .inr (.inr (Option.some.inj e).symm)
  have m2 := m1.chH hc' (fun x e => by
    rcases e with e | e
    · exact .inl e
    · exact .inr (Option.some.inj e).symm) (by rw [hl']; exact hh')
  have hmid : (⟨(t : Int), a1 + c, a2 + 1⟩ : OpenD) = item (t : Int) (plusL (lab L (V : Int)) ⟨(V : Int), (t : Int), c, l, d⟩) := by rw [h.lab0]; rfl
  have hset : L.set t ⟨a1 + c, a2 + 1⟩ = setL L ⟨(V : Int), (t : Int), c, l, d⟩ := by unfold setL; simp only [Int.toNat_natCast]; rw [h.lab0]; rfl
  rw [hset] at m2
  have hS : 0 ≤ (S : Int) ∧ (S : Int) < (M : Int) := by omega
  have hr := ranks_step h.labs hin hS (by omega) hm hV hn
  have hb := hin _ hm
  simp only at hb
  have hX : ¬ (X = w.heap.size + 1 + 1 ∨ X = LB + 1 ∨ X = g) := by omega
  have hpo := h.opens.push (H' := H') hpre h.labs.len hin ha rfl (hne _ hm) hn (fun x => by rw [hm' x, hmid])
  refine ⟨_, H', g', cp', ⟨m2, h.labs.step hin hS hm hV hn, hpo, fun x hx => ?_, ?_, ?_, cS.cell h.x0 hX, cS.cell h.x1 hX, cS.cell h.x2 hX, by omega, Nat.le_trans h.base cS.size, h.xb⟩, h.keeps cS⟩
  · rcases (hm' x).1 hx with rfl | hx
    · have hbd := h.labs.bound hin hS (by omega) V (by omega) (by omega)
      have h6 := hbd.2.2.2.2.resolve_left hV
      rw [h.lab0] at h6
      simp only at h6 ⊢
      omega
    · exact h.items x hx
  · have := h.meas
    omega
  · rw [← hset]
    have hVt : (V : Int) ≠ (t : Int) := hne _ hm
    have := lab_set L (t : Int) (V : Int) ⟨a1 + c, a2 + 1⟩ (by omega) (by have := h.labs.len; omega) (by omega)
    rw [Int.toNat_natCast, if_neg hVt] at this
    rw [this]
    exact h.lab0
end

set_option maxRecDepth 1000000 in
set_option maxHeartbeats 4000000 in
theorem lengths_in (M S : Nat) (B : Option Addr) (k cap : Nat) (xs : List ArcD) (w : World) (hkk : k ≤ 400) (hxk : xs.length = k) (hx : ArcsAt w B xs) (hin : ArcsIn M xs) (hne : ∀ a ∈ xs, a.f ≠ a.t) (hM1 : 1 ≤ M) (hM8 : M ≤ 17) (hSM : S < M) :
    CallsIn Fence.wide 4 Try.prog 66 #[.agg #[.int .i64 (M : Int), .slice B k cap], .int .i64 (S : Int)] w (LensG w M S xs) := by
  have hSM' : (S : Int) < (M : Int) := by omega
  have hS0 : (0 : Int) ≤ (S : Int) := by omega
  refine callsIn_of_wp_marks Try.func66 rfl trivial ?_ rfl
  simp only [Try.ntmps66, List.size_toArray, List.length_cons, List.length_nil, Nat.reduceAdd, Nat.reduceSub, Array.replicate_succ, Array.replicate_zero, List.push_toArray, List.append_toArray, List.nil_append, List.cons_append]
  gi_wp2_with fail
  refine ⟨trivial, ?_⟩
  refine (callsIn_wide.2 (repeat_any (w.heap.size + 1) M 99999 0 _ hM1 hM8 (by go_simp) (by go_simp))).mono ?_
  rintro e w1 ⟨rfl, hr1, hb1⟩
  have n0 := cell_in (p := ⟨w.heap.size, 0, none⟩) (v := .int .i64 (M : Int)) hb1 (by go_simp)
  have n1 := cell_in (p := ⟨w.heap.size, 1, none⟩) (v := .slice B k cap) hb1 (by go_simp)
  have hpw : Past w w1 := (((Past.refl w).alloc _).alloc _).trans hb1
  simp only [World.size_alloc] at hr1
  have hlr : (List.replicate M (⟨99999, 0⟩ : LenD)).length = M := List.length_replicate ..
  have row1 := rowLen_of_heap (lo := w.heap.size + 1 + 1) hr1 hlr (Nat.le_refl _) (by omega)
  have hgS : (List.replicate M (⟨99999, 0⟩ : LenD))[S]? = some ⟨99999, 0⟩ := by rw [List.getElem?_replicate, if_pos hSM]
  obtain ⟨q0, q1⟩ := row1.get hlr hgS
  simp only at q0 q1
  have z0 := row1.frozen hlr (S * 2)
  have z1 := row1.frozen hlr (S * 2 + 1)
  have hlw1 : w.heap.size + 1 + 1 < w1.heap.size := lt_of_cell q0
  clear hb1 hgS
  gi_wp2_with fail
  obtain ⟨r2, g2⟩ := row1.put hlr S 0 0
  obtain ⟨X1, hX1⟩ : ∃ X1, X1 = (w1.setCell ⟨w.heap.size + 1 + 1, S * 2, none⟩ (.int .i64 0)).setCell ⟨w.heap.size + 1 + 1, S * 2 + 1, none⟩ (.int .i64 0) := ⟨_, rfl⟩
  rw [← hX1] at r2 g2 ⊢
  have hX1s : X1.heap.size = w1.heap.size := by rw [hX1]; simp
  have n0 := cell_far g2 n0 (by simp only [ne_eq]; omega)
  have n1 := cell_far g2 n1 (by simp only [ne_eq]; omega)
  have hpX1 : Past w X1 := Below.grown hpw g2 hpw.size (fun k e => by injection e with e; omega)
  clear hX1 q0 q1 z0 z1 row1 hr1 hpw
  obtain ⟨X, hX⟩ : ∃ X, X = (X1.alloc (.cells #[.slice (some ⟨w.heap.size + 1 + 1, 0, none⟩) M M] 85)).alloc (.cells #[.slice none 0 0, .func (.func 103) #[] #[]] 124) := ⟨_, rfl⟩
  have hpX : Past X1 X := by rw [hX]; exact ((Past.refl X1).alloc _).alloc _
  have hXs : X.heap.size = w1.heap.size + 2 := by rw [hX]; simp [hX1s]
  have bx : X.cell? ⟨w1.heap.size, 0, none⟩ = some (.slice (some ⟨w.heap.size + 1 + 1, 0, none⟩) M M) := by rw [hX, ← hX1s]; go_simp
  have hq : HeapAt X (w1.heap.size + 1) (w1.heap.size + 2) (.slice none 0 0) [] := by
    rw [hX, ← hX1s]
    exact ⟨⟨_, by have := heap_alloc_new (X1.alloc (.cells #[.slice (some ⟨w.heap.size + 1 + 1, 0, none⟩) M M] 85)) (.cells #[.slice none 0 0, .func (.func 103) #[] #[]] 124); rw [World.size_alloc] at this; exact this, rfl⟩, by go_simp, by go_simp, World.ownsRow_nil _ _ _ _, by omega⟩
  have n0 := cell_in hpX n0
  have n1 := cell_in hpX n1
  have r2 := Ch.own (S := fun _ => False) (Ch.of_past hpX) r2 (fun _ _ e => e)
  have hpX := hpX1.trans hpX
  rw [← hX]
  clear hX g2 hpX1 hX1s
  refine ⟨trivial, ?_⟩
  refine (callsIn_wide.2 (push_any (w1.heap.size + 1) (w1.heap.size + 2) _ [] (S : Int) 0 0 _ hq (by simp) (by omega))).mono ?_
  rintro e w2 ⟨rfl, g, cp, H, hHl, hHm, hh2, hch2, hat⟩
  have hmem : LMem w w2 (M : Int) B k cap (w.heap.size + 1 + 1) w1.heap.size (w1.heap.size + 1) (w1.heap.size + 2) M ((List.replicate M (⟨99999, 0⟩ : LenD)).set S ⟨0, 0⟩) H g cp [] := by
    have no : ∀ x, x ≠ w1.heap.size + 1 → ¬ (x = w1.heap.size + 1 ∨ (Value.slice none 0 0).ownBlock = some x) := fun x hx e => by
      rcases e with e | e
      · exact hx e
      · cases e
    refine ⟨hch2.cell n0 (no _ (by simp only [ne_eq]; omega)), hch2.cell n1 (no _ (by simp only [ne_eq]; omega)), hch2.cell bx (no _ (by simp)), hch2.own r2 (fun q e => ?_), by rw [hHl]; exact hh2, hpX.belowTrans (hch2.below (by omega) (fun x hx => no x (by omega))), fun r hr => by simp at hr, by omega, by rw [List.length_set]; exact hlr⟩
    have : w.heap.size + 1 + 1 = q := Option.some.inj e
    exact no q (by omega)
  clear hq hch2 hh2 n0 n1 bx r2 hpX hat hlr
  gi_wp2_with fail
  have hstart : LState w w2 M S k cap w1.heap.size B xs (2 * ranks ((List.replicate M (⟨99999, 0⟩ : LenD)).set S ⟨0, 0⟩) + H.length) ((List.replicate M (⟨99999, 0⟩ : LenD)).set S ⟨0, 0⟩) H g cp [] := by
    have e1 : H.length = 1 := hHl
    have hS : 0 ≤ (S : Int) ∧ (S : Int) < (M : Int) := by omega
    have hl := labs_start M xs (S : Int) hS
    have ho := open_start M xs (S : Int) hS
    have hr := ranks_start M (S : Int) hM8
    simp only [Int.toNat_natCast, farL, farI] at hl ho hr
    have hme : ∀ x, x ∈ H ↔ x = ⟨(S : Int), 0, 0⟩ := fun x => by rw [hHm x]; simp
    refine ⟨hmem, hl, fun v h0 h1 => ?_, fun x hx => ?_, Nat.le_refl _, by omega, List.nodup_nil, fun r hr => by simp at hr⟩
    · rcases ho v h0 h1 with q | q | q
      · exact .inl q
      · exact .inr (.inl ((hme _).2 (by simpa using q)))
      · exact .inr (.inr q)
    · rw [(hme x).1 hx]; simp only; omega
  have HX := Lib.hid hx
  clear hmem hHm hHl hx
  refine wpIn_loop_ghost_k (LLoop w M S k cap w1.heap.size B xs) _ ⟨_, H, g, cp, [], lFrame_mk _ _ (by rfl), hstart⟩ ?_
  clear hstart
  rintro q a wr ⟨L, H, g, cp, rs, ⟨u, rfl⟩, hst⟩ J K hJ hK
  simp only [lFrame]
  have hbx := hst.mem.bx
  have hit := hst.mem.heap.items
  cases hHn : H.length with
  | zero =>
    rw [hHn] at hit
    have hH0 : H = [] := List.eq_nil_of_length_eq_zero hHn
    subst hH0
    gi_wp2
    refine leaves_marks rs _ hst.nodup hst.mem.defs (fun W' hc => ⟨_, results_tmp rfl _ _ _, ?_⟩)
    refine ⟨w.heap.size + 1 + 1, L, rfl, ?_, hst.mem.len, hst.labs, hst.opens, ?_⟩
    · refine RowLen.lower (hc.own hst.mem.row (fun x e hx => ?_)) (by omega)
      have : w.heap.size + 1 + 1 = x := Option.some.inj e
      exact (hst.mem.rg x hx).2.2 this.symm
    · exact hst.mem.past.belowTrans (hc.below hst.mem.past.size (fun x hx hr => by have := hst.since x hr; omega))
  | succ n =>
    have hheap := hst.mem.heap
    have hsm := hst.small
    rw [hHn] at hit hheap hsm
    have i0 : (0 : Int) < (n : Int) + 1 := by omega
    have i0' : 0 < n + 1 := by omega
    gi_wp2_with fail
    refine ⟨trivial, ?_⟩
    refine (callsIn_wide.2 (pop_any (w1.heap.size + 1) (w1.heap.size + 2) g n cp H _ hheap hHn (by omega))).mono ?_
    rintro e w3 ⟨a0, a1, a2, H', rfl, hl', hm', hh', hc'⟩
    have hmem3 : LMem w w3 (M : Int) B k cap (w.heap.size + 1 + 1) w1.heap.size (w1.heap.size + 1) (w1.heap.size + 2) M L H' g cp rs := hst.mem.chH hc' (fun x e => e) (by rw [hl']; exact hh')
    have hin0 := hst.items _ ((hm' _).2 (.inl rfl))
    simp only at hin0
    obtain ⟨V, rfl⟩ : ∃ V : Nat, a0 = V := ⟨a0.toNat, by omega⟩
    have hVM : V < M := by omega
    obtain ⟨⟨l0, l1⟩, hlv⟩ : ∃ a, L[V]? = some a := ⟨_, List.getElem?_eq_getElem (by rw [hst.mem.len]; exact hVM)⟩
    have hlab : lab L (V : Int) = ⟨l0, l1⟩ := by unfold lab; rw [Int.toNat_natCast, List.getD_eq_getElem?_getD, hlv]; rfl
    have hpa : Past w3 (w3.alloc (.cells #[.int .i64 (V : Int), .int .i64 a1, .int .i64 a2] 127)) := (Past.refl w3).alloc _
    have hmem4 := hmem3.later hpa
    have bx := hmem4.bx
    have n0 := hmem4.n0
    have n1 := hmem4.n1
    obtain ⟨c0, c1⟩ := hmem4.row.get hmem4.len hlv
    simp only at c0 c1
    have j0 : (0 : Int) ≤ (V : Int) := by omega
    have j1 : (V : Int) < (M : Int) := by omega
    clear hbx hit
    gi_wp2_with fail
    by_cases e0 : a1 = l0
    · subst e0
      by_cases e0 : a2 = l1
      · subst e0
        gi_region
        gi_wp2_with fail
        refine ⟨trivial, ?_⟩
        refine (callsIn_wide.2 (arcsFrom_any (M : Int) (V : Int) B k cap _)).mono ?_
        rintro e w5 ⟨rfl, hw5⟩
        have hs5 : w5.heap.size = w3.heap.size + 3 := by rw [hw5]; simp
        have hp5 : Past (w3.alloc (.cells #[.int .i64 (V : Int), .int .i64 a1, .int .i64 a2] 127)) w5 := by rw [hw5]; exact (((Past.refl _).drew).alloc _).alloc _
        have x0 : w5.cell? ⟨w3.heap.size, 0, none⟩ = some (.int .i64 (V : Int)) := cell_in hp5 (by go_simp)
        have x1 : w5.cell? ⟨w3.heap.size, 1, none⟩ = some (.int .i64 a1) := cell_in hp5 (by go_simp)
        have x2 : w5.cell? ⟨w3.heap.size, 2, none⟩ = some (.int .i64 a2) := cell_in hp5 (by go_simp)
        have hmem5 := hmem4.later hp5
        have hC : ArcsC (w3.heap.size + 1) (w3.heap.size + 2) (M : Int) (V : Int) B k cap xs w5 := ⟨by rw [hw5]; go_simp, by rw [hw5]; go_simp, by rw [hw5]; go_simp, HX.out.below hmem5.past⟩
        have hglt := hmem3.glt
        have hlb : w1.heap.size + 1 < w3.heap.size := hmem3.heap.row.lt
        have hmq := hst.meas
        have hrs : ∀ r ∈ rs, r < w3.heap.size + 3 := fun r hr => by
          have := (Array.getElem?_eq_some_iff.1 (hmem3.defs r hr)).1
          omega
        have hR0 : RState w w5 M S k cap w1.heap.size w3.heap.size B xs V a1 a2 (2 * ranks L + H'.length) rs [] L H' g cp :=
          ⟨hmem5, hst.labs, hst.opens.takePre hm', fun x hx => hst.items x ((hm' x).2 (.inr hx)), Nat.le_refl _, hlab, x0, x1, x2, .inl hglt.2, by omega, by omega⟩
        simp only [World.size_alloc, World.size_drew]
        clear hw5 x0 x1 x2 hmem5 bx n0 n1 c0 c1 hmem4
        gi_wp2_with fail
        obtain ⟨L0, hL0⟩ : ∃ L0, L0 = L := ⟨_, rfl⟩
        rw [← hL0] at hR0
        refine wpIn_rangeFunc_ownG rfl (by omega) (gf := 100) (lb := #[.pointer (some ⟨w3.heap.size + 1, 0, none⟩), .pointer (some ⟨w3.heap.size + 2, 0, none⟩)]) rfl trivial (enters_of Try.func100 (by kernel_rfl) rfl)
          (arcsK_stops Fence.wide 3 trivial rfl (by omega) (w3.heap.size + 1) (w3.heap.size + 2) w.heap.size (M : Int) (V : Int) B k cap xs hxk (by omega) w HX.out (Nat.le_refl _) w5 hC)
          (fun h k => h.trans k) (fun W l o o' hl ho hc hw => ⟨belowK_b (w := w5) (by have := hmem3.ord; omega) W l o o' hl ho hc hw, World.putObj_heap_other (by omega), World.putObj_heap_other (by omega)⟩) (Below.refl _ _) (fun _ => rfl)
          (fun pre W => ∃ L H g cp, RState w W M S k cap w1.heap.size w3.heap.size B xs V a1 a2 (2 * ranks L0 + H'.length) rs (nums pre) L H g cp)
          (fun _ _ _ => False)
          (fun pre A B row hs hg hr => by
            obtain ⟨L, H, g, cp, h⟩ := hs
            exact ⟨L, H, g, cp, h.turn hrs hg (fun r e => by have := hr r e; rw [hs5] at this; exact this)⟩)
          (fun _ _ _ _ _ hs _ _ => hs)
          ⟨L0, H', g, cp, hR0⟩
          (fun x => { tmps := (.agg #[.int .i64 (M : Int), .slice B k cap] :: .int .i64 (S : Int) :: .pointer (some ⟨w.heap.size, 0, none⟩) :: undef :: .slice none 0 0 :: .pointer (some ⟨w1.heap.size, 0, none⟩) :: .pointer (some ⟨w1.heap.size + 1, 0, none⟩) :: .pointer (some ⟨w3.heap.size, 0, none⟩) :: .int .i64 x.1 :: u 9 :: u 10 :: .agg #[.int .i64 99999, .int .i64 0] :: .slice (some ⟨w.heap.size + 1, 0, none⟩) 1 1 :: .pointer (some ⟨w.heap.size, 0, none⟩) :: .int .i64 (M : Int) :: .slice (some ⟨w.heap.size + 1 + 1, 0, none⟩) M M :: .slice (some ⟨w.heap.size + 1 + 1, 0, none⟩) M M :: .int .i64 (S : Int) :: .agg #[.int .i64 0, .int .i64 0] :: .pointer (some ⟨w.heap.size + 1 + 1, S * 2, none⟩) :: .agg #[.slice none 0 0, .func (.func 103) #[] #[]] :: .int .i64 (S : Int) :: .agg #[.int .i64 (S : Int), .int .i64 0, .int .i64 0] :: .tuple #[] :: .pointer (some ⟨w1.heap.size + 1, 0, none⟩) :: .slice (some ⟨g, 0, none⟩) (n + 1) cp :: .int .i64 ((n : Int) + 1) :: .bool true :: .agg #[.int .i64 (V : Int), .int .i64 a1, .int .i64 a2] :: .pointer (some ⟨w3.heap.size, 1, none⟩) :: .agg #[.int .i64 a1, .int .i64 a2] :: .slice (some ⟨w.heap.size + 1 + 1, 0, none⟩) M M :: .pointer (some ⟨w3.heap.size, 0, none⟩) :: .int .i64 (V : Int) :: .pointer (some ⟨w.heap.size + 1 + 1, V * 2, none⟩) :: .agg #[.int .i64 a1, .int .i64 a2] :: .bool false :: .agg #[.int .i64 (M : Int), .slice B k cap] :: .pointer (some ⟨w3.heap.size, 0, none⟩) :: .int .i64 (V : Int) :: .func (.func 100) #[] #[.pointer (some ⟨w3.heap.size + 1, 0, none⟩), .pointer (some ⟨w3.heap.size + 2, 0, none⟩)] :: .int .i64 x.1 :: u 42 :: u 43 :: u 44 :: u 45 :: u 46 :: u 47 :: u 48 :: u 49 :: u 50 :: u 51 :: u 52 :: u 53 :: u 54 :: u 55 :: u 56 :: u 57 :: u 58 :: u 59 :: u 60 :: u 61 :: u 62 :: u 63 :: u 64 :: u 65 :: u 66 :: u 67 :: undef :: []).toArray, defers := [] }) ?assign ?body ?done ?stop
        case assign =>
          intro l x W K hK
          gi_wp2
          exact hK
        case body =>
          rintro l pre ⟨x, j, ⟨f, t, c, l', d⟩, rfl, ha, hf⟩ W ⟨L, H, g, cp, hR⟩ hlt
          have hf : f = (V : Int) := hf
          subst hf
          have hb := hin _ (List.mem_of_getElem? ha)
          simp only at hb
          obtain ⟨T, rfl⟩ : ∃ T : Nat, t = (T : Int) := ⟨t.toNat, by omega⟩
          have hjk : j < k := by rw [← hxk]; exact (List.getElem?_eq_some_iff.1 ha).1
          obtain ⟨bb, oo, rfl, c0, c1, c2, c3, c4⟩ := (HX.out.below hR.mem.past) j _ ha
          have n1 := hR.mem.n1
          have x1 := hR.x1
          have x2 := hR.x2
          have hTM : T < M := by omega
          have hTM' : (T : Int) < (M : Int) := by omega
          have hT0 : (0 : Int) ≤ (T : Int) := by omega
          obtain ⟨⟨y0, y1⟩, hy⟩ : ∃ a, L[T]? = some a := ⟨_, List.getElem?_eq_getElem (by rw [hR.mem.len]; exact hTM)⟩
          have hpA : Past W (W.alloc (.cells #[.int .i64 (V : Int), .int .i64 (T : Int), .int .i64 c, .int .i64 l', .int .i64 d] 52)) := (Past.refl W).alloc _
          have x1 := cell_in hpA x1
          have x2 := cell_in hpA x2
          have hj0 : (0 : Int) ≤ (j : Int) := by omega
          have hjk' : (j : Int) < (k : Int) := by omega
          gi_wp2_with fail
          refine ⟨trivial, ?_⟩
          have hSS : 0 ≤ (S : Int) ∧ (S : Int) < (M : Int) := by omega
          have hbV := hR.labs.bound hin hSS (by omega) (V : Int) (by omega) (by omega)
          rw [hR.lab0] at hbV
          simp only [farI] at hbV
          refine (CallsIn.inRound l (callsIn_wide.2 (plus_any a1 a2 (V : Int) (T : Int) c l' d _ (by omega) (by omega) (by omega)))).mono ?_
          rintro e W2 ⟨rfl, hb2⟩
          have q0 := cell_in (p := ⟨W.heap.size, 0, none⟩) (v := .int .i64 (V : Int)) hb2 (by go_simp)
          have q1 := cell_in (p := ⟨W.heap.size, 1, none⟩) (v := .int .i64 (T : Int)) hb2 (by go_simp)
          have hp2 := hpA.trans hb2
          have hWs : W.heap.size < W2.heap.size := lt_of_cell q0
          clear hb2 q0 x1 x2 n1 c0 c1 c2 c3 c4
          have hp3 : Past W (W2.alloc (.cells #[.int .i64 (a1 + c), .int .i64 (a2 + 1)] 88)) := hp2.alloc _
          have hp3' : Past W2 (W2.alloc (.cells #[.int .i64 (a1 + c), .int .i64 (a2 + 1)] 88)) := (Past.refl _).alloc _
          have q1 := cell_in hp3' q1
          have bx := cell_in hp3 hR.mem.bx
          obtain ⟨r0, r1⟩ := (hR.mem.later hp3).row.get hR.mem.len hy
          simp only at r0 r1
          gi_wp2_with fail
          have hlT : lab L (T : Int) = ⟨y0, y1⟩ := by unfold lab; rw [Int.toNat_natCast, List.getD_eq_getElem?_getD, hy]; rfl
          have hsh : shorter L ⟨(V : Int), (T : Int), c, l', d⟩ = lessB ⟨a1 + c, a2 + 1⟩ ⟨y0, y1⟩ := by unfold shorter plusL; simp only; rw [hR.lab0, hlT]
          refine wpIn_mono (Q := fun e a W4 => e = .normal ∧ Past (W2.alloc (.cells #[.int .i64 (a1 + c), .int .i64 (a2 + 1)] 88)).drew W4 ∧ ∃ u, a = bFrame (.pointer (some ⟨w.heap.size, 0, none⟩)) (.pointer (some ⟨w1.heap.size, 0, none⟩)) (.pointer (some ⟨w1.heap.size + 1, 0, none⟩)) (.pointer (some ⟨w3.heap.size, 0, none⟩)) (.int .i64 (j : Int)) (.pointer (some ⟨W.heap.size, 0, none⟩)) (.pointer (some ⟨W2.heap.size, 0, none⟩)) (.bool (lessB ⟨a1 + c, a2 + 1⟩ ⟨y0, y1⟩)) u) ?less ?_
          case less =>
            gi_region_with (refine ⟨trivial, ?_⟩; refine (CallsIn.inRound l (callsIn_wide.2 (less_any (a1 + c) (a2 + 1) y0 y1 _))).mono ?_; rintro e W4 ⟨rfl, hb4⟩)
            all_goals exact ⟨rfl, hb4, bFrame_mk _ (by rfl)⟩
          rintro e a4 W4 ⟨rfl, hb4, u4, rfl⟩
          simp only [bFrame]
          have hp4 : Past W W4 := hp3.drew.trans hb4
          have q1 := cell_in (W := (W2.alloc (.cells #[.int .i64 (a1 + c), .int .i64 (a2 + 1)] 88)).drew) hb4 q1
          have o0 := cell_in (p := ⟨W2.heap.size, 0, none⟩) (v := .int .i64 (a1 + c)) hb4 (by go_simp)
          have o1 := cell_in (p := ⟨W2.heap.size, 1, none⟩) (v := .int .i64 (a2 + 1)) hb4 (by go_simp)
          have hmem6 := hR.mem.later hp4
          have bx := hmem6.bx
          obtain ⟨r0, r1⟩ := hmem6.row.get hmem6.len hy
          simp only at r0 r1
          have z0 := hmem6.row.frozen hmem6.len (T * 2)
          have z1 := hmem6.row.frozen hmem6.len (T * 2 + 1)
          clear hp3' hb4
          have hord := hR.mem.ord
          have hbase := hR.base
          have hxb := hR.xb
          cases hB : lessB ⟨a1 + c, a2 + 1⟩ ⟨y0, y1⟩ with
          | false =>
            gi_wp2
            have cS : Ch (fun x => x = w.heap.size + 1 + 1 ∨ x = w1.heap.size + 1 ∨ x = g) W W4 := Ch.of_past hp4
            exact ⟨by rw [hs5]; exact (hR.keeps cS).1, (hR.keeps cS).2, L, H, g, cp, by rw [nums_snoc]; exact hR.skip hp4 ha (hsh.trans hB)⟩
          | true =>
            have hput := (hmem6.put T (a1 + c) (a2 + 1)).1
            have hpre : ∀ i ∈ nums pre, ∀ b, xs[i.toNat]? = some b → b.f = (V : Int) := fun i hi b hb => by
              obtain ⟨⟨i', i2, a', e1, e2, e3⟩, _, e4⟩ := List.mem_map.1 hi
              simp only at e4
              subst e1
              rw [← e4, Int.toNat_natCast, e2] at hb
              injection hb with hb
              rw [← hb]
              exact e3
            have hV : lab L (V : Int) ≠ farL := fun e => by
              rw [hR.lab0] at e
              unfold farL farI at e
              injection e with e
              omega
            have hHl : H.length ≤ 100000000 := by
              have := hR.meas
              rw [hL0] at this
              omega
            gi_wp2_with fail
            refine ⟨trivial, ?_⟩
            refine (CallsIn.inRound l (callsIn_wide.2 (push_any (w1.heap.size + 1) (w1.heap.size + 2) _ H (T : Int) (a1 + c) (a2 + 1) _ hput.heap hHl (by have := hp4.size; simp; omega)))).mono ?_
            intro e W5 hpu
            obtain rfl := hpu.1
            obtain ⟨L', H2, g2, cp2, hR2, hk1, hk2⟩ := hR.push hp4 hin hne hM8 hSM hpre ha rfl hV (hsh.trans hB) hpu
            gi_wp2
            exact ⟨by rw [hs5]; exact hk1, hk2, L', H2, g2, cp2, by rw [nums_snoc]; exact hR2⟩
        case done =>
          rintro D ys W hD hys ⟨L', H2, g2, cp2, hR⟩ hDd
          have hst2 : LState w W M S k cap w1.heap.size B xs (2 * ranks L' + H2.length) L' H2 g2 cp2 (D :: rs) := by
            refine ⟨⟨hR.mem.n0, hR.mem.n1, hR.mem.bx, hR.mem.row, hR.mem.heap, hR.mem.past, fun r hr => ?_, hR.mem.ord, hR.mem.len⟩, hR.labs, hR.opens.all (fun i a hi hf => ?_), hR.items, Nat.le_refl _, ?_, List.nodup_cons.2 ⟨fun hr => ?_, hst.nodup⟩, fun r hr => ?_⟩
            · rcases List.mem_cons.1 hr with rfl | hr
              · exact hDd
              · exact hR.mem.defs r hr
            · rw [hys]
              exact outTo_all xs (V : Int) k i a (by rw [← hxk]; exact (List.getElem?_eq_some_iff.1 hi).1) hi hf
            · have := hR.meas
              rw [hL0] at this
              omega
            · have := hrs D hr
              omega
            · rcases List.mem_cons.1 hr with rfl | hr
              · have := hmem3.ord
                omega
              · exact hst.since r hr
          have hlq : 2 * ranks L' + H2.length < q := by
            have := hR.meas
            rw [hL0] at this
            omega
          clear hR
          gi_wp2
          exact Handed.intro _ hlq (hJ _ _ _ ⟨L', H2, g2, cp2, D :: rs, lFrame_mk _ _ (by rfl), hst2⟩)
        case stop =>
          rintro D c pre W _ _ h _
          exact h.elim
      · have e0' : (a2 == l1) = false := by simpa using e0
        have hmq := hst.meas
        have hst' : LState w (w3.alloc (.cells #[.int .i64 (V : Int), .int .i64 a1, .int .i64 a2] 127)).drew M S k cap w1.heap.size B xs (2 * ranks L + H'.length) L H' g cp rs :=
          ⟨hmem4.later (Past.refl _).drew, hst.labs, hst.opens.stale hm' (by rw [hlab]; intro e; injection e with e1 e2; first | exact e0 e1 | exact e0 e2), fun x hx => hst.items x ((hm' x).2 (.inr hx)), Nat.le_refl _, by omega, hst.nodup, hst.since⟩
        have hlq : 2 * ranks L + H'.length < q := by omega
        clear hlab hlv hm' hh' hc' hmem3 hmem4 hst
        gi_region
        gi_wp2
        exact Handed.intro _ hlq (hJ _ _ _ ⟨L, H', g, cp, rs, lFrame_mk _ _ (by rfl), hst'⟩)
    · have e0' : (a1 == l0) = false := by simpa using e0
      have hmq := hst.meas
      have hst' : LState w (w3.alloc (.cells #[.int .i64 (V : Int), .int .i64 a1, .int .i64 a2] 127)).drew M S k cap w1.heap.size B xs (2 * ranks L + H'.length) L H' g cp rs :=
        ⟨hmem4.later (Past.refl _).drew, hst.labs, hst.opens.stale hm' (by rw [hlab]; intro e; injection e with e1 e2; first | exact e0 e1 | exact e0 e2), fun x hx => hst.items x ((hm' x).2 (.inr hx)), Nat.le_refl _, by omega, hst.nodup, hst.since⟩
      have hlq : 2 * ranks L + H'.length < q := by omega
      clear hlab hlv hm' hh' hc' hmem3 hmem4 hst
      gi_region
      gi_wp2
      exact Handed.intro _ hlq (hJ _ _ _ ⟨L, H', g, cp, rs, lFrame_mk _ _ (by rfl), hst'⟩)

theorem lengths_any (M S : Nat) (B : Option Addr) (k cap : Nat) (xs : List ArcD) (w : World) (hkk : k ≤ 400) (hxk : xs.length = k) (hx : ArcsAt w B xs) (hin : ArcsIn M xs) (hne : ∀ a ∈ xs, a.f ≠ a.t) (hM1 : 1 ≤ M) (hM8 : M ≤ 17) (hSM : S < M) :
    Calls Try.prog 66 #[.agg #[.int .i64 (M : Int), .slice B k cap], .int .i64 (S : Int)] w (LensG w M S xs) :=
  (callsIn_wide (n := 4)).1 (lengths_in M S B k cap xs w hkk hxk hx hin hne hM1 hM8 hSM)

end Go.Proofs.Ytaojognjkiifmaa

namespace Go.Proofs.Ytaojognjkiifmaa
open Go.RowKit

set_option maxRecDepth 100000 in
set_option maxHeartbeats 1000000 in
theorem costsOf_any (g n cap : Nat) (L : List LenD) (w : World) (hn : n ≤ 1048576) (hl : L.length = n) (hr : ∀ j a, L[j]? = some a → w.cell? ⟨g, j * 2, none⟩ = some (.int .i64 a.x0) ∧ w.cell? ⟨g, j * 2 + 1, none⟩ = some (.int .i64 a.x1)) :
    Calls Try.prog 74 #[.slice (some ⟨g, 0, none⟩) n cap] w (Gives w (L.map LenD.x0)) := by
  have hmk := makeInt n hn
  have HL := Lib.hid hl
  have HR := Lib.hid hr
  clear hl hr
  go_enter Try.func74, Try.ntmps74
  go_wp2
  go_loopw [11] (fun i wr => ∃ k : Nat, k ≤ n ∧ i = .int .i64 k ∧ Past w wr ∧ MadeI wr w.heap.size 3 n (L.map LenD.x0) k) (fun i _ => n - (intOf i).toNat)
  case atStart => exact ⟨0, by omega, rfl, (Past.refl w).alloc _, MadeI.start _ _ _ _ _ (by simp [size_madeCells])⟩
  case round =>
    obtain ⟨k, hk, rfl, hb, hm⟩ := hrel
    by_cases hlt : k < n
    · obtain ⟨⟨x0, x1⟩, ha⟩ : ∃ a, L[k]? = some a := ⟨_, List.getElem?_eq_getElem (by have := HL.out; omega)⟩
      obtain ⟨c0, c1⟩ := HR.out k _ ha
      have c0 := cell_in hb c0
      have c1 := cell_in hb c1
      simp only at c0 c1
      have HA : Hid ((L.map LenD.x0)[k]? = some x0) := by rw [Hid, List.getElem?_map, ha]; rfl
      have i0 : (0 : Int) ≤ (k : Int) := by omega
      have i1 : (k : Int) < (n : Int) := by omega
      have hmA := hm.below ((Past.refl wr).alloc (.cells #[.int .i64 x0, .int .i64 x1] 88))
      obtain ⟨v0, e0⟩ := hmA.1.cell (i := k) hlt
      have z0 := hmA.1.frozen k
      have hnx := (hm.next HA.out hlt).below ((Past.refl _).alloc (.cells #[.int .i64 x0, .int .i64 x1] 88))
      have hgk : w.heap.size < wr.heap.size := hm.1.lt
      clear ha
      go_wp2
      go_roundw
      case rel => exact ⟨k + 1, by omega, by go_num, Past.alloc (Below.setCell hb (p := ⟨w.heap.size, k, none⟩) (by simp) _) _, hnx⟩
      case measure => simp [intOf]; omega
    · obtain rfl : n = k := by omega
      go_wp2
      go_ret
      refine ⟨_, rfl, ?_, hb⟩
      have hlm : (L.map LenD.x0).length = n := by rw [List.length_map, HL.out]
      exact (hm.row hlm).res hlm (Nat.le_refl _) hn

set_option maxRecDepth 100000 in
set_option maxHeartbeats 1000000 in
theorem allWithin_any (A : Option Addr) (n c : Nat) (zs : List Int) (mo : Int) (w : World) (hn : n ≤ 1048576) (hl : zs.length = n) (hz : IntsAt w A zs) :
    Calls Try.prog 99 #[.slice A n c, .int .i64 mo] w fun e w' => e = .returned (.bool (zs.all (fun z => inB z 0 mo))) ∧ Below w.heap.size w w' := by
  have HL := Lib.hid hl
  clear hl
  go_enter Try.func99, Try.ntmps99
  go_wp2
  go_loopw [9] (fun i wr => ∃ k : Nat, k ≤ n ∧ i = .int .i64 k ∧ Past w wr ∧ (zs.take k).all (fun z => inB z 0 mo) = true) (fun i _ => n - (intOf i).toNat)
  case atStart => exact ⟨0, by omega, rfl, Past.refl w, by simp⟩
  case round =>
    obtain ⟨k, hk, rfl, hb, hm⟩ := hrel
    have HM := Lib.hid hm
    clear hm
    by_cases hlt : k < n
    · obtain ⟨y, ha⟩ : ∃ a, zs[k]? = some a := ⟨_, List.getElem?_eq_getElem (by have := HL.out; omega)⟩
      obtain ⟨g, o, rfl, c0⟩ := hz k _ ha
      have c0 := cell_in hb c0
      have HA := Lib.hid ha
      have i0 : (0 : Int) ≤ (k : Int) := by omega
      have i1 : (k : Int) < (n : Int) := by omega
      clear ha
      go_wp2_with fail
      refine (within_any y mo _).mono ?_
      rintro e w1 ⟨rfl, rfl⟩
      cases hB : inB y 0 mo with
      | false =>
        have HB := Lib.hid hB
        clear hB
        go_wp2
        go_ret
        exact ⟨ret_bool (by
          symm
          rw [List.all_eq_false]
          exact ⟨y, List.mem_of_getElem? HA.out, by rw [HB.out]; simp⟩), hb⟩
      | true =>
        have HB := Lib.hid hB
        clear hB
        go_wp2
        go_roundw
        case rel => exact ⟨k + 1, by omega, by go_num, hb, by rw [List.take_add_one, List.all_append, HM.out, HA.out]; simp [HB.out]⟩
        case measure => simp [intOf]; omega
    · obtain rfl : n = k := by omega
      go_wp2
      go_ret
      refine ⟨ret_bool ?_, hb⟩
      have := HM.out
      rw [List.take_of_length_le (by have := HL.out; omega)] at this
      exact this.symm

set_option maxRecDepth 100000 in
set_option maxHeartbeats 1000000 in
theorem netHas_any (m : Int) (A : Option Addr) (n c : Nat) (xs : List ArcD) (B : Option Addr) (l cb : Nat) (zs : List Int) (w : World) (hn : n ≤ 1048576) (hnx : xs.length = n) (hx : ArcsAt w A xs) (hl : l ≤ 1048576) (hlz : zs.length = l) (hz : IntsAt w B zs) :
    Calls Try.prog 62 #[.agg #[.int .i64 m, .slice A n c], .slice B l cb] w fun e w' => e = .returned (.bool (netB m xs && zs.all (fun z => inB z 0 (m - 1)))) ∧ Below w.heap.size w w' := by
  have HX := Lib.hid hnx
  have HZ := Lib.hid hlz
  clear hnx hlz
  have hb0 : Past w (w.alloc (.cells #[.int .i64 m, .slice A n c] 32)) := (Past.refl _).alloc _
  go_enter Try.func62, Try.ntmps62
  go_wp2_with fail
  refine (implNetOk_any m A n c xs _ hn HX.out (hx.below hb0)).mono ?_
  rintro e w1 ⟨rfl, hb1⟩
  have b0 := cell_in (p := ⟨w.heap.size, 0, none⟩) (v := .int .i64 m) hb1 (by go_simp)
  cases hB : netB m xs with
  | false =>
    have HB := Lib.hid hB
    clear hB
    go_wp2
    go_ret
    exact ⟨ret_bool (by rw [HB.out]; rfl), hb0.trans hb1⟩
  | true =>
    have hw : IntKind.i64.wrap (m - 1) = m - 1 := by
      obtain ⟨h1, _⟩ := (netB_iff _ _).1 hB
      exact IntWalk.i64_in _ (by omega)
    have HB := Lib.hid hB
    clear hB
    go_wp2_with fail
    refine (allWithin_any B l cb zs (m - 1) _ hl HZ.out ((hz.below hb0).below hb1)).mono ?_
    rintro e w2 ⟨rfl, hb2⟩
    go_wp2
    go_ret
    exact ⟨ret_bool (by rw [HB.out]; rfl), (hb0.trans hb1).trans hb2⟩

end Go.Proofs.Ytaojognjkiifmaa

namespace Go.Proofs.Ytaojognjkiifmaa
open Go.RowKit

theorem net_ne {m : Int} {xs : List ArcD} (h : netB m xs = true) : ∀ a ∈ xs, a.f ≠ a.t := fun a ha => by
  obtain ⟨_, _, h3⟩ := (netB_iff _ _).1 h
  have := h3 a ha
  simp only [arcB, Bool.and_eq_true, Bool.not_eq_true'] at this
  simpa using this.2.2.1

set_option maxRecDepth 100000 in
set_option maxHeartbeats 1000000 in
theorem implNearAll_any (m : Int) (A : Option Addr) (n c : Nat) (xs : List ArcD) (s : Int) (w : World) (hn : n ≤ 1048576) (hnx : xs.length = n) (hx : ArcsAt w A xs) :
    Calls Try.prog 30 #[.agg #[.int .i64 m, .slice A n c], .int .i64 s] w (Gives w (nearI m xs s)) := by
  have HX := Lib.hid hnx
  clear hnx
  go_enter Try.func30, Try.ntmps30
  have hb0 : Past w ((w.alloc (.cells #[.int .i64 m, .slice A n c] 32)).alloc (.cells #[.int .i64 s] 3)) := ((Past.refl _).alloc _).alloc _
  have hz : IntsAt ((w.alloc (.cells #[.int .i64 m, .slice A n c] 32)).alloc (.cells #[.int .i64 s] 3)) (some ⟨w.heap.size + 1, 0, none⟩) [s] := fun k y hk => by
    cases k with
    | zero => simp at hk; subst hk; exact ⟨_, _, rfl, by go_simp⟩
    | succ k => simp at hk
  go_wp2_with fail
  refine (netHas_any m A n c xs _ 1 1 [s] _ hn HX.out (hx.below hb0) (by omega) rfl hz).mono ?_
  rintro e w1 ⟨rfl, hb1⟩
  have b0 := cell_in (p := ⟨w.heap.size, 0, none⟩) (v := .int .i64 m) hb1 (by go_simp)
  have b1 := cell_in (p := ⟨w.heap.size, 1, none⟩) (v := .slice A n c) hb1 (by go_simp)
  have hx1 := (hx.below hb0).below hb1
  have hp1 := hb0.trans hb1
  have hH : (netB m xs && [s].all (fun z => inB z 0 (m - 1))) = hereB m xs s := by simp [hereB]
  rw [hH]
  clear hH hb0 hz hb1
  cases hB : hereB m xs s with
  | false =>
    have HB := Lib.hid hB
    clear hB
    go_wp2
    go_ret
    exact ⟨_, rfl, by rw [nearI, HB.out]; exact Res.nil _ _, hp1⟩
  | true =>
    obtain ⟨hN, h0, h1⟩ := (hereB_iff _ _ _).1 hB
    obtain ⟨M, rfl, h3, h8⟩ := here_nat hN
    obtain ⟨S, rfl⟩ : ∃ S : Nat, s = (S : Int) := ⟨s.toNat, by omega⟩
    have hS : S < M := by omega
    have h16 : n ≤ 16 := by rw [← HX.out]; exact ((netB_iff _ _).1 hN).2.1
    have HB := Lib.hid hB
    have HN := Lib.hid hN
    clear hB hN
    go_wp2_with fail
    refine (lengths_any M S A n c xs _ (by omega) HX.out hx1 (arcsIn_net HN.out) (net_ne HN.out) h3 (by omega) hS).mono ?_
    rintro e w2 ⟨g, L, rfl, hrow, hLl, hlabs, hopen, hb2⟩
    have HL := Lib.hid hlabs
    have HO := Lib.hid hopen
    clear hlabs hopen
    have HG := Lib.hid (fun j a (hj : L[j]? = some a) => hrow.get hLl hj)
    clear hrow
    go_wp2_with fail
    refine (costsOf_any g M M L _ (by omega) hLl HG.out).mono ?_
    rintro e w3 ⟨v3, rfl, hv3, hb3⟩
    go_wp2
    go_ret
    have hnear := HL.out.near (arcsIn_net HN.out) ⟨h0, h1⟩ (by omega) HO.out
    exact ⟨_, rfl, by rw [nearI, HB.out, if_pos rfl, Int.toNat_natCast, ← hnear]; exact hv3.lower (Nat.le_trans hp1.size hb2.size), (hp1.trans hb2).trans hb3⟩

end Go.Proofs.Ytaojognjkiifmaa

namespace Go.Proofs.Ytaojognjkiifmaa
open Go.RowKit

/-- What is handed back of a net turned round: of one that is not ok the empty net. -/
def backN (m : Int) (xs : List ArcD) : Int := if netB m xs then m else 0
def backL (m : Int) (xs : List ArcD) : List ArcD := if netB m xs then xs.map flip else []

theorem backL_len (m : Int) (xs : List ArcD) : (backL m xs).length ≤ xs.length := by
  unfold backL
  split <;> simp
/-- A copy of arcs in new memory. -/
def GivesArcs (w : World) (xs : List ArcD) (e : Ending) (w' : World) : Prop := ∃ v, e = .returned v ∧ ResA w' w.heap.size v xs ∧ Below w.heap.size w w'

set_option maxHeartbeats 400000 in
theorem clone_any (g o n c : Nat) (xs : List ArcD) (w : World) (hn : n ≤ 1048576) (hl : xs.length = n) (hx : ArcsAt w (some ⟨g, o, none⟩) xs) :
    Calls Try.prog 120 #[.slice (some ⟨g, o, none⟩) n c] w (GivesArcs w xs) := by
  have HL := Lib.hid hl
  clear hl
  obtain ⟨i0, hi, hz0, hz1, hz2⟩ := info_parts infoArc
  have heq := fun u : World => Lib.run_eql_slice_nil (P := Try.prog) u 30 52 (some ⟨g, o, none⟩) n c 0 0 Try.underlying30
  simp only [Option.isNone_some] at heq
  have hb0 : Past w (w.alloc (.cells #[] 52)) := (Past.refl _).alloc _
  have hv0 : (w.alloc (.cells #[] 52)).ownsRow w.heap.size 52 5 (.slice (some ⟨w.heap.size, 0, none⟩) 0 0) 0 [] := World.ownsRow_made w _ 0 (Nat.le_refl _) (by unfold maxLen; omega) rfl
  have hnews : ∀ j u, (cellsOf xs)[j]? = some u → (w.alloc (.cells #[] 52)).cell? ((⟨g, o, none⟩ : Addr).add j) = some u := fun j u hu => by
    rw [Addr.add_lit]
    refine cells_of_arcs xs o (fun k a hk => ?_) j u hu
    obtain ⟨g', o', e, h5⟩ := (hx.below hb0) k a hk
    injection e with e
    injection e with e1 e2
    subst e1 e2
    exact h5
  have HV := Lib.hid hv0
  have HN := Lib.hid hnews
  clear hv0 hnews
  go_enter Try.func120, Try.ntmps120
  go_wp2_with (first | (at_builtin; refine wpList_append_own _ rfl _ _ 30 rfl w.heap.size 52 i0 _ 5 40 Try.underlying30 hi hz0 hz1 hz2 rfl (by decide) _ 0 [] rfl HV.out ⟨g, o, none⟩ n c (cellsOf xs) rfl (by rw [cellsOf_length, HL.out]) HN.out (cellsOf_one xs) (by unfold maxLen; omega) (by omega) (by simp) ?_; intro v' w3 hown' hgrow3 hnil3))
  go_ret
  refine ⟨_, rfl, ?_, Past.grownBy hb0 HV.out hgrow3 (Nat.le_refl _)⟩
  unfold ResA
  rw [HL.out]
  simpa using hown'

/-- The first k arcs are turned round, the others not yet. -/
def Turned (w : World) (g sz : Nat) (xs : List ArcD) (k : Nat) : Prop :=
  RowN w g 52 sz ∧ (∀ j a, j < k → xs[j]? = some a → Arc5 w g (j * 5) (flip a)) ∧ (∀ j a, k ≤ j → xs[j]? = some a → Arc5 w g (j * 5) a)

theorem Turned.keep {w w' : World} {g sz k : Nat} {xs : List ArcD} (h : Turned w g sz xs k) (e : w'.heap[g]? = w.heap[g]?) : Turned w' g sz xs k :=
  ⟨h.1.keep e, fun j a hj ha => (h.2.1 j a hj ha).keep e, fun j a hj ha => (h.2.2 j a hj ha).keep e⟩

theorem Turned.next {w : World} {g sz k : Nat} {xs : List ArcD} {f t c l d : Int} (h : Turned w g sz xs k) (ha : xs[k]? = some ⟨f, t, c, l, d⟩) :
    Turned ((w.setCell ⟨g, k * 5, none⟩ (.int .i64 t)).setCell ⟨g, k * 5 + 1, none⟩ (.int .i64 f)) g sz xs (k + 1) := by
  refine ⟨(h.1.set _ _).set _ _, fun j a hj hja => ?_, fun j a hj hja => ?_⟩
  · rcases Nat.lt_or_ge j k with hlt | hge
    · exact ((h.2.1 j a hlt hja).set _ _ (by omega)).set _ _ (by omega)
    · obtain rfl : j = k := by omega
      rw [ha] at hja
      injection hja with hja
      subst hja
      obtain ⟨c0, c1, c2, c3, c4⟩ := h.2.2 j _ (Nat.le_refl _) ha
      have oth : ∀ (u : World) (q o : Nat) (x : Value), q ≠ o → (u.setCell ⟨g, q, none⟩ x).cell? ⟨g, o, none⟩ = u.cell? ⟨g, o, none⟩ := fun u q o x hq =>
        World.cell?_setCell_other u ⟨g, q, none⟩ ⟨g, o, none⟩ x (by intro e; injection e; omega)
      refine ⟨?_, ?_, ?_, ?_, ?_⟩
      · rw [oth _ _ _ _ (by omega)]; exact World.cell?_setCell_same w ⟨g, j * 5, none⟩ _ c0
      · exact World.cell?_setCell_same _ ⟨g, j * 5 + 1, none⟩ _ ((oth _ _ _ _ (by omega)).trans c1)
      · rw [oth _ _ _ _ (by omega), oth _ _ _ _ (by omega)]; exact c2
      · rw [oth _ _ _ _ (by omega), oth _ _ _ _ (by omega)]; exact c3
      · rw [oth _ _ _ _ (by omega), oth _ _ _ _ (by omega)]; exact c4
  · exact ((h.2.2 j a (by omega) hja).set _ _ (by omega)).set _ _ (by omega)

end Go.Proofs.Ytaojognjkiifmaa

namespace Go.Proofs.Ytaojognjkiifmaa
open Go.RowKit

/-- k, k + 1, .. -/
def markInts (k : Nat) (n : Nat) : List Int := (List.range n).map fun i => ((k + i : Nat) : Int)
theorem markInts_length (k n : Nat) : (markInts k n).length = n := by simp [markInts]
theorem markInts_at (k n i : Nat) (h : i < n) : (markInts k n)[i]? = some ((k + i : Nat) : Int) := by simp [markInts, h]
theorem markIntS_any (A : Option Addr) (n c k lo t : Nat) (w : World) (hn : n ≤ 1048576) (ki : Int) (hki : ki = (k : Int)) (hk : k ≤ 100000000) (ho : OwnAt w lo A t 1 n) :
    Calls Try.prog 26 #[.slice A n c, .int .i64 ki] w (Marked w A (k + n) fun w' => IntsAt w' A (markInts k n)) := by
  subst hki
  rcases ho with ⟨rfl, rfl⟩ | ⟨g, sz, rfl, hlo, hr, hs⟩
  · go_enter Try.func26, Try.ntmps26
    go_wp2
    go_loop [5, 1] (fun i q => i = .int .i64 0 ∧ q = .int .i64 k) (fun _ _ => 0)
    case atStart => exact ⟨rfl, rfl⟩
    case round =>
      obtain ⟨rfl, rfl⟩ := hrel
      go_wp2
      go_ret
      exact ⟨ret_int (by simp), grown_refl _ _, fun i x h => by simp [markInts] at h⟩
  · go_enter Try.func26, Try.ntmps26
    go_wp2
    go_loopw [5, 1] (fun i q wr => ∃ j : Nat, j ≤ n ∧ i = .int .i64 j ∧ q = .int .i64 ((k : Int) + (j : Int)) ∧ w.grownBy wr (some g) ∧ MadeI wr g t sz (markInts k n) j) (fun i _ _ => n - (intOf i).toNat)
    case atStart => exact ⟨0, by omega, rfl, by simp, grown_refl _ _, hr, fun j x h => absurd h (by omega)⟩
    case round =>
      obtain ⟨j, hj, rfl, rfl, hb, hm⟩ := hrel
      by_cases hlt : j < n
      · have HM := Lib.hid (markInts_at k n j hlt)
        obtain ⟨v0, e0⟩ := hm.1.cell (i := j) (by omega)
        have z0 := hm.1.frozen j
        have hjs : j < sz := by omega
        go_wp2
        go_roundw
        case rel => exact ⟨j + 1, by omega, by go_num, by go_num, grown_set hb _ _, by have := hm.next HM.out hjs; simpa using this⟩
        case measure => simp [intOf]; omega
      · obtain rfl : n = j := by omega
        go_wp2
        go_ret
        exact ⟨rfl, hb, fun i x h => ⟨g, 0, rfl, by
          have hi : i < n := by have := (List.getElem?_eq_some_iff.1 h).1; simpa [markInts_length] using this
          rw [Nat.zero_add]; exact hm.2 i x hi h⟩⟩

theorem heldIntS_any (A : Option Addr) (n c k : Nat) (w : World) (hn : n ≤ 1048576) (ki : Int) (hki : ki = (k : Int)) (hk : k ≤ 100000000) (hx : IntsAt w A (markInts k n)) :
    Calls Try.prog 27 #[.slice A n c, .int .i64 ki] w fun e w' => e = .returned (.int .i64 (k + n)) ∧ w = w' := by
  subst hki
  go_enter Try.func27, Try.ntmps27
  go_wp2
  go_loop [5, 1] (fun i q => ∃ j : Nat, j ≤ n ∧ i = .int .i64 j ∧ q = .int .i64 ((k : Int) + (j : Int))) (fun i _ => n - (intOf i).toNat)
  case atStart => exact ⟨0, by omega, rfl, by simp⟩
  case round =>
    obtain ⟨j, hj, rfl, rfl⟩ := hrel
    by_cases hlt : j < n
    · obtain ⟨g, o, rfl, c0⟩ := hx j _ (markInts_at k n j hlt)
      have hne : ((((k + j : Nat) : Int)) != (k : Int) + (j : Int)) = false := by simp
      go_wp2
      go_round
      case rel => exact ⟨j + 1, by omega, by go_num, by go_num⟩
      case measure => simp [intOf]; omega
    · obtain rfl : n = j := by omega
      go_wp2
      go_ret
      exact ⟨rfl, rfl⟩

/-- What lies in elder blocks than the one that is written. -/
theorem IntsAt.old {wE w w' : World} {A : Option Addr} {xs : List Int} {g : Nat} (hE : IntsAt wE A xs) (h : IntsAt w A xs) (hg : w.grownBy w' (some g)) (hle : wE.heap.size ≤ g) : IntsAt w' A xs := fun k x hk => by
  obtain ⟨b, o, rfl, hc⟩ := hE k x hk
  obtain ⟨b', o', e, hc'⟩ := h k x hk
  have hb : b < wE.heap.size := lt_of_cell hc
  injection e with e
  injection e with e1 e2
  subst e1 e2
  exact ⟨b, o, rfl, hg.cell hc' (by simp only [ne_eq, Option.some.injEq]; omega)⟩
/-- What lies in younger blocks. -/
theorem IntsAt.young {w w' : World} {A : Option Addr} {xs : List Int} {g lo t : Nat} (ho : OwnAt w lo A t 1 xs.length) (h : IntsAt w A xs) (hg : w.grownBy w' (some g)) (hlt : g < lo) : IntsAt w' A xs := fun k x hk => by
  obtain ⟨b', o', rfl, hc'⟩ := h k x hk
  rcases ho with ⟨h0, _⟩ | ⟨b, sz, e, hl, _, _⟩
  · cases h0
  · injection e with e
    injection e with e1 e2
    subst e1
    exact ⟨b', o', rfl, hg.cell hc' (by simp only [ne_eq, Option.some.injEq]; omega)⟩
theorem IntsAt.under {wE w w' : World} {A : Option Addr} {xs : List Int} {lo : Nat} (hE : IntsAt wE A xs) (h : IntsAt w A xs) (hb : Below lo w w') (hle : wE.heap.size ≤ lo) : IntsAt w' A xs := fun k x hk => by
  obtain ⟨b, o, rfl, hc⟩ := hE k x hk
  obtain ⟨b', o', e, hc'⟩ := h k x hk
  have hb' : b < wE.heap.size := lt_of_cell hc
  injection e with e
  injection e with e1 e2
  subst e1 e2
  exact ⟨b, o, rfl, (hb.cell (p := ⟨b, o + k, none⟩) (by simp only; omega)).trans hc'⟩

end Go.Proofs.Ytaojognjkiifmaa

namespace Go.Proofs.Ytaojognjkiifmaa
open Go.RowKit

def markArcs (k : Nat) (n : Nat) : List ArcD := (List.range n).map fun i => ⟨((k + 5 * i : Nat) : Int), ((k + 5 * i + 1 : Nat) : Int), ((k + 5 * i + 2 : Nat) : Int), ((k + 5 * i + 3 : Nat) : Int), ((k + 5 * i + 4 : Nat) : Int)⟩
theorem markArcs_length (k n : Nat) : (markArcs k n).length = n := by simp [markArcs]
theorem markArcs_at (k n i : Nat) (h : i < n) : (markArcs k n)[i]? = some ⟨((k + 5 * i : Nat) : Int), ((k + 5 * i + 1 : Nat) : Int), ((k + 5 * i + 2 : Nat) : Int), ((k + 5 * i + 3 : Nat) : Int), ((k + 5 * i + 4 : Nat) : Int)⟩ := by simp [markArcs, h]

/-- Made, with room to spare. -/
theorem Made.nextMark {w : World} {g t n sz k j : Nat} (h : RowN w g t sz ∧ ∀ i a, i < j → (markArcs k n)[i]? = some a → Arc5 w g (i * 5) a) (hj : j < n) (hs : n * 5 ≤ sz) :
    let w' := (((((w.setCell ⟨g, j * 5, none⟩ (.int .i64 ((k + 5 * j : Nat) : Int))).setCell ⟨g, j * 5 + 1, none⟩ (.int .i64 ((k + 5 * j + 1 : Nat) : Int))).setCell ⟨g, j * 5 + 2, none⟩ (.int .i64 ((k + 5 * j + 2 : Nat) : Int))).setCell ⟨g, j * 5 + 3, none⟩ (.int .i64 ((k + 5 * j + 3 : Nat) : Int))).setCell ⟨g, j * 5 + 4, none⟩ (.int .i64 ((k + 5 * j + 4 : Nat) : Int)))
    RowN w' g t sz ∧ ∀ i a, i < j + 1 → (markArcs k n)[i]? = some a → Arc5 w' g (i * 5) a := by
  intro w'
  refine ⟨((((h.1.set _ _).set _ _).set _ _).set _ _).set _ _, fun i a hi hia => ?_⟩
  rcases Nat.lt_or_ge i j with hlt | hge
  · exact (((((h.2 i a hlt hia).set _ _ (by omega)).set _ _ (by omega)).set _ _ (by omega)).set _ _ (by omega)).set _ _ (by omega)
  · obtain rfl : i = j := by omega
    rw [markArcs_at k n i hj] at hia
    injection hia with hia
    subst hia
    exact Arc5.put h.1 (by omega) _ _ _ _ _

/-- The row and the marks so far. -/
def MarkedTo (w : World) (g t sz k n j : Nat) : Prop := RowN w g t sz ∧ ∀ i a, i < j → (markArcs k n)[i]? = some a → Arc5 w g (i * 5) a

set_option maxHeartbeats 1000000 in
theorem markArcS_any (A : Option Addr) (n c k lo t : Nat) (w : World) (hn : n ≤ 1048576) (ki : Int) (hki : ki = (k : Int)) (hk : k ≤ 100000000) (ho : OwnAt w lo A t 5 n) :
    Calls Try.prog 69 #[.slice A n c, .int .i64 ki] w (Marked w A (k + 5 * n) fun w' => ArcsAt w' A (markArcs k n)) := by
  subst hki
  rcases ho with ⟨rfl, rfl⟩ | ⟨g, sz, rfl, hlo, hr, hs⟩
  · go_enter Try.func69, Try.ntmps69
    go_wp2
    go_loop [5, 1] (fun i q => i = .int .i64 0 ∧ q = .int .i64 k) (fun _ _ => 0)
    case atStart => exact ⟨rfl, rfl⟩
    case round =>
      obtain ⟨rfl, rfl⟩ := hrel
      go_wp2
      go_ret
      exact ⟨ret_int (by simp), grown_refl _ _, fun i x h => by simp [markArcs] at h⟩
  · go_enter Try.func69, Try.ntmps69
    go_wp2
    go_loopw [5, 1] (fun i q wr => ∃ j : Nat, j ≤ n ∧ i = .int .i64 j ∧ q = .int .i64 ((k : Int) + 5 * (j : Int)) ∧ w.grownBy wr (some g) ∧ MarkedTo wr g t sz k n j) (fun i _ _ => n - (intOf i).toNat)
    case atStart => exact ⟨0, by omega, rfl, by simp, grown_refl _ _, hr, fun j x h => absurd h (by omega)⟩
    case round =>
      obtain ⟨j, hj, rfl, rfl, hb, hm⟩ := hrel
      by_cases hlt : j < n
      · obtain ⟨v0, e0⟩ := hm.1.cell (i := j * 5) (by omega)
        obtain ⟨v1, e1⟩ := hm.1.cell (i := j * 5 + 1) (by omega)
        obtain ⟨v2, e2⟩ := hm.1.cell (i := j * 5 + 2) (by omega)
        obtain ⟨v3, e3⟩ := hm.1.cell (i := j * 5 + 3) (by omega)
        obtain ⟨v4, e4⟩ := hm.1.cell (i := j * 5 + 4) (by omega)
        have z0 := hm.1.frozen (j * 5)
        have z1 := hm.1.frozen (j * 5 + 1)
        have z2 := hm.1.frozen (j * 5 + 2)
        have z3 := hm.1.frozen (j * 5 + 3)
        have z4 := hm.1.frozen (j * 5 + 4)
        have hm2 : MarkedTo (((((wr.setCell ⟨g, j * 5, none⟩ (.int .i64 ((k : Int) + 5 * (j : Int)))).setCell ⟨g, j * 5 + 1, none⟩ (.int .i64 ((k : Int) + 5 * (j : Int) + 1))).setCell ⟨g, j * 5 + 2, none⟩ (.int .i64 ((k : Int) + 5 * (j : Int) + 1 + 1))).setCell ⟨g, j * 5 + 3, none⟩ (.int .i64 ((k : Int) + 5 * (j : Int) + 1 + 1 + 1))).setCell ⟨g, j * 5 + 4, none⟩ (.int .i64 ((k : Int) + 5 * (j : Int) + 1 + 1 + 1 + 1))) g t sz k n (j + 1) := by
          have h := Made.nextMark hm hlt hs
          have q0 : ((k + 5 * j : Nat) : Int) = (k : Int) + 5 * (j : Int) := by omega
          have q1 : ((k + 5 * j + 1 : Nat) : Int) = (k : Int) + 5 * (j : Int) + 1 := by omega
          have q2 : ((k + 5 * j + 2 : Nat) : Int) = (k : Int) + 5 * (j : Int) + 1 + 1 := by omega
          have q3 : ((k + 5 * j + 3 : Nat) : Int) = (k : Int) + 5 * (j : Int) + 1 + 1 + 1 := by omega
          have q4 : ((k + 5 * j + 4 : Nat) : Int) = (k : Int) + 5 * (j : Int) + 1 + 1 + 1 + 1 := by omega
          rw [q0, q1, q2, q3, q4] at h
          exact h
        go_wp2
        go_roundw
        case rel => exact ⟨j + 1, by omega, by go_num, by go_num, grown_set (grown_set (grown_set (grown_set (grown_set hb _ _) _ _) _ _) _ _) _ _, hm2⟩
        case measure => simp [intOf]; omega
      · obtain rfl : n = j := by omega
        go_wp2
        go_ret
        exact ⟨rfl, hb, fun i x h => ⟨g, 0, rfl, by
          have hi : i < n := by have := (List.getElem?_eq_some_iff.1 h).1; simpa [markArcs_length] using this
          rw [Nat.zero_add]; exact hm.2 i x hi h⟩⟩

theorem markNet_any (m : Int) (A : Option Addr) (n c k lo t : Nat) (w : World) (hn : n ≤ 1048576) (ki : Int) (hki : ki = (k : Int)) (hk : k ≤ 100000000) (ho : OwnAt w lo A t 5 n) :
    Calls Try.prog 24 #[.agg #[.int .i64 m, .slice A n c], .int .i64 ki] w (Marked w A (k + 5 * n) fun w' => ArcsAt w' A (markArcs k n)) := by
  subst hki
  go_enter Try.func24, Try.ntmps24
  go_wp2_with fail
  have hb0 : Below w.heap.size w (w.alloc (.cells #[.int .i64 m, .slice A n c] 32)) := (Below.refl _ _).alloc (Nat.le_refl _) _
  refine (markArcS_any A n c k lo t _ hn _ rfl hk (ho.keep (grown_of_below hb0 none) (by simp))).mono ?_
  rintro e w1 ⟨rfl, hb1, hx⟩
  go_wp2
  go_ret
  exact ⟨rfl, grown_trans (grown_of_below hb0 _) hb1, hx⟩

theorem ArcsAt.old {wE w w' : World} {A : Option Addr} {xs : List ArcD} {g : Nat} (hE : ArcsAt wE A xs) (h : ArcsAt w A xs) (hg : w.grownBy w' (some g)) (hle : wE.heap.size ≤ g) : ArcsAt w' A xs := fun k x hk => by
  obtain ⟨b, o, rfl, hc⟩ := hE k x hk
  obtain ⟨b', o', e, hc'⟩ := h k x hk
  have hb := hc.lt
  injection e with e
  injection e with e1 e2
  subst e1 e2
  exact ⟨b, o, rfl, hc'.keep (hg.block b hc'.lt (by simp only [ne_eq, Option.some.injEq]; omega))⟩
theorem ArcsAt.young {w w' : World} {A : Option Addr} {xs : List ArcD} {g lo t : Nat} (ho : OwnAt w lo A t 5 xs.length) (h : ArcsAt w A xs) (hg : w.grownBy w' (some g)) (hlt : g < lo) : ArcsAt w' A xs := fun k x hk => by
  obtain ⟨b', o', rfl, hc'⟩ := h k x hk
  rcases ho with ⟨h0, _⟩ | ⟨b, sz, e, hl, _, _⟩
  · cases h0
  · injection e with e
    injection e with e1 e2
    subst e1
    exact ⟨b', o', rfl, hc'.keep (hg.block b' hc'.lt (by simp only [ne_eq, Option.some.injEq]; omega))⟩
theorem ArcsAt.under {wE w w' : World} {A : Option Addr} {xs : List ArcD} {lo : Nat} (hE : ArcsAt wE A xs) (h : ArcsAt w A xs) (hb : Below lo w w') (hle : wE.heap.size ≤ lo) : ArcsAt w' A xs := fun k x hk => by
  obtain ⟨b, o, rfl, hc⟩ := hE k x hk
  obtain ⟨b', o', e, hc'⟩ := h k x hk
  have hb' := hc.lt
  injection e with e
  injection e with e1 e2
  subst e1 e2
  exact ⟨b, o, rfl, hc'.keep (hb.block b (by omega))⟩

end Go.Proofs.Ytaojognjkiifmaa

namespace Go.Proofs.Ytaojognjkiifmaa
open Go.RowKit

/-- What stands behind 'back := Net{..}': a block with the net, its arcs copied into new memory. -/
def BackCut (w1 : World) (m : Int) (n : Nat) (xs : List ArcD) (s3 : Value) (wx : World) : Prop :=
  ∃ (p : Nat) (A : Option Addr) (c : Nat), s3 = .pointer (some ⟨p, 0, none⟩) ∧ w1.heap.size ≤ p ∧ RowN wx p 32 2 ∧ wx.cell? ⟨p, 0, none⟩ = some (.int .i64 m) ∧ wx.cell? ⟨p, 1, none⟩ = some (.slice A n c) ∧
    ArcsAt wx A xs ∧ OwnAt wx w1.heap.size A 52 5 n ∧ blk A ≠ some p ∧ Past w1 wx

set_option maxHeartbeats 1000000 in
theorem implNetBack_any (m : Int) (g o n c : Nat) (xs : List ArcD) (w : World) (hn : n ≤ 1048576) (hl : xs.length = n) (hx : ArcsAt w (some ⟨g, o, none⟩) xs) :
    Calls Try.prog 113 #[.agg #[.int .i64 m, .slice (some ⟨g, o, none⟩) n c]] w (GivesNet w (backN m xs) (backL m xs)) := by
  have HL := Lib.hid hl
  clear hl
  have hb0 : Past w ((w.alloc (.cells #[.int .i64 m, .slice (some ⟨g, o, none⟩) n c] 32)).alloc (.cells #[.int .i64 0, .slice none 0 0] 32)) := ((Past.refl _).alloc _).alloc _
  go_enter Try.func113, Try.ntmps113
  go_wp2_with fail
  refine (implNetOk_any m _ n c xs _ hn HL.out (hx.below hb0)).mono ?_
  rintro e w1 ⟨rfl, hb1⟩
  have b0 := cell_in (p := ⟨w.heap.size, 0, none⟩) (v := .int .i64 m) hb1 (by go_simp)
  have b1 := cell_in (p := ⟨w.heap.size, 1, none⟩) (v := .slice (some ⟨g, o, none⟩) n c) hb1 (by go_simp)
  have e0 := cell_in (p := ⟨w.heap.size + 1, 0, none⟩) (v := .int .i64 0) hb1 (by go_simp)
  have e1 := cell_in (p := ⟨w.heap.size + 1, 1, none⟩) (v := .slice none 0 0) hb1 (by go_simp)
  have z0 := free_in (p := ⟨w.heap.size + 1, 0, none⟩) (v := .int .i64 0) hb1 (by go_simp) (by go_simp)
  have z1 := free_in (p := ⟨w.heap.size + 1, 1, none⟩) (v := .slice none 0 0) hb1 (by go_simp) (by go_simp)
  have hx1 := (hx.below hb0).below hb1
  cases hB : netB m xs with
  | false =>
    have HB := Lib.hid hB
    clear hB
    go_wp2
    exact bodyPost_ret (v := .agg #[.int .i64 0, .slice none 0 0]) (by simp [results, Try.results113, go_sem, e0, e1]) rfl
      ⟨none, 0, by simp [backN, backL, HB.out], by simp only [backL, HB.out, Bool.false_eq_true, if_false]; exact fun k a hk => by simp at hk, by simp only [backL, HB.out, Bool.false_eq_true, if_false]; exact .inl ⟨rfl, rfl⟩, Below.setCell (Below.setCell (bel_trans hb0 hb1) (by simp) _) (by simp) _⟩
  | true =>
    have h16 : n ≤ 16 := by rw [← HL.out]; exact ((netB_iff _ _).1 hB).2.1
    have HB := Lib.hid hB
    clear hB
    have nb0 := World.new_ne w1 _ b0
    have nb1 := World.new_ne w1 _ b1
    go_upto_region 3 with (fail)
    go_cut [3] (BackCut w1 m n xs)
    case first =>
      go_region_held3 (fun w' => w'.cell? ⟨w.heap.size, 0, none⟩ = some (.int .i64 m) ∧ w'.cell? ⟨w.heap.size, 1, none⟩ = some (.slice (some ⟨g, o, none⟩) n c)) (go_keep)
        (first
          | (go_at_call 120; refine (clone_any g o n c xs _ hn HL.out hx1.drew).mono ?_; rintro e w2 ⟨v, rfl, hv, hb2⟩; obtain ⟨A2, c2, rfl, hx2, ho2⟩ := hv.formN HL.out; have b0 := cell_in hb2 b0; have b1 := cell_in hb2 b1)
          | (go_at_call 120; refine (clone_any g o n c xs _ hn HL.out ((hx1.below ((Past.refl w1).alloc (.cells #[.int .i64 0, .slice none 0 0] 32))).drew)).mono ?_; rintro e w2 ⟨v, rfl, hv, hb2⟩; obtain ⟨A2, c2, rfl, hx2, ho2⟩ := hv.formN HL.out; have b0 := cell_in hb2 (cell_in ((Past.refl w1).alloc (.cells #[.int .i64 0, .slice none 0 0] 32)).drew b0); have b1 := cell_in hb2 (cell_in ((Past.refl w1).alloc (.cells #[.int .i64 0, .slice none 0 0] 32)).drew b1); have p0 := cell_in (p := ⟨w1.heap.size, 0, none⟩) (v := .int .i64 0) hb2 (by go_simp); have p1 := cell_in (p := ⟨w1.heap.size, 1, none⟩) (v := .slice none 0 0) hb2 (by go_simp); have y0 := free_in (p := ⟨w1.heap.size, 0, none⟩) (v := .int .i64 0) hb2 (by go_simp) (by go_simp); have y1 := free_in (p := ⟨w1.heap.size, 1, none⟩) (v := .slice none 0 0) hb2 (by go_simp) (by go_simp)))
      all_goals go_wp2_with fail
      all_goals go_meet
      · have hb12 : Past w1 w2 := (Past.refl w1).drew.trans hb2
        exact ⟨w2.heap.size, A2, c2, rfl, hb2.size, ⟨_, heap_alloc_new w2 _, rfl⟩, by go_simp, by go_simp, hx2.below ((Past.refl w2).alloc _), OwnAt.keep ho2 (grown_of_below ((Past.refl w2).alloc _) none) (by simp), ho2.ne_new, hb12.alloc _⟩
      · have hbA : Past w1 (w1.alloc (.cells #[.int .i64 0, .slice none 0 0] 32)).drew := ((Past.refl w1).alloc _).drew
        have hb12 : Past w1 w2 := hbA.trans hb2
        have hr : RowN w2 w1.heap.size 32 2 := RowN.keep (w := (w1.alloc (.cells #[.int .i64 0, .slice none 0 0] 32)).drew) ⟨_, heap_alloc_new w1 _, rfl⟩ (hb2.block _ (by simp))
        have hne : blk A2 ≠ some w1.heap.size := ho2.ne_blk (by simp)
        refine ⟨w1.heap.size, A2, c2, rfl, Nat.le_refl _, (hr.set _ _).set _ _, ?_, ?_, (hx2.far _ _ hne).far _ _ hne, ((ho2.lower (by simp)).far _ _).far _ _, hne, Below.setCell (Below.setCell hb12 (by simp) _) (by simp) _⟩
        · exact (World.cell?_setCell_other _ _ _ _ (by simp)).trans (World.cell?_setCell_same _ _ _ p0)
        · exact World.cell?_setCell_same _ _ _ ((World.cell?_setCell_other _ _ _ _ (by simp)).trans p1)
    case rest =>
      obtain ⟨p, A2, c2, rfl, hp, hrp, q0, q1, hx2, ho2, hne, hb12⟩ := hcut
      have sw : w.heap.size + 1 < w1.heap.size := lt_of_cell e0
      have b0 := cell_in hb12 b0
      have b1 := cell_in hb12 b1
      have r1 : RowN wc (w.heap.size + 1) 32 2 := by
        refine RowN.keep (w := w1) (RowN.keep (w := ((w.alloc (.cells #[.int .i64 m, .slice (some ⟨g, o, none⟩) n c] 32)).alloc (.cells #[.int .i64 0, .slice none 0 0] 32))) ⟨#[.int .i64 0, .slice none 0 0], ?_, rfl⟩ (hb1.block _ (by simp))) (hb12.block _ sw)
        have := heap_alloc_new (w.alloc (.cells #[.int .i64 m, .slice (some ⟨g, o, none⟩) n c] 32)) (.cells #[.int .i64 0, .slice none 0 0] 32)
        simpa using this
      have hb0c : Past w wc := hb0.trans (Past.trans hb1 hb12)
      have hxc := hx1.below hb12
      clear e0 e1 z0 z1 nb0 nb1 hx1
      by_cases hn0 : n = 0
      · obtain ⟨x0, e0⟩ := r1.cell (i := 0) (by omega)
        obtain ⟨x1, e1⟩ := r1.cell (i := 1) (by omega)
        have z0 := r1.frozen 0
        have z1 := r1.frozen 1
        have HZ := Lib.hid hn0
        have hlt0 : ¬ ((0 : Int) < (n : Int)) := by omega
        have hne2 : blk A2 ≠ some (w.heap.size + 1) := ho2.ne_blk sw
        have hnil : xs.map flip = [] := by rw [List.map_eq_nil_iff]; exact List.eq_nil_of_length_eq_zero (HL.out.trans hn0)
        have HNL := Lib.hid hnil
        clear hn0 hnil
        go_wp2
        go_loop [19] (fun q => q = .int .i64 0) (fun _ => 0)
        case atStart => rfl
        case round =>
          subst hrel
          go_wp2
          exact bodyPost_ret (v := .agg #[.int .i64 m, .slice A2 n c2]) (by simp [results, Try.results113, go_sem, e0, e1]) rfl
            ⟨A2, c2, by simp [backN, backL, HB.out, HL.out], by rw [backL, if_pos HB.out, HNL.out]; exact fun k a hk => by simp at hk, by rw [backL, if_pos HB.out, List.length_map, HL.out]; exact ((ho2.lower (by omega)).far _ _).far _ _, Below.setCell (Below.setCell hb0c (by simp) _) (by simp) _⟩
      · obtain ⟨g2, sz, rfl, hg2, hr2, hs2⟩ : ∃ g2 sz, A2 = some ⟨g2, 0, none⟩ ∧ w1.heap.size ≤ g2 ∧ RowN wc g2 52 sz ∧ n * 5 ≤ sz := by
          rcases ho2 with ⟨_, h0⟩ | h
          · exact absurd h0 hn0
          · exact h
        have hpg : p ≠ g2 := fun e => hne (by rw [e]; rfl)
        have hturn : Turned wc g2 sz xs 0 := ⟨hr2, fun j a hj => absurd hj (by omega), fun j a _ ha => by
          obtain ⟨g3, o3, e, h5⟩ := hx2 j a ha
          injection e with e
          injection e with e1 e2
          subst e1 e2
          simpa using h5⟩
        have gw : g < w.heap.size := by
          obtain ⟨a, ha⟩ : ∃ a, xs[0]? = some a := ⟨_, List.getElem?_eq_getElem (by have := HL.out; omega)⟩
          obtain ⟨g3, o3, e, h5⟩ := hx 0 a ha
          injection e with e
          injection e with e1 e2
          subst e1
          exact h5.lt
        clear hx2 ho2 hne hr2
        go_wp2
        go_loopw [19] (fun q wr => ∃ k : Nat, k ≤ n ∧ q = .int .i64 k ∧ Turned wr g2 sz xs k ∧ wc.grownBy wr (some g2)) (fun q _ => n - (intOf q).toNat)
        case atStart => exact ⟨0, by omega, rfl, hturn, grown_refl _ _⟩
        case round =>
          obtain ⟨k, hk, rfl, ht, hg⟩ := hrel
          have q0 := cell_far hg q0 hpg
          have q1 := cell_far hg q1 hpg
          by_cases hlt : k < n
          · obtain ⟨⟨f, t, c', l, d⟩, ha⟩ : ∃ a, xs[k]? = some a := ⟨_, List.getElem?_eq_getElem (by have := HL.out; omega)⟩
            obtain ⟨g3, o3, eg, c0, c1, c2', c3, c4⟩ := (hxc.grown hg (fun b hb => by injection hb with hb; simp [blk]; omega)) k _ ha
            injection eg with eg
            injection eg with eg1 eg2
            subst eg1 eg2
            obtain ⟨d0, d1, d2, d3, d4⟩ := ht.2.2 k _ (Nat.le_refl _) ha
            have z0 := ht.1.frozen (k * 5)
            have z1 := ht.1.frozen (k * 5 + 1)
            have HA := Lib.hid ha
            have hg2r : g2 < wr.heap.size := ht.1.lt
            have hpr : p < wr.heap.size := lt_of_cell q0
            clear ha d2 d3 d4
            have i0 : (0 : Int) ≤ (k : Int) := by omega
            have i1 : (k : Int) < (n : Int) := by omega
            go_wp2_with fail
            go_region
            go_wp2
            go_roundw
            case rel =>
              refine ⟨k + 1, by omega, by go_num, ?_, ?_⟩
              · have h2 := ht.next HA.out
                exact Turned.keep h2 (Below.heap_alloc _ _ _ h2.1.lt)
              · have h2 := grown_set (grown_set hg (k * 5) (.int .i64 t)) (k * 5 + 1) (.int .i64 f)
                have h3 := grown_trans h2 (World.grownBy_alloc _ (.cells #[.int .i64 f, .int .i64 t, .int .i64 c', .int .i64 l, .int .i64 d] 52) _)
                exact ⟨h3.os, h3.tape, h3.output, h3.size, h3.block⟩
            case measure => simp [intOf]; omega
          · obtain rfl : n = k := by omega
            have r1 := r1.young hg (by omega)
            obtain ⟨x0, e0⟩ := r1.cell (i := 0) (by omega)
            obtain ⟨x1, e1⟩ := r1.cell (i := 1) (by omega)
            have z0 := r1.frozen 0
            have z1 := r1.frozen 1
            have hbf : Past w wr := Below.grown hb0c hg hb0c.size (fun b hb => by injection hb with hb; omega)
            go_wp2
            have hxf : ArcsAt wr (some ⟨g2, 0, none⟩) (xs.map flip) := fun j a hj => by
              rw [List.getElem?_map] at hj
              cases hxj : xs[j]? with
              | none => rw [hxj] at hj; cases hj
              | some b =>
                rw [hxj] at hj
                injection hj with hj
                subst hj
                exact ⟨g2, 0, rfl, by rw [Nat.zero_add]; exact ht.2.1 j b (by have := (List.getElem?_eq_some_iff.1 hxj).1; rw [HL.out] at this; exact this) hxj⟩
            have hne2 : blk (some ⟨g2, 0, none⟩) ≠ some (w.heap.size + 1) := by simp [blk]; omega
            exact bodyPost_ret (v := .agg #[.int .i64 m, .slice (some ⟨g2, 0, none⟩) n c2]) (by simp [results, Try.results113, go_sem, e0, e1]) rfl
              ⟨_, c2, by simp [backN, backL, HB.out, HL.out], by rw [backL, if_pos HB.out]; exact (hxf.far _ _ hne2).far _ _ hne2, .inr ⟨g2, sz, rfl, by omega, (ht.1.set _ _).set _ _, by rw [backL, if_pos HB.out, List.length_map, HL.out]; exact hs2⟩, Below.setCell (Below.setCell hbf (by simp) _) (by simp) _⟩

end Go.Proofs.Ytaojognjkiifmaa

namespace Go.Proofs.Ytaojognjkiifmaa
open Go.RowKit

theorem clone_nil (c : Nat) (w : World) : Calls Try.prog 120 #[.slice none 0 c] w (GivesArcs w []) := by
  have heq := fun u : World => Lib.run_eql_slice_nil (P := Try.prog) u 30 52 none 0 c 0 0 Try.underlying30
  simp only [Option.isNone_none] at heq
  go_enter Try.func120, Try.ntmps120
  go_wp2
  go_ret
  exact ⟨_, rfl, by unfold ResA; exact ⟨rfl, .inl ⟨rfl, rfl⟩⟩, Below.refl _ _⟩

set_option maxHeartbeats 1000000 in
theorem implNetBack_nil (m : Int) (c : Nat) (w : World) :
    Calls Try.prog 113 #[.agg #[.int .i64 m, .slice none 0 c]] w (GivesNet w (backN m []) (backL m [])) := by
  have hx : ArcsAt w none [] := fun k a hk => by simp at hk
  have hb0 : Past w ((w.alloc (.cells #[.int .i64 m, .slice none 0 c] 32)).alloc (.cells #[.int .i64 0, .slice none 0 0] 32)) := ((Past.refl _).alloc _).alloc _
  go_enter Try.func113, Try.ntmps113
  go_wp2_with fail
  refine (implNetOk_any m _ 0 c [] _ (by omega) rfl (hx.below hb0)).mono ?_
  rintro e w1 ⟨rfl, hb1⟩
  have b0 := cell_in (p := ⟨w.heap.size, 0, none⟩) (v := .int .i64 m) hb1 (by go_simp)
  have b1 := cell_in (p := ⟨w.heap.size, 1, none⟩) (v := .slice none 0 c) hb1 (by go_simp)
  have e0 := cell_in (p := ⟨w.heap.size + 1, 0, none⟩) (v := .int .i64 0) hb1 (by go_simp)
  have e1 := cell_in (p := ⟨w.heap.size + 1, 1, none⟩) (v := .slice none 0 0) hb1 (by go_simp)
  have z0 := free_in (p := ⟨w.heap.size + 1, 0, none⟩) (v := .int .i64 0) hb1 (by go_simp) (by go_simp)
  have z1 := free_in (p := ⟨w.heap.size + 1, 1, none⟩) (v := .slice none 0 0) hb1 (by go_simp) (by go_simp)
  cases hB : netB m [] with
  | false =>
    have HB := Lib.hid hB
    clear hB
    go_wp2
    exact bodyPost_ret (v := .agg #[.int .i64 0, .slice none 0 0]) (by simp [results, Try.results113, go_sem, e0, e1]) rfl
      ⟨none, 0, by simp [backN, backL, HB.out], by simp only [backL, HB.out, Bool.false_eq_true, if_false]; exact fun k a hk => by simp at hk, by simp only [backL, HB.out, Bool.false_eq_true, if_false]; exact .inl ⟨rfl, rfl⟩, Below.setCell (Below.setCell (bel_trans hb0 hb1) (by simp) _) (by simp) _⟩
  | true =>
    have HB := Lib.hid hB
    clear hB
    have nb0 := World.new_ne w1 _ b0
    have nb1 := World.new_ne w1 _ b1
    go_upto_region 3 with (fail)
    go_cut [3] (BackCut w1 m 0 [])
    case first =>
      go_region_held3 (fun w' => w'.cell? ⟨w.heap.size, 0, none⟩ = some (.int .i64 m) ∧ w'.cell? ⟨w.heap.size, 1, none⟩ = some (.slice none 0 c)) (go_keep)
        (first
          | (go_at_call 120; refine (clone_nil c _).mono ?_; rintro e w2 ⟨v, rfl, hv, hb2⟩; obtain ⟨A2, c2, rfl, hx2, ho2⟩ := hv.formN (n := 0) rfl; have b0 := cell_in hb2 b0; have b1 := cell_in hb2 b1)
          | (go_at_call 120; refine (clone_nil c _).mono ?_; rintro e w2 ⟨v, rfl, hv, hb2⟩; obtain ⟨A2, c2, rfl, hx2, ho2⟩ := hv.formN (n := 0) rfl; have b0 := cell_in hb2 (cell_in ((Past.refl w1).alloc (.cells #[.int .i64 0, .slice none 0 0] 32)).drew b0); have b1 := cell_in hb2 (cell_in ((Past.refl w1).alloc (.cells #[.int .i64 0, .slice none 0 0] 32)).drew b1); have p0 := cell_in (p := ⟨w1.heap.size, 0, none⟩) (v := .int .i64 0) hb2 (by go_simp); have p1 := cell_in (p := ⟨w1.heap.size, 1, none⟩) (v := .slice none 0 0) hb2 (by go_simp); have y0 := free_in (p := ⟨w1.heap.size, 0, none⟩) (v := .int .i64 0) hb2 (by go_simp) (by go_simp); have y1 := free_in (p := ⟨w1.heap.size, 1, none⟩) (v := .slice none 0 0) hb2 (by go_simp) (by go_simp)))
      all_goals go_wp2_with fail
      all_goals go_meet
      · have hb12 : Past w1 w2 := (Past.refl w1).drew.trans hb2
        exact ⟨w2.heap.size, A2, c2, rfl, hb2.size, ⟨_, heap_alloc_new w2 _, rfl⟩, by go_simp, by go_simp, hx2.below ((Past.refl w2).alloc _), OwnAt.keep ho2 (grown_of_below ((Past.refl w2).alloc _) none) (by simp), ho2.ne_new, hb12.alloc _⟩
      · have hbA : Past w1 (w1.alloc (.cells #[.int .i64 0, .slice none 0 0] 32)).drew := ((Past.refl w1).alloc _).drew
        have hb12 : Past w1 w2 := hbA.trans hb2
        have hr : RowN w2 w1.heap.size 32 2 := RowN.keep (w := (w1.alloc (.cells #[.int .i64 0, .slice none 0 0] 32)).drew) ⟨_, heap_alloc_new w1 _, rfl⟩ (hb2.block _ (by simp))
        have hne : blk A2 ≠ some w1.heap.size := ho2.ne_blk (by simp)
        refine ⟨w1.heap.size, A2, c2, rfl, Nat.le_refl _, (hr.set _ _).set _ _, ?_, ?_, (hx2.far _ _ hne).far _ _ hne, ((ho2.lower (by simp)).far _ _).far _ _, hne, Below.setCell (Below.setCell hb12 (by simp) _) (by simp) _⟩
        · exact (World.cell?_setCell_other _ _ _ _ (by simp)).trans (World.cell?_setCell_same _ _ _ p0)
        · exact World.cell?_setCell_same _ _ _ ((World.cell?_setCell_other _ _ _ _ (by simp)).trans p1)
    case rest =>
      obtain ⟨p, A2, c2, rfl, hp, hrp, q0, q1, hx2, ho2, hne, hb12⟩ := hcut
      have sw : w.heap.size + 1 < w1.heap.size := lt_of_cell e0
      have b0 := cell_in hb12 b0
      have b1 := cell_in hb12 b1
      have r1 : RowN wc (w.heap.size + 1) 32 2 := by
        refine RowN.keep (w := w1) (RowN.keep (w := ((w.alloc (.cells #[.int .i64 m, .slice none 0 c] 32)).alloc (.cells #[.int .i64 0, .slice none 0 0] 32))) ⟨#[.int .i64 0, .slice none 0 0], ?_, rfl⟩ (hb1.block _ (by simp))) (hb12.block _ sw)
        have := heap_alloc_new (w.alloc (.cells #[.int .i64 m, .slice none 0 c] 32)) (.cells #[.int .i64 0, .slice none 0 0] 32)
        simpa using this
      have hb0c : Past w wc := hb0.trans (Past.trans hb1 hb12)
      clear e0 e1 z0 z1 nb0 nb1
      obtain ⟨x0, e0⟩ := r1.cell (i := 0) (by omega)
      obtain ⟨x1, e1⟩ := r1.cell (i := 1) (by omega)
      have z0 := r1.frozen 0
      have z1 := r1.frozen 1
      have hne2 : blk A2 ≠ some (w.heap.size + 1) := ho2.ne_blk sw
      go_wp2
      go_loop [19] (fun q => q = .int .i64 0) (fun _ => 0)
      case atStart => rfl
      case round =>
        subst hrel
        go_wp2
        exact bodyPost_ret (v := .agg #[.int .i64 m, .slice A2 0 c2]) (by simp [results, Try.results113, go_sem, e0, e1]) rfl
          ⟨A2, c2, by simp [backN, backL, HB.out], by rw [backL, if_pos HB.out]; exact fun k a hk => by simp at hk, by rw [backL, if_pos HB.out, List.length_map]; exact ((ho2.lower (by omega)).far _ _).far _ _, Below.setCell (Below.setCell hb0c (by simp) _) (by simp) _⟩

theorem implNetBack_all (m : Int) (A : Option Addr) (n c : Nat) (xs : List ArcD) (w : World) (hn : n ≤ 1048576) (hl : xs.length = n) (hx : ArcsAt w A xs) (ho : (A = none ∧ n = 0) ∨ ∃ g o, A = some ⟨g, o, none⟩) :
    Calls Try.prog 113 #[.agg #[.int .i64 m, .slice A n c]] w (GivesNet w (backN m xs) (backL m xs)) := by
  rcases ho with ⟨rfl, rfl⟩ | ⟨g, o, rfl⟩
  · obtain rfl : xs = [] := List.eq_nil_of_length_eq_zero hl
    exact implNetBack_nil m c w
  · exact implNetBack_any m g o n c xs w hn hl hx

end Go.Proofs.Ytaojognjkiifmaa

namespace Go.Proofs.Ytaojognjkiifmaa
open Go.RowKit

theorem flip_flip' (a : ArcD) : flip (flip a) = a := rfl
theorem arcB_flip' {m : Int} {a : ArcD} (h : arcB m a = true) : arcB m (flip a) = true := by
  unfold arcB at h ⊢
  unfold flip
  simp only [Bool.and_eq_true, Bool.not_eq_true', beq_eq_false_iff_ne] at h ⊢
  exact ⟨h.2.1, h.1, fun e => h.2.2.1 e.symm, h.2.2.2⟩
theorem netB_flip' {m : Int} {xs : List ArcD} (h : netB m xs = true) : netB m (xs.map flip) = true := by
  obtain ⟨h1, h2, h3⟩ := (netB_iff _ _).1 h
  refine (netB_iff _ _).2 ⟨h1, by rw [List.length_map]; exact h2, fun a ha => ?_⟩
  obtain ⟨b, hb, rfl⟩ := List.mem_map.1 ha
  exact arcB_flip' (h3 b hb)
/-- What it costs from each to a node. -/
def nearTI (m : Int) (xs : List ArcD) (s : Int) : List Int := if hereB m xs s then nearL m.toNat (xs.map flip) s else []
theorem nearTI_back (m : Int) (xs : List ArcD) (s : Int) : nearI (backN m xs) (backL m xs) s = nearTI m xs s := by
  unfold nearI nearTI backN backL hereB
  cases hB : netB m xs with
  | true => simp only [if_true, netB_flip' hB]
  | false =>
    have : netB 0 [] = false := by decide
    simp [this]
theorem nearTI_len (m : Int) (xs : List ArcD) (s : Int) : (nearTI m xs s).length ≤ 1048576 := by
  rw [← nearTI_back]
  exact nearI_len _ _ _



end Go.Proofs.Ytaojognjkiifmaa

namespace Go.Proofs.Ytaojognjkiifmaa
open Go.RowKit

/-- The tree, of a net and a node that are there. -/
def treeTI (m : Int) (xs : List ArcD) (s : Int) : List Int := if hereB m xs s then treeM m.toNat xs s else []
theorem treeTI_len (m : Int) (xs : List ArcD) (s : Int) : (treeTI m xs s).length ≤ 1048576 := by
  unfold treeTI
  split
  · rename_i h
    rw [treeM_length]
    obtain ⟨M, e, _, h8⟩ := here_nat ((hereB_iff _ _ _).1 h).1
    subst e
    simp
    omega
  · simp

set_option maxRecDepth 100000 in
set_option maxHeartbeats 2000000 in
theorem implNearTree_all (m : Int) (A : Option Addr) (n c : Nat) (xs : List ArcD) (s : Int) (w : World) (hn : n ≤ 1048576) (hnx : xs.length = n) (hx : ArcsAt w A xs) (ho : (A = none ∧ n = 0) ∨ ∃ g o, A = some ⟨g, o, none⟩) :
    Calls Try.prog 85 #[.agg #[.int .i64 m, .slice A n c], .int .i64 s] w (Gives w (treeTI m xs s)) := by
  have HX := Lib.hid hnx
  clear hnx
  go_enter Try.func85, Try.ntmps85
  have hb0 : Past w ((w.alloc (.cells #[.int .i64 m, .slice A n c] 32)).alloc (.cells #[.int .i64 s] 3)) := ((Past.refl _).alloc _).alloc _
  have hz : IntsAt ((w.alloc (.cells #[.int .i64 m, .slice A n c] 32)).alloc (.cells #[.int .i64 s] 3)) (some ⟨w.heap.size + 1, 0, none⟩) [s] := fun k y hk => by
    cases k with
    | zero => simp at hk; subst hk; exact ⟨_, _, rfl, by go_simp⟩
    | succ k => simp at hk
  go_wp2_with fail
  refine (netHas_any m A n c xs _ 1 1 [s] _ hn HX.out (hx.below hb0) (by omega) rfl hz).mono ?_
  rintro e w1 ⟨rfl, hb1⟩
  have b0 := cell_in (p := ⟨w.heap.size, 0, none⟩) (v := .int .i64 m) hb1 (by go_simp)
  have b1 := cell_in (p := ⟨w.heap.size, 1, none⟩) (v := .slice A n c) hb1 (by go_simp)
  have hx1 := (hx.below hb0).below hb1
  have hp1 := hb0.trans hb1
  have hH : (netB m xs && [s].all (fun z => inB z 0 (m - 1))) = hereB m xs s := by simp [hereB]
  rw [hH]
  clear hH hb0 hz hb1
  cases hB : hereB m xs s with
  | false =>
    have HB := Lib.hid hB
    clear hB
    go_wp2
    go_ret
    exact ⟨_, rfl, by rw [treeTI, HB.out]; exact Res.nil _ _, hp1⟩
  | true =>
    obtain ⟨hN, h0, h1⟩ := (hereB_iff _ _ _).1 hB
    obtain ⟨M, rfl, h3, h8⟩ := here_nat hN
    obtain ⟨S, rfl⟩ : ∃ S : Nat, s = (S : Int) := ⟨s.toNat, by omega⟩
    have hS : S < M := by omega
    have h16 : n ≤ 16 := by rw [← HX.out]; exact ((netB_iff _ _).1 hN).2.1
    have HB := Lib.hid hB
    have HN := Lib.hid hN
    clear hB hN
    go_wp2_with fail
    refine (implNetBack_all (M : Int) A n c xs _ hn HX.out hx1 ho).mono ?_
    rintro e w2 ⟨A2, c2, rfl, hx2, _, hb2⟩
    have hbN : backN (M : Int) xs = (M : Int) := by rw [backN, HN.out, if_pos rfl]
    have hbL : backL (M : Int) xs = xs.map flip := by rw [backL, HN.out, if_pos rfl]
    rw [hbN]
    rw [hbL] at hx2 ⊢
    obtain ⟨K2, hK2⟩ : ∃ K2, (xs.map flip).length = K2 := ⟨_, rfl⟩
    have hK3 : K2 ≤ 16 := by rw [← hK2, List.length_map, HX.out]; exact h16
    rw [hK2]
    have HK2 := Lib.hid hK2
    have b0 := cell_in hb2 b0
    have b1 := cell_in hb2 b1
    have hx2' := hx1.below hb2
    have hp2 := hp1.trans hb2
    clear hK2 hbN hbL hb2
    go_wp2_with fail
    refine (lengths_any M S A2 K2 c2 (xs.map flip) _ (by omega) HK2.out hx2 (arcsIn_net (netB_flip' HN.out)) (net_ne (netB_flip' HN.out)) h3 (by omega) hS).mono ?_
    rintro e W ⟨g, L, rfl, hrow, hLl, hlabs, hopen, hb3⟩
    have hT : TreeL M xs (S : Int) L := ⟨hlabs, hopen, arcsIn_net HN.out, ⟨h0, h1⟩, h8⟩
    have hLe := hT.eq
    have HT := Lib.hid hT
    have HG := Lib.hid (fun j a (hj : L[j]? = some a) => hrow.get hLl hj)
    have HLE := Lib.hid hLe
    have b0 := cell_in hb3 b0
    have b1 := cell_in hb3 b1
    have hxW := hx2'.below hb3
    have hpW := hp2.trans hb3
    have hmk := makeInt M (by omega)
    clear hlabs hopen hrow hT hLe hb3 hx2 hx1 hx2'
    go_wp2
    go_loopw [22] (fun i wr => ∃ k : Nat, k ≤ M ∧ i = .int .i64 k ∧ Past W wr ∧ MadeI wr W.heap.size 3 M (treeM M xs (S : Int)) k) (fun i _ => M - (intOf i).toNat)
    case atStart => exact ⟨0, by omega, rfl, (Past.refl _).alloc _, MadeI.start W 3 M (treeM M xs (S : Int)) (madeCells #[.int .i64 0] M) (by simp [size_madeCells])⟩
    case round =>
      obtain ⟨k, hk, rfl, hb, hmd⟩ := hrel
      have b0' := cell_in hb b0
      have b1' := cell_in hb b1
      by_cases hlt : k < M
      · have HF : Hid ((treeM M xs (S : Int))[k]? = some (treeI xs L (k : Int))) := by rw [Hid, HLE.out]; exact treeM_get M xs (S : Int) hlt
        have k0 : (0 : Int) ≤ (k : Int) := by omega
        have k1 : (k : Int) < (M : Int) := by omega
        go_wp2_with fail
        refine (firstArc_any M k A n c xs g L _ h16 HX.out (hxW.below hb) (arcsIn_net HN.out) hlt hLl (fun j a hj => ⟨cell_in hb (HG.out j a hj).1, cell_in hb (HG.out j a hj).2⟩) (fun v h0 h1 => by have := HT.out.bound v h0 h1; unfold farI at this; omega)).mono ?_
        rintro e w6 ⟨rfl, hb6⟩
        have hmd6 := hmd.below hb6
        obtain ⟨v0, e0⟩ := hmd6.1.cell (i := k) hlt
        have z0 := hmd6.1.frozen k
        have hbb := hb.trans hb6
        go_wp2
        go_roundw
        case rel => exact ⟨k + 1, by omega, by go_num, Below.setCell hbb (by simp) _, hmd6.next HF.out hlt⟩
        case measure => simp [intOf]; omega
      · obtain rfl : M = k := by omega
        have hrow : RowI wr W.heap.size (treeM M xs (S : Int)) := hmd.row (treeM_length M xs (S : Int))
        go_wp2
        go_ret
        exact ⟨_, rfl, by rw [treeTI, HB.out, if_pos rfl, Int.toNat_natCast]; exact hrow.res (treeM_length M xs (S : Int)) hpW.size (by omega), hpW.trans hb⟩
theorem implNearTree_any (m : Int) (g n c : Nat) (xs : List ArcD) (s : Int) (w : World) (hn : n ≤ 1048576) (hnx : xs.length = n) (hx : ArcsAt w (some ⟨g, 0, none⟩) xs) :
    Calls Try.prog 85 #[.agg #[.int .i64 m, .slice (some ⟨g, 0, none⟩) n c], .int .i64 s] w (Gives w (treeTI m xs s)) :=
  implNearTree_all m _ n c xs s w hn hnx hx (.inr ⟨_, _, rfl⟩)

end Go.Proofs.Ytaojognjkiifmaa

namespace Go.Proofs.Ytaojognjkiifmaa
open Go.RowKit

/-- The best way, of a net and two nodes that are there, and whether there is one. -/
def hereB2 (m : Int) (xs : List ArcD) (a b : Int) : Bool := hereB m xs a && inB b 0 (m - 1)
def nearWI (m : Int) (xs : List ArcD) (a b : Int) : List Int := if hereB2 m xs a b then wayM m.toNat xs a b else []
def nearWB (m : Int) (xs : List ArcD) (a b : Int) : Bool := hereB2 m xs a b && !(farB m.toNat xs b a)
theorem wayM_len {m : Nat} {xs : List ArcD} {a b : Int} (hx : ArcsIn m xs) (ha : 0 ≤ a ∧ a < m) (hb : 0 ≤ b ∧ b < m) (hm : m ≤ 8) : (wayM m xs a b).length ≤ 7 := by
  unfold wayM
  split
  · simp
  · rename_i h
    exact (treeL_of hx hb (by omega)).way_few a ha.1 ha.2 (by simpa [farB] using h)
theorem hereB2_iff (m : Int) (xs : List ArcD) (a b : Int) : hereB2 m xs a b = true ↔ netB m xs = true ∧ (0 ≤ a ∧ a < m) ∧ 0 ≤ b ∧ b < m := by
  simp only [hereB2, Bool.and_eq_true, hereB_iff, inB_iff]
  constructor
  · rintro ⟨⟨h1, h2, h3⟩, h4, h5⟩; exact ⟨h1, ⟨h2, h3⟩, h4, by omega⟩
  · rintro ⟨h1, ⟨h2, h3⟩, h4, h5⟩; exact ⟨⟨h1, h2, h3⟩, h4, by omega⟩
theorem nearWI_len (m : Int) (xs : List ArcD) (a b : Int) : (nearWI m xs a b).length ≤ 1048576 := by
  unfold nearWI
  split
  · rename_i h
    obtain ⟨h1, h2, h3⟩ := (hereB2_iff _ _ _ _).1 h
    obtain ⟨M, e, _, h8⟩ := here_nat h1
    subst e
    have := wayM_len (arcsIn_net h1) h2 h3 h8
    simp only [Int.toNat_natCast]
    omega
  · simp

end Go.Proofs.Ytaojognjkiifmaa

namespace Go.Proofs.Ytaojognjkiifmaa

theorem Way.one {xs : List ArcD} {a : ArcD} (ha : a ∈ xs) : Way xs a.f a.t a.c [a.f] := by
  have := Way.snoc (.nil : Way xs a.f a.f 0 []) ha rfl
  rw [Int.zero_add] at this
  exact this
theorem Way.back {xs : List ArcD} {s v c : Int} {l : List Int} (h : Way xs s v c l) : ∃ l', Way (xs.map flip) v s c l' := by
  induction h with
  | nil => exact ⟨_, .nil⟩
  | @snoc u c l a _ ha e ih =>
    obtain ⟨l', h'⟩ := ih
    subst e
    have h1 : Way (xs.map flip) a.t a.f a.c [a.t] := Way.one (a := flip a) (List.mem_map.2 ⟨a, ha, rfl⟩)
    obtain ⟨l2, h2⟩ := h1.join h'
    exact ⟨l2, by rw [Int.add_comm]; exact h2⟩
theorem flips_id (xs : List ArcD) : (xs.map flip).map flip = xs := by rw [List.map_map]; exact (List.map_congr_left fun _ _ => rfl).trans (List.map_id _)
theorem arcsIn_back {m : Int} {xs : List ArcD} (h : ArcsIn m xs) : ArcsIn m (xs.map flip) := fun a ha => by
  obtain ⟨b, hb, rfl⟩ := List.mem_map.1 ha
  have := h b hb
  simp only [flip]
  omega
theorem near_back {m : Nat} {xs : List ArcD} {s v : Int} (hm : m ≤ 17) (hx : ArcsIn m xs) (hs : 0 ≤ s ∧ s < m) (hv : 0 ≤ v ∧ v < m) : at_ (nearL m xs s) v = at_ (nearL m (xs.map flip) v) s := by
  have hy := arcsIn_back hx
  obtain ⟨a1, a2⟩ := (nearL_sound hx hs).2 v hv.1 hv.2
  obtain ⟨b1, b2⟩ := (nearL_sound hy hv).2 s hs.1 hs.2
  rcases a2 with a2 | ⟨l, a2⟩
  · rcases b2 with b2 | ⟨l', b2⟩
    · omega
    · obtain ⟨l2, h2⟩ := b2.back
      rw [flips_id] at h2
      have := nearL_le hm hx hs h2
      omega
  · obtain ⟨l2, h2⟩ := a2.back
    have h3 := nearL_le hm hy hv h2
    rcases b2 with b2 | ⟨l', b2⟩
    · omega
    · obtain ⟨l4, h4⟩ := b2.back
      rw [flips_id] at h4
      have := nearL_le hm hx hs h4
      omega

end Go.Proofs.Ytaojognjkiifmaa

namespace Go.Proofs.Ytaojognjkiifmaa

/-- What is known of the best way from a node. -/
structure Gone (xs : List ArcD) (L : List LenD) (s v : Int) (k : Nat) (ys : List Int) : Prop where
  chain : Chain xs v ys
  cost : costL xs ys = (lab L v).x0
  nodup : (v :: ys.map (toOf xs)).Nodup
  less : ∀ u ∈ ys.map (toOf xs), (lab L u).x1 < k
  last : ys ≠ [] → (arcOf xs (numOf ys (ys.length - 1))).t = s
  none : ys = [] → v = s

theorem TreeL.gone {m : Nat} {xs : List ArcD} {s : Int} {L : List LenD} (h : TreeL m xs s L) : ∀ (k : Nat) (v : Int), 0 ≤ v → v < m → lab L v ≠ farL → (lab L v).x1 = k → Gone xs L s v k (wayL xs L s v) := by
  intro k
  induction k with
  | zero =>
    intro v h0 h1 hf hk
    have hv : v = s := by
      by_cases e : v = s
      · exact e
      · obtain ⟨j, a, _, e2, _, _, e5, _⟩ := h.some v e hf h0 h1
        have hb := h.arcs a (List.mem_of_getElem? e2)
        have := h.bound a.t (by omega) (by omega)
        omega
    subst hv
    rw [h.wayL_to]
    exact ⟨trivial, by rw [h.lab_to]; rfl, by simp, fun u hu => by simp at hu, fun e => absurd rfl e, fun _ => rfl⟩
  | succ k ih =>
    intro v h0 h1 hf hk
    have hv : v ≠ s := fun e => by rw [e, h.lab_to] at hk; simp at hk; omega
    obtain ⟨j, a, e1, e2, _, e4, e5, e6, e7, _⟩ := h.some v hv hf h0 h1
    have hb := h.arcs a (List.mem_of_getElem? e2)
    have hj : j < xs.length := (List.getElem?_eq_some_iff.1 e2).1
    have ha : arcOf xs (j : Int) = a := by unfold arcOf; rw [Int.toNat_natCast, List.getD_eq_getElem?_getD, e2]; rfl
    have ht : toOf xs (j : Int) = a.t := by unfold toOf; rw [ha]
    have g := ih a.t (by omega) (by omega) e4 (by omega)
    rw [h.wayL_step hv e1 e2 e5]
    have hle : ∀ u ∈ a.t :: (wayL xs L s a.t).map (toOf xs), (lab L u).x1 < ((k + 1 : Nat) : Int) := fun u hu => by
      rcases List.mem_cons.1 hu with rfl | hu
      · omega
      · have := g.less u hu; omega
    refine ⟨⟨by unfold inArc; rw [inB_iff]; omega, by rw [ha]; exact e7, by rw [ht]; exact g.chain⟩, ?_, ?_, ?_, fun _ => ?_, fun e => by cases e⟩
    · have hc := g.cost
      unfold costL at hc ⊢
      rw [List.map_cons, List.sum_cons, hc, ha, e6]
      omega
    · rw [List.map_cons, ht]
      refine List.nodup_cons.2 ⟨fun hm => ?_, g.nodup⟩
      have := hle v hm
      omega
    · rw [List.map_cons, ht]
      exact hle
    · cases hw : wayL xs L s a.t with
      | nil =>
        have := g.none hw
        simp [numOf, ha, this]
      | cons z zs =>
        have hl := g.last (by rw [hw]; simp)
        rw [hw] at hl
        rw [List.length_cons, show (z :: zs).length + 1 - 1 = ((z :: zs).length - 1) + 1 by simp, numOf_succ]
        exact hl

theorem plain_self {m : Int} {xs : List ArcD} {ys : List Int} (ho : okB m xs ys = true) (hn : ys ≠ [] → ((arcOf xs (numOf ys 0)).f :: ys.map (toOf xs)).Nodup) : plainI m xs ys = ys := by
  unfold plainI
  rw [if_pos ho]
  split
  · rename_i e
    exact (List.eq_nil_of_length_eq_zero e).symm
  · rename_i e
    unfold plainW
    rw [nodesW_map xs ys e]
    have := plainFrom_self (p := ys) (hn (fun e' => e (by rw [e']; rfl))) (by simp) (ys.length + 1) 0 (by omega) (by omega)
    simpa using this

/-- All that the law asks of a best way. -/
theorem near_gone {m : Int} {xs : List ArcD} {a b : Int} (h : nearWB m xs a b = true) : okB m xs (nearWI m xs a b) = true ∧ costI m xs (nearWI m xs a b) = at_ (nearI m xs a) b ∧ plainI m xs (nearWI m xs a b) = nearWI m xs a b ∧
    (nearWI m xs a b = [] → a = b) ∧ (nearWI m xs a b ≠ [] → (arcOf xs (numOf (nearWI m xs a b) 0)).f = a ∧ (arcOf xs (numOf (nearWI m xs a b) ((nearWI m xs a b).length - 1))).t = b) ∧ (nearWI m xs a b).length ≤ 20 ∧ (nearI m xs a).length = m.toNat ∧ 0 ≤ b ∧ b < m ∧ ∃ M : Nat, m = M := by
  rw [nearWB, Bool.and_eq_true] at h
  obtain ⟨hB, hF⟩ := h
  obtain ⟨hN, ha, hb⟩ := (hereB2_iff _ _ _ _).1 hB
  obtain ⟨M, rfl, h3, h8⟩ := here_nat hN
  rw [Int.toNat_natCast] at hF
  have hF : farB M xs b a = false := by simpa using hF
  have hT := treeL_of (arcsIn_net hN) hb (by omega)
  have hf : lab (labsOf M xs b) a ≠ farL := by simpa [farB] using hF
  have hw : nearWI (M : Int) xs a b = wayL xs (labsOf M xs b) b a := by rw [nearWI, hB, if_pos rfl, Int.toNat_natCast, wayM, hF, if_neg (by simp)]
  have hbd := hT.bound a ha.1 ha.2
  have g := hT.gone (lab (labsOf M xs b) a).x1.toNat a ha.1 ha.2 hf (by omega)
  have hfew := hT.way_few a ha.1 ha.2 hf
  have hhere : hereB (M : Int) xs a = true := (hereB_iff _ _ _).2 ⟨hN, ha⟩
  have hnear : nearI (M : Int) xs a = nearL M xs a := by rw [nearI, hhere, if_pos rfl, Int.toNat_natCast]
  rw [hw, hnear]
  generalize hys : wayL xs (labsOf M xs b) b a = ys at g hfew ⊢
  have hfirst : ys ≠ [] → (arcOf xs (numOf ys 0)).f = a := fun e => by
    cases ys with
    | nil => exact absurd rfl e
    | cons y ys => rw [numOf_zero]; exact g.chain.2.1
  have ho : okB (M : Int) xs ys = true := by
    unfold okB
    rw [hN, Bool.true_and, walkB_iff]
    exact ⟨by omega, fun k hk => g.chain.step k hk⟩
  refine ⟨ho, ?_, ?_, g.none, fun e => ⟨hfirst e, g.last e⟩, by omega, by rw [nearL_length, Int.toNat_natCast], hb.1, hb.2, M, rfl⟩
  · unfold costI
    rw [if_pos ho, sumTo_all, g.cost, ← hT.near_at a ha.1 ha.2]
    exact (near_back (by omega) (arcsIn_net hN) ha hb).symm
  · exact plain_self ho (fun e => by rw [hfirst e]; exact g.nodup)

end Go.Proofs.Ytaojognjkiifmaa

namespace Go.Proofs.Ytaojognjkiifmaa

/-- Numbers are nodes of a net that is ok, and not too many. -/
def listB (m : Int) (xs : List ArcD) (ys : List Int) : Bool := netB m xs && (decide (ys.length ≤ 8) && ys.all (fun z => inB z 0 (m - 1)))

theorem listB_iff (m : Int) (xs : List ArcD) (ys : List Int) : listB m xs ys = true ↔ netB m xs = true ∧ ys.length ≤ 8 ∧ ∀ y ∈ ys, 0 ≤ y ∧ y < m := by
  simp only [listB, Bool.and_eq_true, decide_eq_true_eq, List.all_eq_true, inB_iff]
  constructor
  · rintro ⟨h1, h2, h3⟩
    exact ⟨h1, h2, fun y hy => by have := h3 y hy; omega⟩
  · rintro ⟨h1, h2, h3⟩
    exact ⟨h1, h2, fun y hy => by have := h3 y hy; omega⟩

/-- Which of the first k numbers is least, and how much that is: -1 and Far, if none is less than Far. -/
def least (cs : List Int) : Nat → Int × Int
  | 0 => (-1, 99999)
  | k + 1 => if at_ cs (k : Int) < (least cs k).2 then ((k : Int), at_ cs (k : Int)) else least cs k

theorem least_bd (cs : List Int) : ∀ k : Nat, -1 ≤ (least cs k).1 ∧ (least cs k).1 < k ∧ (least cs k).2 ≤ 99999
  | 0 => by simp [least]
  | k + 1 => by
    have ih := least_bd cs k
    unfold least
    split
    · simp only; omega
    · omega

theorem least_le (cs : List Int) : ∀ k i : Nat, i < k → (least cs k).2 ≤ at_ cs (i : Int)
  | 0, i, h => by omega
  | k + 1, i, h => by
    have ih := least_le cs k
    unfold least
    by_cases e : i = k
    · subst e
      split
      · exact Int.le_refl _
      · omega
    · have := ih i (by omega)
      split
      · simp only; omega
      · exact this

theorem least_first (cs : List Int) : ∀ k i : Nat, i < k → (i : Int) < (least cs k).1 → (least cs k).2 < at_ cs (i : Int)
  | 0, i, h => by omega
  | k + 1, i, h => by
    have ih := least_first cs k
    have hle := least_le cs k
    have hbd := least_bd cs k
    unfold least
    split
    · intro h2
      simp only at h2 ⊢
      have := hle i (by omega)
      omega
    · intro h2
      exact ih i (by omega) h2

theorem least_at (cs : List Int) : ∀ k : Nat, ((least cs k).1 = -1 ∧ (least cs k).2 = 99999) ∨ ∃ j : Nat, j < k ∧ (least cs k).1 = j ∧ at_ cs (j : Int) = (least cs k).2
  | 0 => by simp [least]
  | k + 1 => by
    have ih := least_at cs k
    unfold least
    split
    · exact .inr ⟨k, by omega, rfl, rfl⟩
    · rcases ih with h | ⟨j, h1, h2⟩
      · exact .inl h
      · exact .inr ⟨j, by omega, h2⟩

theorem least_next_lt {cs : List Int} {k : Nat} {z : Int} (hz : at_ cs (k : Int) = z) (h : z < (least cs k).2) : least cs (k + 1) = ((k : Int), z) := by
  subst hz
  simp only [least, if_pos h]
theorem least_next_ge {cs : List Int} {k : Nat} {z : Int} (hz : at_ cs (k : Int) = z) (h : ¬ z < (least cs k).2) : least cs (k + 1) = least cs k := by
  subst hz
  simp only [least, if_neg h]

/-- What it costs from a node to each of a list. -/
def costsL (m : Int) (xs : List ArcD) (s : Int) (ys : List Int) : List Int := ys.map (at_ (nearL m.toNat xs s))

theorem at_map {f : Int → Int} {ys : List Int} {k : Nat} {y : Int} (h : ys[k]? = some y) : at_ (ys.map f) (k : Int) = f y := by
  simp [at_, h]

/-- Which of a list of nodes is nearest, and what that costs. -/
def manyW (m : Int) (xs : List ArcD) (s : Int) (ys : List Int) : Int := if listB m xs ys && inB s 0 (m - 1) then (least (costsL m xs s ys) ys.length).1 else -1
def manyC (m : Int) (xs : List ArcD) (s : Int) (ys : List Int) : Int := if listB m xs ys && inB s 0 (m - 1) then (least (costsL m xs s ys) ys.length).2 else -1

end Go.Proofs.Ytaojognjkiifmaa

namespace Go.Proofs.Ytaojognjkiifmaa
open Go.RowKit

/-- What can be reached costs little. -/
theorem nearL_small {m : Nat} {xs : List ArcD} {s v : Int} (hm : m ≤ 17) (hx : ArcsIn m xs) (hs : 0 ≤ s ∧ s < m) (hv : 0 ≤ v ∧ v < m) (h : at_ (nearL m xs s) v ≠ 99999) : at_ (nearL m xs s) v ≤ 11200 := by
  obtain ⟨_, h2⟩ := (nearL_sound hx hs).2 v hv.1 hv.2
  rcases h2 with h2 | ⟨l, h2⟩
  · exact absurd h2 h
  · obtain ⟨c2, l2, h1, _, _, h4⟩ := h2.simple hx
    have hf := h1.few hx hs h4
    have hc := h1.cost hx
    have := nearL_le hm hx hs h1
    omega

theorem near_tri {m : Nat} {xs : List ArcD} {s u v : Int} (hm : m ≤ 17) (hx : ArcsIn m xs) (hs : 0 ≤ s ∧ s < m) (hu : 0 ≤ u ∧ u < m) (hv : 0 ≤ v ∧ v < m) : at_ (nearL m xs s) v ≤ at_ (nearL m xs s) u + at_ (nearL m xs u) v := by
  have b1 := nearL_bound hx hs hu
  have b2 := nearL_bound hx hu hv
  have b3 := nearL_bound hx hs hv
  by_cases h1 : at_ (nearL m xs s) u < farI
  · by_cases h2 : at_ (nearL m xs u) v < farI
    · exact near_over hm hx hs hu hv h1 h2
    · omega
  · omega

/-- How much more one distance is than another one. -/
def surI (a b : Int) : Int := if b = 99999 then 0 else if 49999 < a - b then 99999 else a - b
/-- What is known of one mark: d from it, b to it. -/
def lessM (d b : List Int) (f t : Int) : Int :=
  let p := if at_ d f < 99999 ∧ 0 < at_ d t - at_ d f then at_ d t - at_ d f else 0
  let q := if at_ b t < 99999 ∧ p < at_ b f - at_ b t then at_ b f - at_ b t else p
  if 49999 < q then 99999 else q
theorem sur_less {d b : List Int} {f t z : Int} (h1 : 0 ≤ at_ d f ∧ at_ d f ≤ 99999) (h2 : 0 ≤ at_ d t ∧ at_ d t ≤ 99999) (h3 : 0 ≤ at_ b f ∧ at_ b f ≤ 99999) (h4 : 0 ≤ at_ b t ∧ at_ b t ≤ 99999) (hz : 0 ≤ z) :
    max (max z (surI (at_ d t) (at_ d f))) (surI (at_ b f) (at_ b t)) = max z (lessM d b f t) := by
  unfold surI lessM
  simp only
  split <;> split <;> (repeat' split) <;> omega
theorem lessM_bound {d b : List Int} {f t : Int} (_h1 : 0 ≤ at_ d f ∧ at_ d f ≤ 99999) (_h2 : 0 ≤ at_ d t ∧ at_ d t ≤ 99999) (_h3 : 0 ≤ at_ b f ∧ at_ b f ≤ 99999) (_h4 : 0 ≤ at_ b t ∧ at_ b t ≤ 99999) :
    0 ≤ lessM d b f t ∧ lessM d b f t ≤ 99999 := by
  unfold lessM
  simp only
  repeat' split
  all_goals omega

/-- What is known of the first k marks. -/
def boundTo (M : Nat) (xs : List ArcD) (ks : List Int) (f t : Int) : Nat → Int
  | 0 => 0
  | k + 1 => max (boundTo M xs ks f t k) (lessM (nearL M xs (at_ ks (k : Int))) (nearL M (xs.map flip) (at_ ks (k : Int))) f t)
def boundI (m : Int) (xs : List ArcD) (ks : List Int) (f t : Int) : Int := if listB m xs ks && (inB f 0 (m - 1) && inB t 0 (m - 1)) then boundTo m.toNat xs ks f t ks.length else -1

theorem at_mem {ks : List Int} {k : Nat} (h : k < ks.length) : at_ ks (k : Int) ∈ ks := by
  have : at_ ks (k : Int) = ks[k] := by simp [at_, h]
  rw [this]
  exact List.getElem_mem h

section
variable {M : Nat} {xs : List ArcD} {ks : List Int} {f t : Int}
theorem four (hx : ArcsIn M xs) (hf : 0 ≤ f ∧ f < M) (ht : 0 ≤ t ∧ t < M) {s : Int} (hs : 0 ≤ s ∧ s < M) :
    (0 ≤ at_ (nearL M xs s) f ∧ at_ (nearL M xs s) f ≤ 99999) ∧ (0 ≤ at_ (nearL M xs s) t ∧ at_ (nearL M xs s) t ≤ 99999) ∧ (0 ≤ at_ (nearL M (xs.map flip) s) f ∧ at_ (nearL M (xs.map flip) s) f ≤ 99999) ∧ (0 ≤ at_ (nearL M (xs.map flip) s) t ∧ at_ (nearL M (xs.map flip) s) t ≤ 99999) :=
  ⟨nearL_bound hx hs hf, nearL_bound hx hs ht, nearL_bound (arcsIn_back hx) hs hf, nearL_bound (arcsIn_back hx) hs ht⟩
theorem boundTo_bound (hx : ArcsIn M xs) (hk : ∀ y ∈ ks, 0 ≤ y ∧ y < M) (hf : 0 ≤ f ∧ f < M) (ht : 0 ≤ t ∧ t < M) : ∀ k, k ≤ ks.length → 0 ≤ boundTo M xs ks f t k ∧ boundTo M xs ks f t k ≤ 99999
  | 0, _ => by unfold boundTo; omega
  | k + 1, h => by
    have ih := boundTo_bound hx hk hf ht k (by omega)
    obtain ⟨h1, h2, h3, h4⟩ := four hx hf ht (hk _ (at_mem (ks := ks) (k := k) (by omega)))
    have := lessM_bound h1 h2 h3 h4
    unfold boundTo
    omega
/-- One mark says no more than what it costs. -/
theorem lessM_le (hM : M ≤ 17) (hx : ArcsIn M xs) (hf : 0 ≤ f ∧ f < M) (ht : 0 ≤ t ∧ t < M) {s : Int} (hs : 0 ≤ s ∧ s < M) :
    lessM (nearL M xs s) (nearL M (xs.map flip) s) f t ≤ at_ (nearL M xs f) t := by
  obtain ⟨h1, h2, h3, h4⟩ := four hx hf ht hs
  have c1 := near_tri hM hx hs hf ht
  have c2 := near_tri hM hx hf ht hs
  have e1 := near_back hM hx hf hs
  have e2 := near_back hM hx ht hs
  have b0 := nearL_bound hx hf ht
  have s1 := fun h => nearL_small hM hx hs hf h
  have s2 := fun h => nearL_small hM (arcsIn_back hx) hs ht h
  have s3 := fun h => nearL_small hM hx hf ht h
  unfold lessM
  simp only
  unfold farI at *
  rw [e1, e2] at c2
  repeat' split
  all_goals omega
theorem boundTo_le (hM : M ≤ 17) (hx : ArcsIn M xs) (hk : ∀ y ∈ ks, 0 ≤ y ∧ y < M) (hf : 0 ≤ f ∧ f < M) (ht : 0 ≤ t ∧ t < M) : ∀ k, k ≤ ks.length → boundTo M xs ks f t k ≤ at_ (nearL M xs f) t
  | 0, _ => by
    have := nearL_bound hx hf ht
    unfold boundTo
    omega
  | k + 1, h => by
    have ih := boundTo_le hM hx hk hf ht k (by omega)
    have := lessM_le hM hx hf ht (hk _ (at_mem (ks := ks) (k := k) (by omega)))
    unfold boundTo
    omega
/-- The first node as a mark says what it costs. -/
theorem lessM_self (hM : M ≤ 17) (hx : ArcsIn M xs) (hf : 0 ≤ f ∧ f < M) (ht : 0 ≤ t ∧ t < M) :
    lessM (nearL M xs f) (nearL M (xs.map flip) f) f t = at_ (nearL M xs f) t := by
  have hle := lessM_le hM hx hf ht hf
  obtain ⟨h1, h2, h3, h4⟩ := four hx hf ht hf
  have e0 := nearL_start hM hx hf
  have e1 := nearL_start hM (arcsIn_back hx) hf
  have s3 := fun h => nearL_small hM hx hf ht h
  unfold lessM at hle ⊢
  simp only at hle ⊢
  rw [e0, e1] at hle ⊢
  repeat' split at hle
  all_goals (repeat' split) <;> omega
theorem boundTo_app (js : List Int) : ∀ k, k ≤ ks.length → boundTo M xs (ks ++ js) f t k = boundTo M xs ks f t k
  | 0, _ => rfl
  | k + 1, h => by
    have ih := boundTo_app js k (by omega)
    have e : at_ (ks ++ js) (k : Int) = at_ ks (k : Int) := by simp [at_, List.getD_eq_getElem?_getD, List.getElem?_append_left (show k < ks.length by omega)]
    rw [boundTo, boundTo, ih, e]
theorem boundTo_with (hM : M ≤ 17) (hx : ArcsIn M xs) (hk : ∀ y ∈ ks, 0 ≤ y ∧ y < M) (hf : 0 ≤ f ∧ f < M) (ht : 0 ≤ t ∧ t < M) : boundTo M xs (ks ++ [f]) f t (ks.length + 1) = at_ (nearL M xs f) t := by
  have hle := boundTo_le hM hx hk hf ht ks.length (Nat.le_refl _)
  have e : at_ (ks ++ [f]) ((ks.length : Nat) : Int) = f := by simp [at_]
  rw [boundTo, boundTo_app _ _ (Nat.le_refl _), e, lessM_self hM hx hf ht]
  omega
/-- Over an arc. -/
theorem lessM_arc (hM : M ≤ 17) (hx : ArcsIn M xs) (ht : 0 ≤ t ∧ t < M) {s : Int} (hs : 0 ≤ s ∧ s < M) {a : ArcD} (ha : a ∈ xs) (hfar : lessM (nearL M xs s) (nearL M (xs.map flip) s) a.t t < 99999) :
    lessM (nearL M xs s) (nearL M (xs.map flip) s) a.f t ≤ a.c + lessM (nearL M xs s) (nearL M (xs.map flip) s) a.t t := by
  have hb := hx a ha
  have hf : 0 ≤ a.f ∧ a.f < M := ⟨hb.1, hb.2.1⟩
  have hg : 0 ≤ a.t ∧ a.t < M := ⟨hb.2.2.1, hb.2.2.2.1⟩
  obtain ⟨h1, h2, h3, h4⟩ := four hx hf ht hs
  obtain ⟨g1, _, g3, _⟩ := four hx hg ht hs
  have c1 : at_ (nearL M xs s) a.f < 99999 → at_ (nearL M xs s) a.t ≤ at_ (nearL M xs s) a.f + a.c := fun h => nearL_arc hM hx hs ha h
  have c2 : at_ (nearL M (xs.map flip) s) a.t < 99999 → at_ (nearL M (xs.map flip) s) a.f ≤ at_ (nearL M (xs.map flip) s) a.t + a.c := fun h => nearL_arc hM (arcsIn_back hx) hs (a := flip a) (List.mem_map_of_mem ha) h
  have s1 := fun h => nearL_small hM hx hs hf h
  have s2 := fun h => nearL_small hM hx hs hg h
  have s3 := fun h => nearL_small hM hx hs ht h
  have r1 := fun h => nearL_small hM (arcsIn_back hx) hs hf h
  have r2 := fun h => nearL_small hM (arcsIn_back hx) hs hg h
  have r3 := fun h => nearL_small hM (arcsIn_back hx) hs ht h
  unfold lessM at hfar ⊢
  simp only at hfar ⊢
  repeat' split at hfar
  all_goals (repeat' split) <;> omega
theorem boundTo_arc (hM : M ≤ 17) (hx : ArcsIn M xs) (hk : ∀ y ∈ ks, 0 ≤ y ∧ y < M) (ht : 0 ≤ t ∧ t < M) {a : ArcD} (ha : a ∈ xs) : ∀ k, k ≤ ks.length → boundTo M xs ks a.t t k < 99999 → boundTo M xs ks a.f t k ≤ a.c + boundTo M xs ks a.t t k
  | 0, _, _ => by
    have := hx a ha
    unfold boundTo
    omega
  | k + 1, h, hb => by
    have hs := hk _ (at_mem (ks := ks) (k := k) (by omega))
    unfold boundTo at hb ⊢
    have ih := boundTo_arc hM hx hk ht ha k (by omega) (by omega)
    have := lessM_arc hM hx ht hs ha (by omega)
    omega
theorem boundTo_self (hx : ArcsIn M xs) : ∀ k, boundTo M xs ks t t k = 0
  | 0 => rfl
  | k + 1 => by
    rw [boundTo, boundTo_self hx k]
    unfold lessM
    simp only [Int.sub_self]
    simp
end

end Go.Proofs.Ytaojognjkiifmaa

namespace Go.Proofs.Ytaojognjkiifmaa

/-- What it costs at least over a node. -/
def overI (m : Int) (xs : List ArcD) (f t o : Int) : Int := if netB m xs && (inB f 0 (m - 1) && (inB t 0 (m - 1) && inB o 0 (m - 1))) then min (at_ (nearL m.toNat xs f) o + at_ (nearL m.toNat xs o) t) 99999 else -1

/-- Each arc of the best way leads to a node that is on it. -/
theorem TreeL.over {m : Nat} {xs : List ArcD} {s : Int} {L : List LenD} (h : TreeL m xs s L) : ∀ (k : Nat) (v : Int), 0 ≤ v → v < m → lab L v ≠ farL → (lab L v).x1 = k → ∀ y ∈ wayL xs L s v, 0 ≤ y ∧ ∃ a : ArcD, xs[y.toNat]? = Option.some a ∧ lab L a.t ≠ farL ∧ ∃ c l, Way xs v a.t c l ∧ c + (lab L a.t).x0 = (lab L v).x0 := by
  intro k
  induction k with
  | zero =>
    intro v h0 h1 hf hk y hy
    have := h.way_len 0 v h0 h1 hf hk
    rw [List.eq_nil_of_length_eq_zero this] at hy
    cases hy
  | succ k ih =>
    intro v h0 h1 hf hk y hy
    have hv : v ≠ s := fun e => by rw [e, h.lab_to] at hk; simp at hk; omega
    obtain ⟨j, a, e1, e2, _, e4, e5, e6, e7, _⟩ := h.some v hv hf h0 h1
    have hm := List.mem_of_getElem? e2
    have hb := h.arcs a hm
    rw [h.wayL_step hv e1 e2 e5] at hy
    have w1 : Way xs v a.t a.c [a.f] := by have := Way.one hm; rw [e7] at this; rw [e7]; exact this
    rcases List.mem_cons.1 hy with rfl | hy
    · exact ⟨by omega, a, by simpa using e2, e4, _, _, w1, by omega⟩
    · obtain ⟨g1, b, g2, g3, c, l, g4, g5⟩ := ih a.t (by omega) (by omega) e4 (by omega) y hy
      obtain ⟨l2, w2⟩ := w1.join g4
      exact ⟨g1, b, g2, g3, _, _, w2, by omega⟩

section
variable {m : Int} {xs : List ArcD} {f t : Int}
theorem overI_at {M : Nat} (hN : netB (M : Int) xs = true) (hf : 0 ≤ f ∧ f < M) (ht : 0 ≤ t ∧ t < M) {o : Int} (ho : 0 ≤ o ∧ o < M) : overI (M : Int) xs f t o = min (at_ (nearL M xs f) o + at_ (nearL M xs o) t) 99999 := by
  unfold overI
  rw [if_pos, Int.toNat_natCast]
  simp only [Bool.and_eq_true, inB_iff]
  exact ⟨hN, by omega, by omega, by omega⟩
/-- Over a node of the best way it costs as little. -/
theorem over_way {a b : Int} (h : nearWB m xs a b = true) : ∀ y ∈ nearWI m xs a b, ∃ e, xs[y.toNat]? = some e ∧ 0 ≤ y ∧ overI m xs a b e.t = at_ (nearI m xs a) b := by
  intro y hy
  simp only [nearWB, Bool.and_eq_true, Bool.not_eq_true', hereB2_iff] at h
  obtain ⟨⟨hN, ha, hb⟩, hfar⟩ := h
  obtain ⟨M, rfl, h3, h8⟩ := here_nat hN
  have hx := arcsIn_net hN
  have hT := treeL_of hx hb h8
  rw [Int.toNat_natCast] at hfar
  have hnf : lab (labsOf M xs b) a ≠ farL := by simpa [farB] using hfar
  rw [nearWI, if_pos ((hereB2_iff _ _ _ _).2 ⟨hN, ha, hb⟩), Int.toNat_natCast, wayM, if_neg (by rw [hfar]; simp)] at hy
  have hbd := hT.bound a ha.1 ha.2
  obtain ⟨g1, e, g2, g3, c, l, g4, g5⟩ := hT.over (lab (labsOf M xs b) a).x1.toNat a ha.1 ha.2 hnf (by omega) y hy
  have hm := List.mem_of_getElem? g2
  have he := hx e hm
  refine ⟨e, g2, g1, ?_⟩
  have hn : ∀ v : Int, 0 ≤ v ∧ v < M → at_ (nearL M xs v) b = (lab (labsOf M xs b) v).x0 := fun v hv => by
    rw [near_back (by omega) hx hv hb, hT.near_at v hv.1 hv.2]
  have het : 0 ≤ e.t ∧ e.t < (M : Int) := by omega
  have h1 := nearL_le (by omega) hx ha g4
  have h2 := near_tri (by omega) hx ha het hb
  have h4 := (hT.bound a ha.1 ha.2).2.2.2.2.resolve_left hnf
  have e1 := hn a ha
  have e2 := hn e.t het
  rw [overI_at hN ha hb het, nearI, if_pos ((hereB_iff _ _ _).2 ⟨hN, ha⟩), Int.toNat_natCast]
  omega
theorem over_least {M : Nat} (hN : netB (M : Int) xs = true) (hf : 0 ≤ f ∧ f < M) (ht : 0 ≤ t ∧ t < M) {o : Int} (ho : 0 ≤ o ∧ o < M) : at_ (nearL M xs f) t ≤ overI (M : Int) xs f t o := by
  have hM := ((netB_iff _ _).1 hN).1
  have hx := arcsIn_net hN
  have h1 := near_tri (by omega) hx hf ho ht
  have h2 := nearL_bound hx hf ht
  unfold farI at h2
  rw [overI_at hN hf ht ho]
  omega
theorem over_first {M : Nat} (hN : netB (M : Int) xs = true) (hf : 0 ≤ f ∧ f < M) (ht : 0 ≤ t ∧ t < M) : overI (M : Int) xs f t f = at_ (nearL M xs f) t := by
  have hM := ((netB_iff _ _).1 hN).1
  have hx := arcsIn_net hN
  have h1 := nearL_start (by omega) hx hf
  have h2 := nearL_bound hx hf ht
  unfold farI at h2
  rw [overI_at hN hf ht hf]
  omega
theorem over_last {M : Nat} (hN : netB (M : Int) xs = true) (hf : 0 ≤ f ∧ f < M) (ht : 0 ≤ t ∧ t < M) : overI (M : Int) xs f t t = at_ (nearL M xs f) t := by
  have hM := ((netB_iff _ _).1 hN).1
  have hx := arcsIn_net hN
  have h1 := nearL_start (by omega) hx ht
  have h2 := nearL_bound hx hf ht
  unfold farI at h2
  rw [overI_at hN hf ht ht]
  omega
end

end Go.Proofs.Ytaojognjkiifmaa

namespace Go.Proofs.Ytaojognjkiifmaa
open Go.RowKit

/-- What the specification tells. -/
theorem over_sum {M : Nat} {xs : List ArcD} {f t o : Int} (hN : netB (M : Int) xs = true) (hf : 0 ≤ f ∧ f < M) (ht : 0 ≤ t ∧ t < M) (ho : 0 ≤ o ∧ o < M) :
    overI (M : Int) xs f t o = if 99999 ≤ at_ (nearL M xs f) o then 99999 else if 99999 ≤ at_ (nearL M xs o) t then 99999 else at_ (nearL M xs f) o + at_ (nearL M xs o) t := by
  have hM := ((netB_iff _ _).1 hN).1
  have hx := arcsIn_net hN
  rw [overI_at hN hf ht ho]
  have b1 := nearL_bound hx hf ho
  have b2 := nearL_bound hx ho ht
  have s1 := nearL_small (by omega) hx hf ho
  have s2 := nearL_small (by omega) hx ho ht
  unfold farI at b1 b2
  split
  · omega
  · split
    · omega
    · have := s1 (by omega)
      have := s2 (by omega)
      omega

set_option maxRecDepth 100000 in
set_option maxHeartbeats 2000000 in
theorem specBothOver_any (m : Int) (A : Option Addr) (n c : Nat) (xs : List ArcD) (a b o : Int) (w : World) (hn : n ≤ 1048576) (hnx : xs.length = n) (hx : ArcsAt w A xs) :
    Calls Try.prog 39 #[.agg #[.int .i64 m, .slice A n c], .int .i64 a, .int .i64 b, .int .i64 o] w fun e w' => e = .returned (.int .i64 (overI m xs a b o)) ∧ Below w.heap.size w w' := by
  have HX := Lib.hid hnx
  clear hnx
  have hb0 : Past w (w.alloc (.cells #[.int .i64 m, .slice A n c] 32)) := (Past.refl _).alloc _
  go_enter Try.func39, Try.ntmps39
  go_wp2_with fail
  refine (l1Ok_any m A n c xs _ hn HX.out (hx.below hb0)).mono ?_
  rintro e W ⟨rfl, hb1⟩
  have b0 := cell_in (p := ⟨w.heap.size, 0, none⟩) (v := .int .i64 m) hb1 (by go_simp)
  have b1 := cell_in (p := ⟨w.heap.size, 1, none⟩) (v := .slice A n c) hb1 (by go_simp)
  have hxW := (hx.below hb0).below hb1
  have hpW := hb0.trans hb1
  clear hb0 hb1
  cases hB : netB m xs with
  | false =>
    have HB := Lib.hid hB
    clear hB
    go_wp2
    go_ret
    exact ⟨ret_int (by rw [overI, HB.out]; rfl), hpW⟩
  | true =>
  obtain ⟨M, rfl, h1, h8⟩ := here_nat hB
  have h16 : n ≤ 16 := by rw [← HX.out]; exact ((netB_iff _ _).1 hB).2.1
  have HB := Lib.hid hB
  clear hB
  go_wp2_with fail
  refine (l1In_any _ _ _ _).mono ?_
  rintro e w2 ⟨rfl, rfl⟩
  cases hI : inB a 0 ((M : Int) - 1) with
  | false =>
    have HI := Lib.hid hI
    clear hI
    go_wp2
    go_ret
    exact ⟨ret_int (by rw [overI, HB.out, HI.out]; rfl), hpW⟩
  | true =>
  have HI := Lib.hid hI
  have ha := (inB_iff _ _ _).1 hI
  clear hI
  go_wp2_with fail
  refine (l1In_any _ _ _ _).mono ?_
  rintro e w3 ⟨rfl, rfl⟩
  cases hJ : inB b 0 ((M : Int) - 1) with
  | false =>
    have HJ := Lib.hid hJ
    clear hJ
    go_wp2
    go_ret
    exact ⟨ret_int (by rw [overI, HB.out, HI.out, HJ.out]; rfl), hpW⟩
  | true =>
  have HJ := Lib.hid hJ
  have hb := (inB_iff _ _ _).1 hJ
  clear hJ
  go_wp2_with fail
  refine (l1In_any _ _ _ _).mono ?_
  rintro e w4 ⟨rfl, rfl⟩
  cases hK : inB o 0 ((M : Int) - 1) with
  | false =>
    have HK := Lib.hid hK
    clear hK
    go_wp2
    go_ret
    exact ⟨ret_int (by rw [overI, HB.out, HI.out, HJ.out, HK.out]; rfl), hpW⟩
  | true =>
  have ho := (inB_iff _ _ _).1 hK
  clear hK
  have hv := over_sum (f := a) (t := b) (o := o) HB.out (by omega) (by omega) (by omega)
  have HV := Lib.hid hv
  clear hv
  have o0 : 0 ≤ o := by omega
  have o1 : o < (M : Int) := by omega
  have t0 : 0 ≤ b := by omega
  have t1 : b < (M : Int) := by omega
  go_wp2_with fail
  refine (l3All_any M a A n c xs _ h8 HX.out (by omega) hxW (arcsIn_net HB.out) (by omega)).mono ?_
  rintro e w5 ⟨v5, rfl, hv5, hb5⟩
  obtain ⟨D, cd, rfl, hd5, _⟩ := hv5.form
  rw [nearL_length]
  obtain ⟨g5, o5, rfl, c5⟩ := hd5 o.toNat _ (getElem_at _ o.toNat (by rw [nearL_length]; omega))
  rw [show ((o.toNat : Nat) : Int) = o by omega] at c5
  obtain ⟨p, hp⟩ : ∃ p, p = at_ (nearL M xs a) o := ⟨_, rfl⟩
  rw [← hp] at c5 HV
  have q1 := nearL_bound (arcsIn_net HB.out) (s := a) (v := o) (m := M) (by omega) (by omega)
  rw [← hp] at q1
  clear hp
  have b0 := cell_in hb5 b0
  have b1 := cell_in hb5 b1
  have hx5 := hxW.below hb5
  have hp5 := hpW.trans hb5
  clear hv5 hd5 hb5
  go_wp2_with fail
  refine (l3All_any M o A n c xs _ h8 HX.out (by omega) hx5 (arcsIn_net HB.out) (by omega)).mono ?_
  rintro e w6 ⟨v6, rfl, hv6, hb6⟩
  obtain ⟨E, ce, rfl, he6, _⟩ := hv6.form
  rw [nearL_length]
  obtain ⟨g6, o6, rfl, c6⟩ := he6 b.toNat _ (getElem_at _ b.toNat (by rw [nearL_length]; omega))
  rw [show ((b.toNat : Nat) : Int) = b by omega] at c6
  obtain ⟨q, hq⟩ : ∃ q, q = at_ (nearL M xs o) b := ⟨_, rfl⟩
  rw [← hq] at c6 HV
  have hp6 := hp5.trans hb6
  have q2 := nearL_bound (arcsIn_net HB.out) (s := o) (v := b) (m := M) (by omega) (by omega)
  rw [← hq] at q2
  unfold farI at q1 q2
  have s1 : IntKind.i64.wrap (p + q) = p + q := IntWalk.i64_in _ (by omega)
  clear hv6 he6 hb6 hq
  by_cases e1 : 99999 ≤ p
  · go_wp2
    go_ret
    exact ⟨ret_int (by rw [HV.out, if_pos e1]), hp6⟩
  · by_cases e2 : 99999 ≤ q
    · go_wp2
      go_ret
      exact ⟨ret_int (by rw [HV.out, if_neg (by omega), if_pos (by omega)]), hp6⟩
    · go_wp2
      go_ret
      exact ⟨ret_int (by rw [HV.out, if_neg (by omega), if_neg (by omega)]), hp6⟩

end Go.Proofs.Ytaojognjkiifmaa

namespace Go.Proofs.Ytaojognjkiifmaa
open Go.RowKit

set_option maxRecDepth 100000 in
set_option maxHeartbeats 2000000 in
theorem implBothOver_any (m : Int) (A : Option Addr) (n c : Nat) (xs : List ArcD) (a b o : Int) (w : World) (hn : n ≤ 1048576) (hnx : xs.length = n) (hx : ArcsAt w A xs) :
    Calls Try.prog 40 #[.agg #[.int .i64 m, .slice A n c], .int .i64 a, .int .i64 b, .int .i64 o] w fun e w' => e = .returned (.int .i64 (overI m xs a b o)) ∧ Below w.heap.size w w' := by
  have HX := Lib.hid hnx
  clear hnx
  have hb0 : Past w ((w.alloc (.cells #[.int .i64 m, .slice A n c] 32)).alloc (.cells #[.int .i64 a, .int .i64 b, .int .i64 o] 3)) := ((Past.refl _).alloc _).alloc _
  have hz : IntsAt ((w.alloc (.cells #[.int .i64 m, .slice A n c] 32)).alloc (.cells #[.int .i64 a, .int .i64 b, .int .i64 o] 3)) (some ⟨w.heap.size + 1, 0, none⟩) [a, b, o] := fun k y hk => by
    rcases k with _ | _ | _ | k
    · simp at hk; subst hk; exact ⟨_, _, rfl, by go_simp⟩
    · simp at hk; subst hk; exact ⟨_, _, rfl, by go_simp⟩
    · simp at hk; subst hk; exact ⟨_, _, rfl, by go_simp⟩
    · simp at hk
  go_enter Try.func40, Try.ntmps40
  go_wp2_with fail
  refine (netHas_any m A n c xs _ 3 3 [a, b, o] _ hn HX.out (hx.below hb0) (by omega) rfl hz).mono ?_
  rintro e w1 ⟨rfl, hb1⟩
  have b0 := cell_in (p := ⟨w.heap.size, 0, none⟩) (v := .int .i64 m) hb1 (by go_simp)
  have b1 := cell_in (p := ⟨w.heap.size, 1, none⟩) (v := .slice A n c) hb1 (by go_simp)
  have hx1 := (hx.below hb0).below hb1
  have hp1 := hb0.trans hb1
  have hH : (netB m xs && [a, b, o].all (fun z => inB z 0 (m - 1))) = (netB m xs && (inB a 0 (m - 1) && (inB b 0 (m - 1) && inB o 0 (m - 1)))) := by simp
  rw [hH]
  clear hH hb0 hz hb1
  cases hB : (netB m xs && (inB a 0 (m - 1) && (inB b 0 (m - 1) && inB o 0 (m - 1)))) with
  | false =>
    have HB := Lib.hid hB
    clear hB
    go_wp2
    go_ret
    exact ⟨ret_int (by rw [overI, HB.out]; rfl), hp1⟩
  | true =>
  have HB := Lib.hid hB
  simp only [Bool.and_eq_true, inB_iff] at hB
  obtain ⟨hN, ha, hb, ho⟩ := hB
  obtain ⟨M, rfl, h3, h8⟩ := here_nat hN
  have hM8 : M ≤ 8 := by omega
  have hv := overI_at (f := a) (t := b) (o := o) hN (by omega) (by omega) (by omega)
  have h1 : nearI (M : Int) xs a = nearL M xs a := by rw [nearI, if_pos ((hereB_iff _ _ _).2 ⟨hN, by omega, by omega⟩), Int.toNat_natCast]
  have h2 : nearI (M : Int) xs o = nearL M xs o := by rw [nearI, if_pos ((hereB_iff _ _ _).2 ⟨hN, by omega, by omega⟩), Int.toNat_natCast]
  have HV := Lib.hid hv
  have C1 := Lib.hid (fun q : PastOf w1 => implNearAll_any (M : Int) A n c xs a q.W hn HX.out (hx1.below q.h))
  have C2 := Lib.hid (fun q : PastOf w1 => implNearAll_any (M : Int) A n c xs o q.W hn HX.out (hx1.below q.h))
  rw [h1] at C1
  rw [h2] at C2
  have HN := Lib.hid hN
  have o0 : 0 ≤ o := by omega
  have o1 : o < (M : Int) := by omega
  have t0 : 0 ≤ b := by omega
  have t1 : b < (M : Int) := by omega
  obtain ⟨p, hp⟩ : ∃ p, p = at_ (nearL M xs a) o := ⟨_, rfl⟩
  obtain ⟨q, hq⟩ : ∃ q, q = at_ (nearL M xs o) b := ⟨_, rfl⟩
  have q1 := nearL_bound (arcsIn_net hN) (s := a) (v := o) (m := M) (by omega) (by omega)
  have q2 := nearL_bound (arcsIn_net hN) (s := o) (v := b) (m := M) (by omega) (by omega)
  rw [← hp] at q1
  rw [← hq] at q2
  unfold farI at q1 q2
  have s1 : IntKind.i64.wrap (p + q) = p + q := IntWalk.i64_in _ (by omega)
  have G1 : Hid ((nearL M xs a)[o.toNat]? = some p) := by rw [Hid, getElem_at _ o.toNat (by rw [nearL_length]; omega), show ((o.toNat : Nat) : Int) = o by omega, hp]
  have G2 : Hid ((nearL M xs o)[b.toNat]? = some q) := by rw [Hid, getElem_at _ b.toNat (by rw [nearL_length]; omega), show ((b.toNat : Nat) : Int) = b by omega, hq]
  have HVV : Hid (overI (M : Int) xs a b o = min (p + q) 99999) := by rw [Hid, HV.out, hp, hq]
  clear hv h1 h2 hN hp hq HV HB
  go_wp2_with fail
  go_region_with (first
      | (go_at_call 30; (with_reducible refine (C1.out ⟨w1.drew, (Past.refl w1).drew⟩).mono ?_); rintro e w2 ⟨v2, rfl, hv2, hb2⟩; obtain ⟨D, cd, rfl, hd2, _⟩ := hv2.form; rw [nearL_length]; obtain ⟨g2, o2, rfl, c2⟩ := hd2 o.toNat p G1.out; have b0 := cell_in hb2 b0; have b1 := cell_in hb2 b1; have hp12 : Past w1 w2 := (Past.refl w1).drew.trans hb2; clear hv2 hd2)
      | (go_at_call 30; (with_reducible refine (C2.out ⟨w2, hp12⟩).mono ?_); rintro e w3 ⟨v3, rfl, hv3, hb3⟩; obtain ⟨E, ce, rfl, hd3, _⟩ := hv3.form; rw [nearL_length]; obtain ⟨g3, o3, rfl, c3⟩ := hd3 b.toNat q G2.out; have b0 := cell_in hb3 b0; have b1 := cell_in hb3 b1; have c2 := cell_in hb3 c2; clear hv3 hd3))
  all_goals go_wp2
  all_goals go_ret
  all_goals exact ⟨ret_int (by rw [HVV.out]), (hp1.trans hp12).trans hb3⟩

end Go.Proofs.Ytaojognjkiifmaa

namespace Go.Proofs.Ytaojognjkiifmaa
open Go.RowKit

set_option maxRecDepth 100000 in
set_option maxHeartbeats 2000000 in
theorem implNearWalk_all (m : Int) (A : Option Addr) (n c : Nat) (xs : List ArcD) (a b : Int) (w : World) (hn : n ≤ 1048576) (hnx : xs.length = n) (hx : ArcsAt w A xs) (ho : (A = none ∧ n = 0) ∨ ∃ g o, A = some ⟨g, o, none⟩) :
    Calls Try.prog 42 #[.agg #[.int .i64 m, .slice A n c], .int .i64 a, .int .i64 b] w (GivesB w (nearWI m xs a b) (nearWB m xs a b)) := by
  have HX := Lib.hid hnx
  clear hnx
  obtain ⟨i0, hi, hz0, hz1, hz2⟩ := info_parts infoInt
  go_enter Try.func42, Try.ntmps42
  have hb0 : Past w ((w.alloc (.cells #[.int .i64 m, .slice A n c] 32)).alloc (.cells #[.int .i64 a, .int .i64 b] 3)) := ((Past.refl _).alloc _).alloc _
  have hz : IntsAt ((w.alloc (.cells #[.int .i64 m, .slice A n c] 32)).alloc (.cells #[.int .i64 a, .int .i64 b] 3)) (some ⟨w.heap.size + 1, 0, none⟩) [a, b] := fun k y hk => by
    match k, hk with
    | 0, hk => simp at hk; subst hk; exact ⟨_, _, rfl, by go_simp⟩
    | 1, hk => simp at hk; subst hk; exact ⟨_, _, rfl, by go_simp⟩
    | k + 2, hk => simp at hk
  go_wp2_with fail
  refine (netHas_any m A n c xs _ 2 2 [a, b] _ hn HX.out (hx.below hb0) (by omega) rfl hz).mono ?_
  rintro e w1 ⟨rfl, hb1⟩
  have b0 := cell_in (p := ⟨w.heap.size, 0, none⟩) (v := .int .i64 m) hb1 (by go_simp)
  have b1 := cell_in (p := ⟨w.heap.size, 1, none⟩) (v := .slice A n c) hb1 (by go_simp)
  have hx1 := (hx.below hb0).below hb1
  have hp1 := hb0.trans hb1
  have hH : (netB m xs && [a, b].all (fun z => inB z 0 (m - 1))) = hereB2 m xs a b := by simp [hereB2, hereB, Bool.and_assoc]
  rw [hH]
  clear hH hb0 hz hb1
  cases hB : hereB2 m xs a b with
  | false =>
    have HB := Lib.hid hB
    clear hB
    go_wp2
    refine bodyPost_ret (v := .tuple #[.slice none 0 0, .bool false]) (by simp [results, Try.results42, go_sem]) rfl ?_
    exact ⟨_, by rw [nearWB, HB.out]; rfl, by rw [nearWI, HB.out]; exact Res.nil _ _, hp1⟩
  | true =>
    obtain ⟨hN, ⟨ha0, ha1⟩, hbb0, hbb1⟩ := (hereB2_iff _ _ _ _).1 hB
    obtain ⟨M, rfl, h3, h8⟩ := here_nat hN
    have hbh : hereB (M : Int) xs b = true := (hereB_iff _ _ _).2 ⟨hN, hbb0, hbb1⟩
    have h16 : n ≤ 16 := by rw [← HX.out]; exact ((netB_iff _ _).1 hN).2.1
    have HBH := Lib.hid hbh
    have HB := Lib.hid hB
    have HN := Lib.hid hN
    have HT := Lib.hid (treeL_of (arcsIn_net hN) ⟨hbb0, hbb1⟩ (by omega))
    clear hB hN hbh
    go_wp2_with fail
    refine (implNearTree_all (M : Int) A n c xs b _ hn HX.out hx1 ho).mono ?_
    rintro e W ⟨v2, rfl, hv2, hb2⟩
    have b0 := cell_in hb2 b0
    have b1 := cell_in hb2 b1
    have hxW := hx1.below hb2
    have hpW := hp1.trans hb2
    obtain ⟨Z, cz, rfl, hz2', _⟩ := hv2.form
    have htr : treeTI (M : Int) xs b = treeM M xs b := by rw [treeTI, HBH.out, if_pos rfl, Int.toNat_natCast]
    rw [htr, treeM_length]
    rw [htr] at hz2'
    have hcell : ∀ v : Int, 0 ≤ v → v < M → ∃ g o, Z = some ⟨g, o, none⟩ ∧ W.cell? ⟨g, o + v.toNat, none⟩ = some (.int .i64 (treeI xs (labsOf M xs b) v)) := fun v h0 h1 => by
      obtain ⟨g, o, e, h⟩ := hz2' v.toNat _ (treeM_get M xs b (v := v.toNat) (by omega))
      refine ⟨g, o, e, ?_⟩
      rw [h, show ((v.toNat : Nat) : Int) = v by omega]
    obtain ⟨gZ, oZ, rfl, _⟩ := hcell b hbb0 hbb1
    have hcell2 : ∀ v : Int, 0 ≤ v → v < M → W.cell? ⟨gZ, oZ + v.toNat, none⟩ = some (.int .i64 (treeI xs (labsOf M xs b) v)) := fun v h0 h1 => by
      obtain ⟨g, o, e, h⟩ := hcell v h0 h1
      injection e with e
      injection e with e1 e2
      subst e1 e2
      exact h
    obtain ⟨L, hL⟩ : ∃ L, L = labsOf M xs b := ⟨_, rfl⟩
    have hfar : farB M xs b a = decide (lab L a = farL) := by rw [hL]; rfl
    have hway : wayM M xs a b = if farB M xs b a then [] else wayL xs L b a := by rw [hL]; rfl
    rw [← hL] at hcell2 HT
    have HC := Lib.hid hcell2
    have HWAY := Lib.hid hway
    have HFAR := Lib.hid hfar
    have hgW : gZ < W.heap.size := lt_of_cell (hcell2 b hbb0 hbb1)
    clear hcell hcell2 hz2' hv2 htr hL hway hfar hb2 hx1
    go_wp2
    go_loopw [9, 10] (fun v q wr => ∃ (at' : Int) (zs : List Int), q = .int .i64 at' ∧ 0 ≤ at' ∧ at' < M ∧ (lab L at' = farL ↔ lab L a = farL) ∧ Res wr W.heap.size v zs ∧ (lab L a ≠ farL → wayL xs L b a = zs ++ wayL xs L b at') ∧ zs.length + (lab L at').x1.toNat ≤ 7 ∧ Past W wr) (fun _ q _ => (lab L (intOf q)).x1.toNat)
    case atStart => exact ⟨a, [], rfl, ha0, ha1, Iff.rfl, Res.nil _ _, fun _ => rfl, by have := HT.out.bound a ha0 ha1; simp; omega, Past.refl _⟩
    case round =>
      obtain ⟨at', zs, rfl, t0, t1, hiff, hv, hzs, hzl, hbr⟩ := hrel
      by_cases hat : at' = b
      · subst hat
        have hne : (at' != at') = false := by simp
        have hfa : lab L a ≠ farL := fun e => by
          have := hiff.2 e
          rw [HT.out.lab_to] at this
          unfold farL farI at this
          simp at this
        have hB2 : farB M xs at' a = false := by rw [HFAR.out]; simpa using hfa
        have hzs := hzs hfa
        rw [HT.out.wayL_to, List.append_nil] at hzs
        have HZ := Lib.hid hzs
        have HB2 := Lib.hid hB2
        clear hzs hB2 hne
        go_wp2
        refine bodyPost_ret (v := .tuple #[u9, .bool true]) (by simp [results, Try.results42, go_sem]) rfl ?_
        refine ⟨_, by rw [nearWB, HB.out, Int.toNat_natCast, HB2.out]; rfl, ?_, hpW.trans hbr⟩
        rw [nearWI, HB.out, if_pos rfl, Int.toNat_natCast, HWAY.out, HB2.out, if_neg (by simp), HZ.out]
        exact hv.lower hpW.size
      · have hne : (at' != b) = true := by simpa using hat
        have cA := cell_in hbr (HC.out at' t0 t1)
        by_cases hf : lab L at' = farL
        · have hB2 : farB M xs b a = true := by rw [HFAR.out]; simpa using hiff.1 hf
          rw [HT.out.none at' (.inr hf)] at cA
          have HB2 := Lib.hid hB2
          clear hB2 hf hiff
          go_wp2
          refine bodyPost_ret (v := .tuple #[.slice none 0 0, .bool false]) (by simp [results, Try.results42, go_sem]) rfl ?_
          refine ⟨_, by rw [nearWB, HB.out, Int.toNat_natCast, HB2.out]; rfl, ?_, hpW.trans hbr⟩
          rw [nearWI, HB.out, if_pos rfl, Int.toNat_natCast, HWAY.out, HB2.out, if_pos rfl]
          exact Res.nil _ _
        · obtain ⟨j, ⟨f1, t1', c1, l1, d1⟩, e1, e2, e3, e4, e5, _, e7, e8⟩ := HT.out.some at' hat hf t0 t1
          have hstep := HT.out.wayL_step hat e1 e2 e5
          have hbt := arcsIn_net HN.out _ (List.mem_of_getElem? e2)
          simp only at e4 e5 hbt hstep
          rw [e1] at cA
          have hjn : j < n := by rw [← HX.out]; exact (List.getElem?_eq_some_iff.1 e2).1
          have hbT := HT.out.bound t1' (by omega) (by omega)
          have hjn0 : ¬ ((j : Int) < 0) := by omega
          have j0 : (0 : Int) ≤ (j : Int) := by omega
          have j1 : (j : Int) < (n : Int) := by omega
          obtain ⟨gx, ox, rfl, _, c1', _, _, _⟩ := (hxW.below hbr) j _ e2
          have hgx : gx < w.heap.size := by
            obtain ⟨g'', o'', e, hh⟩ := hx j _ e2
            injection e with e
            injection e with e1 e2
            subst e1
            exact hh.lt
          have b1' := cell_in hbr b1
          have hs1 := hpW.size
          have hs2 := hbr.size
          have hwW : w.heap.size < W.heap.size := lt_of_cell b1
          have hvA : (wr.alloc (.cells #[.int .i64 (j : Int)] 3)).ownsRow W.heap.size 3 1 u9 zs.length (ints zs) := World.ownsRow.alloc hv _
          have hpa5 : Past wr (wr.alloc (.cells #[.int .i64 (j : Int)] 3)) := (Past.refl wr).alloc _
          have hb1' : ∀ w3, (wr.alloc (.cells #[.int .i64 (j : Int)] 3)).grownBy w3 u9.ownBlock → w3.cell? ⟨w.heap.size, 1, none⟩ = some (.slice (some ⟨gx, ox, none⟩) n c) := fun w3 hg => hg.cell (cell_in hpa5 b1') (own_ne (g := w.heap.size) hvA (by omega))
          have hc1' : ∀ w3, (wr.alloc (.cells #[.int .i64 (j : Int)] 3)).grownBy w3 u9.ownBlock → w3.cell? ⟨gx, ox + j * 5 + 1, none⟩ = some (.int .i64 t1') := fun w3 hg => hg.cell (cell_in hpa5 c1') (own_ne (g := gx) hvA (by omega))
          have HB1 := Lib.hid hb1'
          have HC1 := Lib.hid hc1'
          have HSTEP := Lib.hid hstep
          have HZS := Lib.hid hzs
          have hfa : lab L a ≠ farL := fun e => hf (hiff.2 e)
          obtain ⟨D, hD⟩ : ∃ D, D = zs.length := ⟨_, rfl⟩
          rw [← hD] at hvA hzl
          have HDD := Lib.hid hD
          clear hb1' hc1' hstep hzs e1 e2 e3 e7 e8 hD c1' hiff
          go_wp2_with (first | (at_builtin; refine wpList_append_own _ rfl _ _ 28 rfl W.heap.size 3 i0 (.int .i64 0) 1 8 Try.underlying28 hi hz0 hz1 hz2 rfl (by decide) _ _ _ rfl hvA ⟨wr.heap.size, 0, none⟩ 1 1 [.int .i64 (j : Int)] rfl rfl (cell_one_new _ _ _) (one_cell _) (by unfold maxLen; omega) (by omega) (by simp; omega) ?_; intro v' w3 hown' hgrow3 hnil3; have b1 := HB1.out _ hgrow3; have c1 := HC1.out _ hgrow3))
          go_roundw
          case rel =>
            refine ⟨t1', zs ++ [(j : Int)], by go_num, by omega, by omega, ⟨fun e => absurd e e4, fun e => absurd e hfa⟩, Res.push (by rw [← HDD.out]; exact hown'), fun _ => ?_, ?_, Past.grown (hbr.alloc _) hvA hgrow3 (Nat.le_refl _)⟩
            · rw [HZS.out hfa, HSTEP.out, List.append_assoc]; rfl
            · rw [List.length_append, ← HDD.out]; simp; omega
          case measure => simp only [intOf]; omega
theorem implNearWalk_any (m : Int) (g n c : Nat) (xs : List ArcD) (a b : Int) (w : World) (hn : n ≤ 1048576) (hnx : xs.length = n) (hx : ArcsAt w (some ⟨g, 0, none⟩) xs) :
    Calls Try.prog 42 #[.agg #[.int .i64 m, .slice (some ⟨g, 0, none⟩) n c], .int .i64 a, .int .i64 b] w (GivesB w (nearWI m xs a b) (nearWB m xs a b)) :=
  implNearWalk_all m _ n c xs a b w hn hnx hx (.inr ⟨_, _, rfl⟩)

end Go.Proofs.Ytaojognjkiifmaa

namespace Go.Proofs.Ytaojognjkiifmaa
open Go.ChangeShapes Go.WideShapes Go.ChangeAt Go.RowKit

theorem over_dom {m : Int} {xs : List ArcD} {a b o : Int} (h : 0 ≤ overI m xs a b o) : ∃ M : Nat, m = M ∧ 1 ≤ M ∧ M ≤ 8 ∧ netB (M : Int) xs = true ∧ (0 ≤ a ∧ a < M) ∧ (0 ≤ b ∧ b < M) ∧ (0 ≤ o ∧ o < M) := by
  unfold overI at h
  split at h
  · rename_i hB
    simp only [Bool.and_eq_true, inB_iff] at hB
    obtain ⟨hN, ha, hb, ho⟩ := hB
    obtain ⟨M, rfl, h3, h8⟩ := here_nat hN
    exact ⟨M, rfl, by omega, by omega, hN, by omega, by omega, by omega⟩
  · omega

set_option maxRecDepth 100000 in
set_option maxHeartbeats 4000000 in
theorem fnBothOver_walk (A : Option Addr) (n c : Nat) (w : World) (hn : n ≤ c) (hc : c ≤ maxLen) (hb : BytesAt w A n) :
    Calls Try.prog 9 #[.slice A n c] w fun e w' => e = .returned (.bool true) ∧ Below w.heap.size w w' := by
  by_cases h1 : 1048576 < n
  · have h1' : (1048576 : Int) < (n : Int) := by omega
    go_enter Try.func9, Try.ntmps9
    go_wp2
    go_ret
    exact ⟨rfl, Below.refl _ _⟩
  have h1' : ¬ (1048576 : Int) < (n : Int) := by omega
  go_enter Try.func9, Try.ntmps9
  go_wp2_with fail
  refine (drawBothOver_any A n c w hn hc hb).mono ?_
  rintro e w1 ⟨m, B, k, cap, xs, a, b, o, rfl, hxk, hk, hx1, ⟨_, hform⟩, hb1⟩
  have HX := Lib.hid hxk
  clear hxk hb hn hc
  have hkk : k ≤ 1048576 := by omega
  have hpW : Past w1 (w1.alloc (.cells #[.int .i64 m, .slice B k cap] 32)) := (Past.refl w1).alloc _
  go_wp2_with fail
  refine (implBothOver_any m B k cap xs a b o _ hkk HX.out (hx1.below hpW)).mono ?_
  rintro e w2 ⟨rfl, hb2⟩
  have b0 := cell_in (p := ⟨w1.heap.size, 0, none⟩) (v := .int .i64 m) hb2 (by go_simp)
  have b1 := cell_in (p := ⟨w1.heap.size, 1, none⟩) (v := .slice B k cap) hb2 (by go_simp)
  have hx2 := (hx1.below hpW).below hb2
  have hp2 : Past w w2 := Past.trans hb1 (hpW.trans hb2)
  obtain ⟨C, hC⟩ : ∃ C, C = overI m xs a b o := ⟨_, rfl⟩
  rw [← hC]
  have HC := Lib.hid hC
  clear hC hx1 hb1 hb2 hpW
  go_wp2_with fail
  refine (specBothOver_any m B k cap xs a b o _ hkk HX.out hx2).mono ?_
  rintro e w3 ⟨rfl, hb3⟩
  rw [← HC.out]
  have b0 := cell_in hb3 b0
  have b1 := cell_in hb3 b1
  have hx3 := hx2.below hb3
  have hp3 := Past.trans hp2 hb3
  clear hx2 hb3 hp2
  by_cases hC0 : C < 0
  · have g1 : decide (C < 0) = true := decide_eq_true hC0
    go_wp2_with fail
    refine (specBothOver_any m B k cap xs a b o _ hkk HX.out hx3).mono ?_
    rintro e w4 ⟨rfl, hb4⟩
    rw [← HC.out]
    go_wp2
    go_ret
    exact ⟨by simp, hp3.trans hb4⟩
  have g1 : decide (C < 0) = false := decide_eq_false hC0
  obtain ⟨M, rfl, hM1, hM8, hN, ha, hbb, ho⟩ := over_dom (m := m) (xs := xs) (a := a) (b := b) (o := o) (by rw [← HC.out]; omega)
  have hnear : nearI (M : Int) xs a = nearL M xs a := by rw [nearI, if_pos ((hereB_iff _ _ _).2 ⟨hN, ha⟩), Int.toNat_natCast]
  obtain ⟨z, hz⟩ : ∃ z, z = at_ (nearL M xs a) b := ⟨_, rfl⟩
  have hzt : (nearL M xs a)[b.toNat]? = some z := by rw [getElem_at _ b.toNat (by rw [nearL_length]; omega), show ((b.toNat : Nat) : Int) = b by omega, ← hz]
  have q1 := over_least (f := a) (t := b) hN ha hbb ho
  have q2 := over_first (f := a) (t := b) hN ha hbb
  have q3 := over_last (f := a) (t := b) hN ha hbb
  rw [← hz] at q1 q2 q3
  rw [← HC.out] at q1
  have HZT := Lib.hid hzt
  have HNE := Lib.hid hnear
  have HZ := Lib.hid hz
  have HN := Lib.hid hN
  have Q2 := Lib.hid q2
  have Q3 := Lib.hid q3
  have t0 : 0 ≤ b := hbb.1
  have t1 : b < (M : Int) := hbb.2
  have g2 : decide (z ≤ C) = true := decide_eq_true q1
  clear hzt hnear hz hN q2 q3
  go_wp2_with fail
  refine (implNearAll_any (M : Int) B k cap xs a _ hkk HX.out hx3).mono ?_
  rintro e w4 ⟨v4, rfl, hv4, hb4⟩
  rw [HNE.out] at hv4
  obtain ⟨D, cd, rfl, hd4, _⟩ := hv4.form
  rw [nearL_length]
  obtain ⟨g4, o4, rfl, c4⟩ := hd4 b.toNat z HZT.out
  have b0 := cell_in hb4 b0
  have b1 := cell_in hb4 b1
  have hx4 := hx3.below hb4
  have hp4 := Past.trans hp3 hb4
  clear hv4 hd4 hx3 hb4 hp3
  go_wp2_with fail
  refine (implNearWalk_all (M : Int) B k cap xs a b _ hkk HX.out hx4 hform).mono ?_
  rintro e w5 ⟨v5, rfl, hv5, hb5⟩
  obtain ⟨X, cx, rfl, hs5, _⟩ := hv5.form
  obtain ⟨ps, hps⟩ : ∃ ps, ps = nearWI (M : Int) xs a b := ⟨_, rfl⟩
  obtain ⟨bb, hbw⟩ : ∃ bb, bb = nearWB (M : Int) xs a b := ⟨_, rfl⟩
  rw [← hps] at hs5 ⊢
  rw [← hbw]
  obtain ⟨R, hR⟩ : ∃ R, R = ps.length := ⟨_, rfl⟩
  have hR1 : R ≤ 1048576 := by rw [hR, hps]; exact nearWI_len (M : Int) xs a b
  rw [← hR]
  have hway : bb = true → ∀ (j : Nat) (y : Int), ps[j]? = some y → ∃ e, xs[y.toNat]? = some e ∧ 0 ≤ y ∧ overI (M : Int) xs a b e.t = z := fun h j y hy => by
    have := over_way (m := (M : Int)) (xs := xs) (a := a) (b := b) (by rw [← hbw]; exact h) y (by rw [← hps]; exact List.mem_of_getElem? hy)
    rw [HNE.out, ← HZ.out] at this
    exact this
  have HW := Lib.hid hway
  have HR := Lib.hid hR.symm
  have b0 := cell_in hb5 b0
  have b1 := cell_in hb5 b1
  have hx5 := hx4.below hb5
  have hp5 := Past.trans hp4 hb5
  have hR0 : (0 : Int) ≤ (R : Int) := by omega
  clear hps hbw hR hv5 hx4 hb5 hp4 hway
  have C2 := Lib.hid (fun q : PastOf w5 => implBothOver_any (M : Int) B k cap xs a b a q.W hkk HX.out (hx5.below q.h))
  have C3 := Lib.hid (fun q : PastOf w5 => implBothOver_any (M : Int) B k cap xs a b b q.W hkk HX.out (hx5.below q.h))
  rw [Q2.out] at C2
  rw [Q3.out] at C3
  go_wp2
  go_loopw [11] (fun q wr => ∃ j : Nat, j ≤ R ∧ q = .int .i64 j ∧ Past w5 wr) (fun q _ => R - (intOf q).toNat)
  case atStart => exact ⟨0, Nat.zero_le _, rfl, Past.refl _⟩
  case round =>
    obtain ⟨j, hj, rfl, hpr⟩ := hrel
    have b0 := cell_in hpr b0
    have b1 := cell_in hpr b1
    by_cases hin : j < R ∧ bb = true
    · obtain ⟨hlt, rfl⟩ := hin
      obtain ⟨y, hy⟩ : ∃ y, ps[j]? = some y := ⟨_, List.getElem?_eq_getElem (by have := HR.out; omega)⟩
      obtain ⟨e, he, hy0, hov⟩ := HW.out rfl j y hy
      obtain ⟨Y, rfl⟩ : ∃ Y : Nat, y = (Y : Int) := ⟨y.toNat, by omega⟩
      rw [Int.toNat_natCast] at he
      have hYk : Y < k := by have := (List.getElem?_eq_some_iff.1 he).1; have := HX.out; omega
      obtain ⟨f', t', c', l', d'⟩ := e
      obtain ⟨gx, ox, rfl, _, d1, _⟩ := (hx5.below hpr) Y _ he
      obtain ⟨gy, oy, rfl, c1⟩ := (hs5.below hpr) j _ hy
      simp only at hov d1
      have C1 := Lib.hid (fun q : PastOf wr => implBothOver_any (M : Int) (some ⟨gx, ox, none⟩) k cap xs a b t' q.W hkk HX.out ((hx5.below hpr).below q.h))
      rw [hov] at C1
      have D0 := past_cell b0
      have D1 := past_cell b1
      have D2 := past_cell c1
      have D3 := past_cell d1
      have j0 : (0 : Int) ≤ (j : Int) := by omega
      have j1 : (j : Int) < (R : Int) := by omega
      have y0 : (0 : Int) ≤ (Y : Int) := by omega
      have y1 : (Y : Int) < (k : Int) := by omega
      have g3 : (z != z) = false := by simp
      clear hy he hov hYk
      go_wp2_with fail
      refine wp_region_past (by kernel_rfl) (by kernel_rfl) ?_
      repeat (go_big_quiet_step (with_reducible exact rfl))
      go_big_quiet_step ((go_at_call 40; exact past_call (C1.out _)))
      repeat (go_big_quiet_step (with_reducible exact rfl))
      refine wpQuiet_nil ?_
      rintro _ ⟨⟨W8, hW8⟩, rfl⟩
      go_wp2
      go_roundw
      case rel => exact ⟨j + 1, by omega, by go_num, hpr.trans hW8⟩
      case measure => simp [intOf]; omega
    · have hx := hx5.below hpr
      have g3 : (z == z) = true := by simp
      have hpw := hp5.trans hpr
      by_cases hlt : j < R
      · have hbf : bb = false := by cases bb with | false => rfl | true => exact absurd ⟨hlt, rfl⟩ hin
        subst hbf
        clear hin
        go_wp2_with fail
        refine (C2.out ⟨wr, hpr⟩).mono ?_
        rintro e w6 ⟨rfl, hb6⟩
        have b0 := cell_in hb6 b0
        have b1 := cell_in hb6 b1
        go_wp2_with fail
        refine (C3.out ⟨w6, hpr.trans hb6⟩).mono ?_
        rintro e w7 ⟨rfl, hb7⟩
        go_wp2
        go_ret
        exact ⟨rfl, (hpw.trans hb6).trans hb7⟩
      · clear hin
        go_wp2_with fail
        refine (C2.out ⟨wr, hpr⟩).mono ?_
        rintro e w6 ⟨rfl, hb6⟩
        have b0 := cell_in hb6 b0
        have b1 := cell_in hb6 b1
        go_wp2_with fail
        refine (C3.out ⟨w6, hpr.trans hb6⟩).mono ?_
        rintro e w7 ⟨rfl, hb7⟩
        go_wp2
        go_ret
        exact ⟨rfl, (hpw.trans hb6).trans hb7⟩

set_option maxRecDepth 100000 in
theorem fnBothOver_lifted (os : Os) (started : os.Started) (H : Type) (enc : TypeId × Value → H) :
    ReturnsInHanded {} Try.checked os 9 .any (Rows.fnBothOverSpec.pre6 enc Try.prog Try.f9 Rows.fnBothOverRow.domain false) (Rows.fnBothOverSpec.post enc Try.prog Try.f9 false true false false) := by
  refine returnsInHanded_of_change (C := Try.checked) own started (by kernel_rfl) Try.func9
    (ChangeSpec.witness6 (enc := enc) (C := Try.checked) false ⟨#[], #[.slice none 0 0], []⟩ 8 (by kernel_rfl) (by kernel_rfl) (by kernel_rfl) (by kernel_rfl)) ?_
  intro W base args ds gs before hval0 hW hcnd _
  have hval : ∀ (j : Nat) t v, Try.f9.params[j]? = some t → args[j]? = some v → Value.okWide Try.prog W .any base t v := hval0
  have hW' := hW
  obtain ⟨p, q, hA0, hV, rfl, hfz, hnd⟩ := hW
  have hA : DataW.TrodAll enc Try.prog W 0 (fun _ => true) true Try.f9.params.toList args.toList ds p := hA0
  rw [Try.params9] at hA hval
  obtain ⟨v0, vs0, d0, ds0, p0, q0, hargs, rfl, rfl, h0, r0⟩ := trodAll_cons hA
  obtain ⟨rfl, rfl, rfl⟩ := trodAll_nil r0
  obtain rfl : args = #[v0] := by cases args; simp_all
  obtain ⟨rfl, rfl⟩ := trodVars_none hV
  have k0 := h0
  have lt0 := places_lt k0
  obtain ⟨A0, n0, c0, rfl, hn0, hc0, hb0⟩ := open_bytes (hval 0 43 v0 rfl rfl) h0
  clear hA0 hval0
  refine (fnBothOver_walk A0 n0 c0 W hn0 hc0 hb0).mono fun e W' ⟨he, bel⟩ => ?_
  subst he
  exact ⟨_, rfl, _, _, _, [], _, [], hW', trodAll_mk1 (shut_bool Try.underlying4 _), (trodAll_cons_mk (Below.trod laidOut (by kernel_rfl) (of_decide_eq_true (by kernel_rfl)) k0 bel lt0) trodAll_mk0), rfl, bel.frame _, fun h => by cases h⟩

/-- The given statement. -/
theorem fnBothOver_proved : Rows.FnBothOverSaid :=
  OpenClaim.holds_of_wide 9 Try.f9 rfl rfl rfl rfl rfl rfl rfl ⟨rfl, rfl, rfl, rfl, rfl⟩ rfl rfl rfl rfl rfl (by kernel_rfl) Try.func9 (by kernel_rfl)
    (of_decide_eq_true (by kernel_rfl)) (by unfold Func.isWrapper; first | (rw [if_pos (by decide +kernel)]; kernel_rfl) | (rw [if_neg (by decide +kernel)]; exact ⟨rfl, rfl⟩))
    (fun os started H enc _ => fnBothOver_lifted os started H enc)

end Go.Proofs.Ytaojognjkiifmaa
