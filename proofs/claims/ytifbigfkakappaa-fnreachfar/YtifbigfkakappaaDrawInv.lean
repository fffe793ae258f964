/-
  What is known between two draws of one statement: a reader that may draw so many times more, and the blocks that were laid meanwhile.
-/
import Derived.Test.YtifbigfkakappaaDrawF
import Derived.Test.YtifbigfkakappaaBack
namespace Go.Proofs.Ytifbigfkakappaa
open Go.RowKit

/-- Between two draws of one statement: the reader, one cell that is read again and again, what has turned since the statement began (the reader's block alone), small lists of numbers that were laid, and blocks for arcs that were laid. -/
structure Inv (w0 : World) (R lo : Nat) (A : Option Addr) (n c NB : Nat) (N : Value) (f : Nat) (w : World) (L : List (Nat × List Int)) (M : List Nat) : Prop where
  rd : RdF w R lo A n c f
  nb : w.cell? ⟨NB, 0, none⟩ = some N
  nbl : NB < w0.heap.size
  nbR : NB ≠ R
  rl : R < w0.heap.size
  gr : w0.grownBy w (some R)
  known : ∀ q ∈ L, IntsAt w (some ⟨q.1, 0, none⟩) q.2 ∧ q.1 ≠ R
  arcs : ∀ b ∈ M, RowN w b 57 5 ∧ b ≠ R ∧ w0.heap.size ≤ b

section
variable {w0 w : World} {R lo n c NB f : Nat} {A : Option Addr} {N : Value} {L : List (Nat × List Int)} {M : List Nat}
theorem Inv.start (h : RdF w R lo A n c f) (hn : w.cell? ⟨NB, 0, none⟩ = some N) (hne : NB ≠ R) : Inv w R lo A n c NB N f w [] [] := ⟨h, hn, lt_of_cell hn, hne, h.at_, grown_refl _ _, by simp, by simp⟩
theorem Inv.drew (h : Inv w0 R lo A n c NB N f w L M) : Inv w0 R lo A n c NB N f w.drew L M := ⟨h.rd.drew, h.nb, h.nbl, h.nbR, h.rl, ⟨h.gr.os, h.gr.tape, h.gr.output, h.gr.size, h.gr.block⟩, h.known, h.arcs⟩
theorem Inv.alloc (h : Inv w0 R lo A n c NB N f w L M) (o : Obj) : Inv w0 R lo A n c NB N f (w.alloc o) L M :=
  ⟨h.rd.alloc o, cell_in ((Past.refl w).alloc o) h.nb, h.nbl, h.nbR, h.rl, grown_trans h.gr (World.grownBy_alloc w o _), fun q hq => ⟨(h.known q hq).1.below ((Past.refl w).alloc o), (h.known q hq).2⟩, fun b hb => ⟨(h.arcs b hb).1.keep (Below.heap_alloc w o b (h.arcs b hb).1.lt), (h.arcs b hb).2⟩⟩
theorem Inv.allocI (h : Inv w0 R lo A n c NB N f w L M) (zs : List Int) {cs : Array Value} (hc : cs = (zs.map (Value.int .i64)).toArray) : Inv w0 R lo A n c NB N f (w.alloc (.cells cs 3)) ((w.heap.size, zs) :: L) M := by
  have h1 := h.alloc (.cells cs 3)
  refine ⟨h1.rd, h1.nb, h1.nbl, h1.nbR, h1.rl, h1.gr, fun q hq => ?_, h1.arcs⟩
  rcases List.mem_cons.1 hq with rfl | hq
  · refine ⟨fun k x hk => ⟨w.heap.size, 0, rfl, ?_⟩, ?_⟩
    · rw [Nat.zero_add, cell_of_row _ _ _ _ _ _ (heap_alloc_new w _), hc]
      simpa using hk
    · have := h.rd.at_
      simp only
      omega
  · exact h1.known q hq
theorem Inv.allocI6 (h : Inv w0 R lo A n c NB N f w L M) (x0 x1 x2 x3 x4 x5 : Int) : Inv w0 R lo A n c NB N f (w.alloc (.cells #[.int .i64 x0, .int .i64 x1, .int .i64 x2, .int .i64 x3, .int .i64 x4, .int .i64 x5] 3)) ((w.heap.size, [x0, x1, x2, x3, x4, x5]) :: L) M := h.allocI _ rfl
theorem Inv.allocI4 (h : Inv w0 R lo A n c NB N f w L M) (x0 x1 x2 x3 : Int) : Inv w0 R lo A n c NB N f (w.alloc (.cells #[.int .i64 x0, .int .i64 x1, .int .i64 x2, .int .i64 x3] 3)) ((w.heap.size, [x0, x1, x2, x3]) :: L) M := h.allocI _ rfl
theorem Inv.allocI3 (h : Inv w0 R lo A n c NB N f w L M) (x0 x1 x2 : Int) : Inv w0 R lo A n c NB N f (w.alloc (.cells #[.int .i64 x0, .int .i64 x1, .int .i64 x2] 3)) ((w.heap.size, [x0, x1, x2]) :: L) M := h.allocI _ rfl
theorem Inv.allocI2 (h : Inv w0 R lo A n c NB N f w L M) (x0 x1 : Int) : Inv w0 R lo A n c NB N f (w.alloc (.cells #[.int .i64 x0, .int .i64 x1] 3)) ((w.heap.size, [x0, x1]) :: L) M := h.allocI _ rfl
theorem Inv.allocA (h : Inv w0 R lo A n c NB N f w L M) (x0 x1 x2 x3 x4 : Value) : Inv w0 R lo A n c NB N f (w.alloc (.cells #[x0, x1, x2, x3, x4] 57)) L (w.heap.size :: M) := by
  have h1 := h.alloc (.cells #[x0, x1, x2, x3, x4] 57)
  refine ⟨h1.rd, h1.nb, h1.nbl, h1.nbR, h1.rl, h1.gr, h1.known, fun b hb => ?_⟩
  rcases List.mem_cons.1 hb with rfl | hb
  · have := h.rd.at_
    exact ⟨⟨_, heap_alloc_new w _, rfl⟩, by omega, h.gr.size⟩
  · exact h1.arcs b hb
theorem Inv.fixA1 {u : World} {o : Obj} (h : Inv w0 R lo A n c NB N f w L ((u.alloc o).heap.size :: M)) : Inv w0 R lo A n c NB N f w L ((u.heap.size + 1) :: M) := by rw [World.size_alloc] at h; exact h
theorem Inv.fixA2 {u : World} {o o' : Obj} (h : Inv w0 R lo A n c NB N f w L (((u.alloc o).alloc o').heap.size :: M)) : Inv w0 R lo A n c NB N f w L ((u.heap.size + 1 + 1) :: M) := by rw [World.size_alloc, World.size_alloc] at h; exact h
theorem Inv.fixI1 {u : World} {o : Obj} {zs : List Int} (h : Inv w0 R lo A n c NB N f w (((u.alloc o).heap.size, zs) :: L) M) : Inv w0 R lo A n c NB N f w ((u.heap.size + 1, zs) :: L) M := by rw [World.size_alloc] at h; exact h
theorem Inv.fixI2 {u : World} {o o' : Obj} {zs : List Int} (h : Inv w0 R lo A n c NB N f w ((((u.alloc o).alloc o').heap.size, zs) :: L) M) : Inv w0 R lo A n c NB N f w ((u.heap.size + 1 + 1, zs) :: L) M := by rw [World.size_alloc, World.size_alloc] at h; exact h
theorem Inv.step {w' : World} {f' : Nat} (h : Inv w0 R lo A n c NB N f w L M) (hr : RdF w' R lo A n c f') (hg : w.grownBy w' (some R)) : Inv w0 R lo A n c NB N f' w' L M :=
  ⟨hr, cell_far hg h.nb h.nbR, h.nbl, h.nbR, h.rl, grown_trans h.gr hg, fun q hq => ⟨(h.known q hq).1.grown hg (fun b e => by injection e with e; have := (h.known q hq).2; simp [blk]; omega), (h.known q hq).2⟩, fun b hb => ⟨(h.arcs b hb).1.young hg (h.arcs b hb).2.1, (h.arcs b hb).2⟩⟩
theorem Inv.cells {b : Nat} (h : Inv w0 R lo A n c NB N f w L (b :: M)) : (∃ y, w.cell? ⟨b, 0, none⟩ = some y) ∧ (∃ y, w.cell? ⟨b, 1, none⟩ = some y) ∧ (∃ y, w.cell? ⟨b, 2, none⟩ = some y) ∧ (∃ y, w.cell? ⟨b, 3, none⟩ = some y) ∧ (∃ y, w.cell? ⟨b, 4, none⟩ = some y) ∧
    w.frozen? ⟨b, 0, none⟩ = false ∧ w.frozen? ⟨b, 1, none⟩ = false ∧ w.frozen? ⟨b, 2, none⟩ = false ∧ w.frozen? ⟨b, 3, none⟩ = false ∧ w.frozen? ⟨b, 4, none⟩ = false ∧ NB ≠ b ∧ b ≠ NB := by
  have := h.nbl
  obtain ⟨hr, h1, h2⟩ := h.arcs b List.mem_cons_self
  exact ⟨hr.cell (by omega), hr.cell (by omega), hr.cell (by omega), hr.cell (by omega), hr.cell (by omega), hr.frozen _, hr.frozen _, hr.frozen _, hr.frozen _, hr.frozen _, by omega, by omega⟩
end

/-- A number below m was drawn. -/
def PicksI (w0 : World) (R lo : Nat) (A : Option Addr) (n c NB : Nat) (N : Value) (f : Nat) (L : List (Nat × List Int)) (M : List Nat) (m : Int) (e : Ending) (w' : World) : Prop :=
  ∃ k : Int, e = .returned (.int .i64 k) ∧ 0 ≤ k ∧ (k = 0 ∨ k < m) ∧ Inv w0 R lo A n c NB N f w' L M

section
variable {w0 w : World} {R lo n c NB f : Nat} {A : Option Addr} {N : Value} {L : List (Nat × List Int)} {M : List Nat}
theorem pickI (m : Int) (h : Inv w0 R lo A n c NB N (f + 1) w L M) :
    Calls Try.prog 46 #[.pointer (some ⟨R, 0, none⟩), .int .i64 m] w (PicksI w0 R lo A n c NB N f L M m) :=
  (pickF m h.rd).mono fun _ _ ⟨k, he, h0, h1, hr, hg⟩ => ⟨k, he, h0, h1, h.step hr hg⟩

def OnesI (w0 : World) (R lo : Nat) (A : Option Addr) (n c NB : Nat) (N : Value) (f : Nat) (L : List (Nat × List Int)) (M : List Nat) (zs : List Int) (e : Ending) (w' : World) : Prop :=
  ∃ z : Int, e = .returned (.int .i64 z) ∧ z ∈ zs ∧ Inv w0 R lo A n c NB N f w' L M

theorem oneI (b l cb : Nat) (zs : List Int) (h : Inv w0 R lo A n c NB N (f + 1) w L M) (hm : (b, zs) ∈ L) (hl : zs.length = l) (h0 : 0 < l) (h1 : l ≤ 1000) :
    Calls Try.prog 47 #[.pointer (some ⟨R, 0, none⟩), .slice (some ⟨b, 0, none⟩) l cb] w (OnesI w0 R lo A n c NB N f L M zs) := by
  obtain ⟨p, hp, hr⟩ := h.rd
  exact (one_any R lo b A n c p l cb zs w hr (by omega) hl h0 h1 (h.known _ hm).1 (h.known _ hm).2).mono fun _ _ ⟨z, he, hz, hr, hg⟩ => ⟨z, he, hz, h.step ⟨p + 1, by omega, hr⟩ hg⟩
theorem oneI6 {x0 x1 x2 x3 x4 x5 : Int} {b cb : Nat} (h : Inv w0 R lo A n c NB N (f + 1) w L M) (hm : (b, [x0, x1, x2, x3, x4, x5]) ∈ L) :
    Calls Try.prog 47 #[.pointer (some ⟨R, 0, none⟩), .slice (some ⟨b, 0, none⟩) 6 cb] w (OnesI w0 R lo A n c NB N f L M [x0, x1, x2, x3, x4, x5]) := oneI b 6 cb _ h hm rfl (by omega) (by omega)
theorem oneI4 {x0 x1 x2 x3 : Int} {b cb : Nat} (h : Inv w0 R lo A n c NB N (f + 1) w L M) (hm : (b, [x0, x1, x2, x3]) ∈ L) :
    Calls Try.prog 47 #[.pointer (some ⟨R, 0, none⟩), .slice (some ⟨b, 0, none⟩) 4 cb] w (OnesI w0 R lo A n c NB N f L M [x0, x1, x2, x3]) := oneI b 4 cb _ h hm rfl (by omega) (by omega)
theorem oneI3 {x0 x1 x2 : Int} {b cb : Nat} (h : Inv w0 R lo A n c NB N (f + 1) w L M) (hm : (b, [x0, x1, x2]) ∈ L) :
    Calls Try.prog 47 #[.pointer (some ⟨R, 0, none⟩), .slice (some ⟨b, 0, none⟩) 3 cb] w (OnesI w0 R lo A n c NB N f L M [x0, x1, x2]) := oneI b 3 cb _ h hm rfl (by omega) (by omega)
theorem oneI2 {x0 x1 : Int} {b cb : Nat} (h : Inv w0 R lo A n c NB N (f + 1) w L M) (hm : (b, [x0, x1]) ∈ L) :
    Calls Try.prog 47 #[.pointer (some ⟨R, 0, none⟩), .slice (some ⟨b, 0, none⟩) 2 cb] w (OnesI w0 R lo A n c NB N f L M [x0, x1]) := oneI b 2 cb _ h hm rfl (by omega) (by omega)
end

/-- An arc was drawn into a block of its own. -/
def ArcCut (w0 : World) (R lo : Nat) (A : Option Addr) (n c f : Nat) (s5 : Value) (wx : World) : Prop :=
  ∃ (AB : Nat) (f' t c' l d : Int), s5 = .pointer (some ⟨AB, 0, none⟩) ∧ w0.heap.size ≤ AB ∧ RowN wx AB 57 5 ∧ Arc5 wx AB 0 ⟨f', t, c', l, d⟩ ∧ 0 ≤ t ∧ t ≤ 100 ∧ RdF wx R lo A n c f ∧ w0.grownBy wx (some R)

theorem grown_far {a w : World} {row : Option Nat} {p : Addr} (h : a.grownBy w row) (hp : a.heap.size ≤ p.block) (u : Value) : a.grownBy (w.setCell p u) row :=
  ⟨h.os, h.tape, h.output, by simpa [World.setCell] using h.size, fun i hi hne => (Below.heap_setCell w p u i (by omega)).trans (h.block i hi hne)⟩

theorem arc_done {w0 w : World} {R lo n c NB f b : Nat} {A : Option Addr} {N : Value} {L : List (Nat × List Int)} {M : List Nat} (h : Inv w0 R lo A n c NB N f w L (b :: M)) (x0 x1 x2 x3 x4 : Int) (ht : 0 ≤ x1 ∧ x1 ≤ 100) :
    ArcCut w0 R lo A n c f (.pointer (some ⟨b, 0, none⟩)) (((((w.setCell ⟨b, 0, none⟩ (.int .i64 x0)).setCell ⟨b, 1, none⟩ (.int .i64 x1)).setCell ⟨b, 2, none⟩ (.int .i64 x2)).setCell ⟨b, 3, none⟩ (.int .i64 x3)).setCell ⟨b, 4, none⟩ (.int .i64 x4)) := by
  obtain ⟨hr, h1, h2⟩ := h.arcs b List.mem_cons_self
  have hg : w.grownBy (((((w.setCell ⟨b, 0, none⟩ (.int .i64 x0)).setCell ⟨b, 1, none⟩ (.int .i64 x1)).setCell ⟨b, 2, none⟩ (.int .i64 x2)).setCell ⟨b, 3, none⟩ (.int .i64 x3)).setCell ⟨b, 4, none⟩ (.int .i64 x4)) (some b) := grown_set (grown_set (grown_set (grown_set (grown_set (grown_refl _ _) _ _) _ _) _ _) _ _) _ _
  have hlo : lo ≤ R := by obtain ⟨p, _, hh⟩ := h.rd; exact hh.lt
  have hrl := h.rl
  refine ⟨b, x0, x1, x2, x3, x4, rfl, h2, ((((hr.set _ _).set _ _).set _ _).set _ _).set _ _, ?_, ht.1, ht.2, h.rd.far hg h1 (by omega), grown_far (grown_far (grown_far (grown_far (grown_far h.gr h2 _) h2 _) h2 _) h2 _) h2 _⟩
  have := Arc5.put hr (p := 0) (by omega) x0 x1 x2 x3 x4
  simpa using this

/-- What is known of a net that is being drawn into the block NB: its arcs so far are a slice of the call's own. -/
structure NetAt (wr : World) (NB lo : Nat) (N : Int) (v : Value) (xs : List ArcD) : Prop where
  nodes : wr.cell? ⟨NB, 0, none⟩ = some (.int .i64 N)
  slice : wr.cell? ⟨NB, 1, none⟩ = some v
  row : RowN wr NB 25 2
  own : wr.ownsRow lo 57 5 v xs.length (cellsOf xs)

end Go.Proofs.Ytifbigfkakappaa
