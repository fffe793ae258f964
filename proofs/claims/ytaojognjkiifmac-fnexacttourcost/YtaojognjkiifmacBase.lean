/-
  Plain definitions and small facts on memory that the proofs over this program share: an arc as five numbers, a slice of arcs and a slice of numbers as they lie in memory. No condition.
-/
import Derived.WalkKit
import Derived.WalkSpells
import Derived.ProofKit
import Derived.Lib.Hide
import Derived.Deep.QuietTactic
import Derived.BigQuiet
import Derived.StillTailTactics
import Derived.Deep.RegionHeld3
import Derived.Deep.AppendLies
namespace Go.Proofs.Ytaojognjkiifmac
open Go.RowKit

/-- An arc: where from, where to, cost, toll, load. -/
structure ArcD where
  f : Int
  t : Int
  c : Int
  l : Int
  d : Int
  deriving DecidableEq, Inhabited

/-- Five cells from place p of block g on hold an arc. -/
def Arc5 (w : World) (g p : Nat) (a : ArcD) : Prop :=
  w.cell? ⟨g, p, none⟩ = some (.int .i64 a.f) ∧ w.cell? ⟨g, p + 1, none⟩ = some (.int .i64 a.t) ∧ w.cell? ⟨g, p + 2, none⟩ = some (.int .i64 a.c) ∧
    w.cell? ⟨g, p + 3, none⟩ = some (.int .i64 a.l) ∧ w.cell? ⟨g, p + 4, none⟩ = some (.int .i64 a.d)

/-- Five cells that may be written. -/
def Free5 (w : World) (g p : Nat) : Prop :=
  w.frozen? ⟨g, p, none⟩ = false ∧ w.frozen? ⟨g, p + 1, none⟩ = false ∧ w.frozen? ⟨g, p + 2, none⟩ = false ∧ w.frozen? ⟨g, p + 3, none⟩ = false ∧ w.frozen? ⟨g, p + 4, none⟩ = false

/-- A slice's address leads to these arcs. -/
def ArcsAt (w : World) (A : Option Addr) (xs : List ArcD) : Prop :=
  ∀ (k : Nat) (a : ArcD), xs[k]? = some a → ∃ g o, A = some ⟨g, o, none⟩ ∧ Arc5 w g (o + k * 5) a

/-- A slice's address leads to these numbers. -/
def IntsAt (w : World) (A : Option Addr) (xs : List Int) : Prop :=
  ∀ (k : Nat) (x : Int), xs[k]? = some x → ∃ g o, A = some ⟨g, o, none⟩ ∧ w.cell? ⟨g, o + k, none⟩ = some (.int .i64 x)

theorem lt_of_cell {w : World} {p : Addr} {v : Value} (h : w.cell? p = some v) : p.block < w.heap.size := by
  rcases Nat.lt_or_ge p.block w.heap.size with hlt | hge
  · exact hlt
  · exfalso
    have hn : w.heap[p.block]? = none := Array.getElem?_eq_none hge
    unfold World.cell? at h
    rw [hn] at h
    simp at h

theorem Arc5.lt {w : World} {g p : Nat} {a : ArcD} (h : Arc5 w g p a) : g < w.heap.size := lt_of_cell h.1

theorem Arc5.keep {w w' : World} {g p : Nat} {a : ArcD} (h : Arc5 w g p a) (e : w'.heap[g]? = w.heap[g]?) : Arc5 w' g p a := by
  have hc : ∀ o, w'.cell? ⟨g, o, none⟩ = w.cell? ⟨g, o, none⟩ := fun o => World.cell?_of_block (w := w) (a := ⟨g, o, none⟩) e
  unfold Arc5
  simp only [hc]
  exact h

theorem ArcsAt.below {w w' : World} {A : Option Addr} {xs : List ArcD} (h : ArcsAt w A xs) (hb : Below w.heap.size w w') : ArcsAt w' A xs := fun k a hk => by
  obtain ⟨g, o, hA, h5⟩ := h k a hk
  exact ⟨g, o, hA, h5.keep (hb.block g h5.lt)⟩

theorem IntsAt.below {w w' : World} {A : Option Addr} {xs : List Int} (h : IntsAt w A xs) (hb : Below w.heap.size w w') : IntsAt w' A xs := fun k a hk => by
  obtain ⟨g, o, hA, h5⟩ := h k a hk
  exact ⟨g, o, hA, (hb.cell (p := ⟨g, o + k, none⟩) (lt_of_cell h5)).trans h5⟩

/-- Block g is a row of n cells of type t, none frozen. -/
def RowN (w : World) (g t n : Nat) : Prop := ∃ cs, w.heap[g]? = some (.cells cs t (0, 0)) ∧ cs.size = n

theorem RowN.lt {w : World} {g t n : Nat} (h : RowN w g t n) : g < w.heap.size := by
  obtain ⟨cs, h, _⟩ := h
  rcases Nat.lt_or_ge g w.heap.size with hlt | hge
  · exact hlt
  · rw [Array.getElem?_eq_none hge] at h; cases h

theorem RowN.cell {w : World} {g t n i : Nat} (h : RowN w g t n) (hi : i < n) : ∃ v, w.cell? ⟨g, i, none⟩ = some v := by
  obtain ⟨cs, h, hs⟩ := h
  refine ⟨cs[i]'(by omega), ?_⟩
  rw [cell_of_row w g i cs t (0, 0) h]
  exact Array.getElem?_eq_getElem (by omega)

theorem RowN.frozen {w : World} {g t n : Nat} (h : RowN w g t n) (i : Nat) : w.frozen? ⟨g, i, none⟩ = false := by
  obtain ⟨cs, h, _⟩ := h
  simp [World.frozen?, h]

theorem RowN.keep {w w' : World} {g t n : Nat} (h : RowN w g t n) (e : w'.heap[g]? = w.heap[g]?) : RowN w' g t n := by
  obtain ⟨cs, h, hs⟩ := h
  exact ⟨cs, e.trans h, hs⟩

theorem RowN.set {w : World} {g t n : Nat} (h : RowN w g t n) (p : Addr) (u : Value) : RowN (w.setCell p u) g t n := by
  obtain ⟨cs, h, hs⟩ := h
  by_cases e : g = p.block
  · subst e
    cases hp : p.spot with
    | none => exact ⟨cs.setIfInBounds p.off u, by simp [World.setCell, Array.getElem?_modify, h, hp], by simpa using hs⟩
    | some s => exact ⟨cs, by simp [World.setCell, Array.getElem?_modify, h, hp], hs⟩
  · exact ⟨cs, (Below.heap_setCell w p u g e).trans h, hs⟩

/-- Block g is a row for n arcs, of which the first k are there. -/
def Made (w : World) (g t n : Nat) (xs : List ArcD) (k : Nat) : Prop :=
  RowN w g t (n * 5) ∧ ∀ j a, j < k → xs[j]? = some a → Arc5 w g (j * 5) a

theorem Made.below {w w' : World} {g t n k : Nat} {xs : List ArcD} (h : Made w g t n xs k) (hb : Below w.heap.size w w') : Made w' g t n xs k := by
  have e := hb.block g h.1.lt
  exact ⟨h.1.keep e, fun j a hj ha => (h.2 j a hj ha).keep e⟩

theorem Made.start (w : World) (t n : Nat) (xs : List ArcD) (cs : Array Value) (hs : cs.size = n * 5) : Made (w.alloc (.cells cs t)) w.heap.size t n xs 0 :=
  ⟨⟨cs, heap_alloc_new w _, hs⟩, fun j a hj => absurd hj (by omega)⟩

theorem Arc5.set {w : World} {g p : Nat} {a : ArcD} (h : Arc5 w g p a) (q : Nat) (u : Value) (hq : q < p ∨ p + 4 < q) : Arc5 (w.setCell ⟨g, q, none⟩ u) g p a := by
  have hc : ∀ o, p ≤ o → o ≤ p + 4 → (w.setCell ⟨g, q, none⟩ u).cell? ⟨g, o, none⟩ = w.cell? ⟨g, o, none⟩ := fun o h1 h2 => World.cell?_setCell_other w ⟨g, q, none⟩ ⟨g, o, none⟩ u (by intro e; injection e; omega)
  unfold Arc5
  rw [hc p (by omega) (by omega), hc (p + 1) (by omega) (by omega), hc (p + 2) (by omega) (by omega), hc (p + 3) (by omega) (by omega), hc (p + 4) (by omega) (by omega)]
  exact h

theorem Arc5.put {w : World} {g t n p : Nat} (h : RowN w g t n) (hp : p + 4 < n) (f t' c l d : Int) :
    Arc5 (((((w.setCell ⟨g, p, none⟩ (.int .i64 f)).setCell ⟨g, p + 1, none⟩ (.int .i64 t')).setCell ⟨g, p + 2, none⟩ (.int .i64 c)).setCell ⟨g, p + 3, none⟩ (.int .i64 l)).setCell ⟨g, p + 4, none⟩ (.int .i64 d)) g p ⟨f, t', c, l, d⟩ := by
  have same : ∀ (u : World) (q : Nat) (x : Value), RowN u g t n → q < n → (u.setCell ⟨g, q, none⟩ x).cell? ⟨g, q, none⟩ = some x := fun u q x hu hq => by
    obtain ⟨v, hv⟩ := hu.cell hq
    exact World.cell?_setCell_same u ⟨g, q, none⟩ x hv
  have oth : ∀ (u : World) (q o : Nat) (x : Value), q ≠ o → (u.setCell ⟨g, q, none⟩ x).cell? ⟨g, o, none⟩ = u.cell? ⟨g, o, none⟩ := fun u q o x hq =>
    World.cell?_setCell_other u ⟨g, q, none⟩ ⟨g, o, none⟩ x (by intro e; injection e; omega)
  refine ⟨?_, ?_, ?_, ?_, ?_⟩
  · rw [oth _ _ _ _ (by omega), oth _ _ _ _ (by omega), oth _ _ _ _ (by omega), oth _ _ _ _ (by omega), same _ _ _ h (by omega)]
  · rw [oth _ _ _ _ (by omega), oth _ _ _ _ (by omega), oth _ _ _ _ (by omega), same _ _ _ (h.set _ _) (by omega)]
  · rw [oth _ _ _ _ (by omega), oth _ _ _ _ (by omega), same _ _ _ ((h.set _ _).set _ _) (by omega)]
  · rw [oth _ _ _ _ (by omega), same _ _ _ (((h.set _ _).set _ _).set _ _) (by omega)]
  · rw [same _ _ _ ((((h.set _ _).set _ _).set _ _).set _ _) (by omega)]

theorem Made.next {w : World} {g t n k : Nat} {xs : List ArcD} {f t' c l d : Int} (h : Made w g t n xs k) (ha : xs[k]? = some ⟨f, t', c, l, d⟩) (hk : k < n) :
    Made (((((w.setCell ⟨g, k * 5, none⟩ (.int .i64 f)).setCell ⟨g, k * 5 + 1, none⟩ (.int .i64 t')).setCell ⟨g, k * 5 + 2, none⟩ (.int .i64 c)).setCell ⟨g, k * 5 + 3, none⟩ (.int .i64 l)).setCell ⟨g, k * 5 + 4, none⟩ (.int .i64 d)) g t n xs (k + 1) := by
  refine ⟨((((h.1.set _ _).set _ _).set _ _).set _ _).set _ _, fun j a hj hja => ?_⟩
  rcases Nat.lt_or_ge j k with hlt | hge
  · exact (((((h.2 j a hlt hja).set _ _ (by omega)).set _ _ (by omega)).set _ _ (by omega)).set _ _ (by omega)).set _ _ (by omega)
  · obtain rfl : j = k := by omega
    rw [ha] at hja
    injection hja with hja
    subst hja
    exact Arc5.put h.1 (by omega) _ _ _ _ _

theorem Made.arcs {w : World} {g t n : Nat} {xs : List ArcD} (h : Made w g t n xs n) (hl : xs.length = n) : ArcsAt w (some ⟨g, 0, none⟩) xs := fun k a ha => by
  have hk : k < n := by rw [← hl]; exact (List.getElem?_eq_some_iff.1 ha).1
  exact ⟨g, 0, rfl, by rw [Nat.zero_add]; exact h.2 k a hk ha⟩

/-- The block of a slice's address. -/
def blk (A : Option Addr) : Option Nat := A.map (·.block)

/-- A slice of memory of the call's own: n elements of so many cells, from block lo on. -/
def OwnAt (w : World) (lo : Nat) (A : Option Addr) (t size n : Nat) : Prop :=
  (A = none ∧ n = 0) ∨ ∃ g sz, A = some ⟨g, 0, none⟩ ∧ lo ≤ g ∧ RowN w g t sz ∧ n * size ≤ sz

theorem OwnAt.keep {w w' : World} {lo t size n : Nat} {A : Option Addr} {row : Option Nat} (h : OwnAt w lo A t size n) (hg : w.grownBy w' row) (hne : ∀ b, row = some b → b < lo ∨ w.heap.size ≤ b) : OwnAt w' lo A t size n := by
  rcases h with h | ⟨g, sz, hA, hl, hr, hs⟩
  · exact .inl h
  · refine .inr ⟨g, sz, hA, hl, hr.keep (hg.block g hr.lt ?_), hs⟩
    intro e
    have := hr.lt
    rcases hne g e.symm with h1 | h1 <;> omega

theorem grown_of_below {w w' : World} (h : Below w.heap.size w w') (row : Option Nat) : w.grownBy w' row := ⟨h.os, h.tape, h.output, h.size, fun i hi _ => h.block i hi⟩
theorem below_of_grown {w w' : World} (h : w.grownBy w' none) : Below w.heap.size w w' := ⟨h.os, h.tape, h.output, h.size, fun i hi => h.block i hi (by simp)⟩
theorem grown_trans {a b c : World} {row : Option Nat} (h : a.grownBy b row) (k : b.grownBy c row) : a.grownBy c row :=
  ⟨k.os.trans h.os, k.tape.trans h.tape, k.output.trans h.output, Nat.le_trans h.size k.size, fun i hi hn => (k.block i (Nat.lt_of_lt_of_le hi h.size) hn).trans (h.block i hi hn)⟩
theorem grown_refl (w : World) (row : Option Nat) : w.grownBy w row := grown_of_below (Below.refl _ _) row
theorem grown_set {a w : World} {g : Nat} (h : a.grownBy w (some g)) (q : Nat) (u : Value) : a.grownBy (w.setCell ⟨g, q, none⟩ u) (some g) :=
  ⟨h.os, h.tape, h.output, by simpa [World.setCell] using h.size, fun i hi hne => (Below.heap_setCell w ⟨g, q, none⟩ u i (fun e => hne (by rw [e]))).trans (h.block i hi hne)⟩

theorem ArcsAt.grown {w w' : World} {A : Option Addr} {xs : List ArcD} {row : Option Nat} (h : ArcsAt w A xs) (hg : w.grownBy w' row) (hne : ∀ b, row = some b → blk A ≠ some b) : ArcsAt w' A xs := fun k a hk => by
  obtain ⟨g, o, rfl, h5⟩ := h k a hk
  exact ⟨g, o, rfl, h5.keep (hg.block g h5.lt (fun e => hne g e.symm rfl))⟩

theorem IntsAt.grown {w w' : World} {A : Option Addr} {xs : List Int} {row : Option Nat} (h : IntsAt w A xs) (hg : w.grownBy w' row) (hne : ∀ b, row = some b → blk A ≠ some b) : IntsAt w' A xs := fun k a hk => by
  obtain ⟨g, o, rfl, h5⟩ := h k a hk
  exact ⟨g, o, rfl, hg.cell h5 (fun e => hne g e.symm rfl)⟩

theorem ArcsAt.lt {w : World} {A : Option Addr} {xs : List ArcD} (h : ArcsAt w A xs) (hx : xs ≠ []) (b : Nat) (hb : blk A = some b) : b < w.heap.size := by
  cases xs with
  | nil => exact absurd rfl hx
  | cons x xs =>
    obtain ⟨g, o, rfl, h5⟩ := h 0 x rfl
    simp [blk] at hb
    subst hb
    exact h5.lt

theorem cell_in {W w1 : World} {p : Addr} {v : Value} (hb : Below W.heap.size W w1) (h : W.cell? p = some v) : w1.cell? p = some v := (hb.cell (lt_of_cell h)).trans h
theorem free_in {W w1 : World} {p : Addr} {v : Value} (hb : Below W.heap.size W w1) (h : W.cell? p = some v) (hf : W.frozen? p = false) : w1.frozen? p = false := (hb.frozen (lt_of_cell h)).trans hf

theorem Made.far {w : World} {g t n k : Nat} {xs : List ArcD} (h : Made w g t n xs k) (p : Addr) (u : Value) (hp : g ≠ p.block) : Made (w.setCell p u) g t n xs k := by
  have e := Below.heap_setCell w p u g hp
  exact ⟨h.1.keep e, fun j a hj ha => (h.2 j a hj ha).keep e⟩

/-- Block g is a row for n numbers, of which the first k are there. -/
def MadeI (w : World) (g t n : Nat) (xs : List Int) (k : Nat) : Prop :=
  RowN w g t n ∧ ∀ j x, j < k → xs[j]? = some x → w.cell? ⟨g, j, none⟩ = some (.int .i64 x)

theorem MadeI.below {w w' : World} {g t n k : Nat} {xs : List Int} (h : MadeI w g t n xs k) (hb : Below w.heap.size w w') : MadeI w' g t n xs k := by
  have e := hb.block g h.1.lt
  exact ⟨h.1.keep e, fun j a hj ha => cell_in hb (h.2 j a hj ha)⟩

theorem MadeI.start (w : World) (t n : Nat) (xs : List Int) (cs : Array Value) (hs : cs.size = n) : MadeI (w.alloc (.cells cs t)) w.heap.size t n xs 0 :=
  ⟨⟨cs, heap_alloc_new w _, hs⟩, fun j a hj => absurd hj (by omega)⟩

theorem MadeI.next {w : World} {g t n k : Nat} {xs : List Int} {x : Int} (h : MadeI w g t n xs k) (ha : xs[k]? = some x) (hk : k < n) : MadeI (w.setCell ⟨g, k, none⟩ (.int .i64 x)) g t n xs (k + 1) := by
  refine ⟨h.1.set _ _, fun j a hj hja => ?_⟩
  rcases Nat.lt_or_ge j k with hlt | hge
  · exact (World.cell?_setCell_other w ⟨g, k, none⟩ ⟨g, j, none⟩ _ (by intro e; injection e; omega)).trans (h.2 j a hlt hja)
  · obtain rfl : j = k := by omega
    rw [ha] at hja
    injection hja with hja
    subst hja
    obtain ⟨v, hv⟩ := h.1.cell hk
    exact World.cell?_setCell_same w ⟨g, j, none⟩ _ hv

theorem MadeI.ints {w : World} {g t n : Nat} {xs : List Int} (h : MadeI w g t n xs n) (hl : xs.length = n) : IntsAt w (some ⟨g, 0, none⟩) xs := fun k a ha => by
  have hk : k < n := by rw [← hl]; exact (List.getElem?_eq_some_iff.1 ha).1
  exact ⟨g, 0, rfl, by rw [Nat.zero_add]; exact h.2 k a hk ha⟩

theorem ArcsAt.drew {w : World} {A : Option Addr} {xs : List ArcD} (h : ArcsAt w A xs) : ArcsAt w.drew A xs := h
theorem IntsAt.drew {w : World} {A : Option Addr} {xs : List Int} (h : IntsAt w A xs) : IntsAt w.drew A xs := h
theorem Made.drew {w : World} {g t n k : Nat} {xs : List ArcD} (h : Made w g t n xs k) : Made w.drew g t n xs k := h

/-- One world behind another, and a third one behind that. -/
theorem bel_trans {a b c : World} (h : Below a.heap.size a b) (k : Below b.heap.size b c) : Below a.heap.size a c := h.trans (k.mono h.size)

end Go.Proofs.Ytaojognjkiifmac
