/-
  Turn: 3 numbers as they lie in memory, slices of them, and the copies, comparisons and marks that the laws make of them. No condition.
-/
import Derived.Test.YtaojognjkiifmabMarkB
import Derived.Test.YtaojognjkiifmabOpenW
namespace Go.Proofs.Ytaojognjkiifmab
open Go.RowKit

structure TurnD where
  x0 : Int
  x1 : Int
  x2 : Int
  deriving DecidableEq, Inhabited

def TurnRec (w : World) (g p : Nat) (a : TurnD) : Prop :=
  w.cell? ⟨g, p, none⟩ = some (.int .i64 a.x0) ∧ w.cell? ⟨g, p + 1, none⟩ = some (.int .i64 a.x1) ∧ w.cell? ⟨g, p + 2, none⟩ = some (.int .i64 a.x2)

/-- A slice's address leads to these. -/
def TurnsAt (w : World) (A : Option Addr) (xs : List TurnD) : Prop :=
  ∀ (k : Nat) (a : TurnD), xs[k]? = some a → ∃ g o, A = some ⟨g, o, none⟩ ∧ TurnRec w g (o + k * 3) a

theorem TurnRec.lt {w : World} {g p : Nat} {a : TurnD} (h : TurnRec w g p a) : g < w.heap.size := lt_of_cell h.1
theorem TurnRec.keep {w w' : World} {g p : Nat} {a : TurnD} (h : TurnRec w g p a) (e : w'.heap[g]? = w.heap[g]?) : TurnRec w' g p a := by
  have hc : ∀ o, w'.cell? ⟨g, o, none⟩ = w.cell? ⟨g, o, none⟩ := fun o => World.cell?_of_block (w := w) (a := ⟨g, o, none⟩) e
  unfold TurnRec
  simp only [hc]
  exact h
theorem TurnsAt.below {w w' : World} {A : Option Addr} {xs : List TurnD} (h : TurnsAt w A xs) (hb : Below w.heap.size w w') : TurnsAt w' A xs := fun k a hk => by
  obtain ⟨g, o, hA, h5⟩ := h k a hk
  exact ⟨g, o, hA, h5.keep (hb.block g h5.lt)⟩
theorem TurnsAt.drew {w : World} {A : Option Addr} {xs : List TurnD} (h : TurnsAt w A xs) : TurnsAt w.drew A xs := h
theorem TurnsAt.old {wE w w' : World} {A : Option Addr} {xs : List TurnD} {g : Nat} (hE : TurnsAt wE A xs) (h : TurnsAt w A xs) (hg : w.grownBy w' (some g)) (hle : wE.heap.size ≤ g) : TurnsAt w' A xs := fun k x hk => by
  obtain ⟨b, o, rfl, hc⟩ := hE k x hk
  obtain ⟨b', o', e, hc'⟩ := h k x hk
  have hb := hc.lt
  injection e with e
  injection e with e1 e2
  subst e1 e2
  exact ⟨b, o, rfl, hc'.keep (hg.block b hc'.lt (by simp only [ne_eq, Option.some.injEq]; omega))⟩
theorem TurnsAt.young {w w' : World} {A : Option Addr} {xs : List TurnD} {g lo t : Nat} (ho : OwnAt w lo A t 3 xs.length) (h : TurnsAt w A xs) (hg : w.grownBy w' (some g)) (hlt : g < lo) : TurnsAt w' A xs := fun k x hk => by
  obtain ⟨b', o', rfl, hc'⟩ := h k x hk
  rcases ho with ⟨h0, _⟩ | ⟨b, sz, e, hl, _, _⟩
  · cases h0
  · injection e with e
    injection e with e1 e2
    subst e1
    exact ⟨b', o', rfl, hc'.keep (hg.block b' hc'.lt (by simp only [ne_eq, Option.some.injEq]; omega))⟩
theorem TurnsAt.under {wE w w' : World} {A : Option Addr} {xs : List TurnD} {lo : Nat} (hE : TurnsAt wE A xs) (h : TurnsAt w A xs) (hb : Below lo w w') (hle : wE.heap.size ≤ lo) : TurnsAt w' A xs := fun k x hk => by
  obtain ⟨b, o, rfl, hc⟩ := hE k x hk
  obtain ⟨b', o', e, hc'⟩ := h k x hk
  have hb' := hc.lt
  injection e with e
  injection e with e1 e2
  subst e1 e2
  exact ⟨b, o, rfl, hc'.keep (hb.block b (by omega))⟩

/-- Block g is a row for n of them, of which the first k are there. -/
def MadeTurn (w : World) (g t n : Nat) (xs : List TurnD) (k : Nat) : Prop :=
  RowN w g t (n * 3) ∧ ∀ j a, j < k → xs[j]? = some a → TurnRec w g (j * 3) a
theorem MadeTurn.below {w w' : World} {g t n k : Nat} {xs : List TurnD} (h : MadeTurn w g t n xs k) (hb : Below w.heap.size w w') : MadeTurn w' g t n xs k := by
  have e := hb.block g h.1.lt
  exact ⟨h.1.keep e, fun j a hj ha => (h.2 j a hj ha).keep e⟩
theorem MadeTurn.start (w : World) (t n : Nat) (xs : List TurnD) (cs : Array Value) (hs : cs.size = n * 3) : MadeTurn (w.alloc (.cells cs t)) w.heap.size t n xs 0 :=
  ⟨⟨cs, heap_alloc_new w _, hs⟩, fun j a hj => absurd hj (by omega)⟩
theorem TurnRec.set {w : World} {g p : Nat} {a : TurnD} (h : TurnRec w g p a) (q : Nat) (u : Value) (hq : q < p ∨ p + 2 < q) : TurnRec (w.setCell ⟨g, q, none⟩ u) g p a := by
  have hc : ∀ o, p ≤ o → o ≤ p + 2 → (w.setCell ⟨g, q, none⟩ u).cell? ⟨g, o, none⟩ = w.cell? ⟨g, o, none⟩ := fun o h1 h2 => World.cell?_setCell_other w ⟨g, q, none⟩ ⟨g, o, none⟩ u (by intro e; injection e; omega)
  unfold TurnRec
  rw [hc (p) (by omega) (by omega), hc (p + 1) (by omega) (by omega), hc (p + 2) (by omega) (by omega)]
  exact h
theorem TurnRec.far {w : World} {g p : Nat} {a : TurnD} (h : TurnRec w g p a) (q : Addr) (u : Value) (hq : g ≠ q.block) : TurnRec (w.setCell q u) g p a := h.keep (Below.heap_setCell w q u g hq)

theorem TurnRec.put {w : World} {g t n p : Nat} (h : RowN w g t n) (hp : p + 2 < n) (x0 x1 x2 : Int) :
    TurnRec (((w.setCell ⟨g, p, none⟩ (.int .i64 x0)).setCell ⟨g, p + 1, none⟩ (.int .i64 x1)).setCell ⟨g, p + 2, none⟩ (.int .i64 x2)) g p ⟨x0, x1, x2⟩ := by
  have same : ∀ (u : World) (q : Nat) (x : Value), RowN u g t n → q < n → (u.setCell ⟨g, q, none⟩ x).cell? ⟨g, q, none⟩ = some x := fun u q x hu hq => by
    obtain ⟨v, hv⟩ := hu.cell hq
    exact World.cell?_setCell_same u ⟨g, q, none⟩ x hv
  have oth : ∀ (u : World) (q o : Nat) (x : Value), q ≠ o → (u.setCell ⟨g, q, none⟩ x).cell? ⟨g, o, none⟩ = u.cell? ⟨g, o, none⟩ := fun u q o x hq =>
    World.cell?_setCell_other u ⟨g, q, none⟩ ⟨g, o, none⟩ x (by intro e; injection e; omega)
  refine ⟨?_, ?_, ?_⟩
  · rw [oth _ _ _ _ (by omega), oth _ _ _ _ (by omega), same _ _ _ h (by omega)]
  · rw [oth _ _ _ _ (by omega), same _ _ _ (h.set _ _) (by omega)]
  · rw [same _ _ _ ((h.set _ _).set _ _) (by omega)]
theorem MadeTurn.next {w : World} {g t n k : Nat} {xs : List TurnD} {x0 x1 x2 : Int} (h : MadeTurn w g t n xs k) (ha : xs[k]? = some ⟨x0, x1, x2⟩) (hk : k < n) :
    MadeTurn (((w.setCell ⟨g, k * 3, none⟩ (.int .i64 x0)).setCell ⟨g, k * 3 + 1, none⟩ (.int .i64 x1)).setCell ⟨g, k * 3 + 2, none⟩ (.int .i64 x2)) g t n xs (k + 1) := by
  refine ⟨(((h.1.set _ _).set _ _).set _ _), fun j a hj hja => ?_⟩
  rcases Nat.lt_or_ge j k with hlt | hge
  · exact ((((h.2 j a hlt hja).set _ _ (by omega)).set _ _ (by omega)).set _ _ (by omega))
  · obtain rfl : j = k := by omega
    rw [ha] at hja
    injection hja with hja
    subst hja
    exact TurnRec.put h.1 (by omega) _ _ _
theorem MadeTurn.at_ {w : World} {g t n : Nat} {xs : List TurnD} (h : MadeTurn w g t n xs n) (hl : xs.length = n) : TurnsAt w (some ⟨g, 0, none⟩) xs := fun k a ha => by
  have hk : k < n := by rw [← hl]; exact (List.getElem?_eq_some_iff.1 ha).1
  exact ⟨g, 0, rfl, by rw [Nat.zero_add]; exact h.2 k a hk ha⟩

def cellsTurn : List TurnD → List Value
  | [] => []
  | a :: xs => .int .i64 a.x0 :: .int .i64 a.x1 :: .int .i64 a.x2 :: cellsTurn xs
theorem cellsTurn_append (a b : List TurnD) : cellsTurn (a ++ b) = cellsTurn a ++ cellsTurn b := by
  induction a with
  | nil => rfl
  | cons x a ih => simp [cellsTurn, ih]
theorem cellsTurn_length (xs : List TurnD) : (cellsTurn xs).length = xs.length * 3 := by
  induction xs with
  | nil => rfl
  | cons x a ih => simp [cellsTurn, ih]; omega
theorem cellsTurn_one (xs : List TurnD) : ∀ u ∈ cellsTurn xs, u.oneCell' = true := by
  induction xs with
  | nil => simp [cellsTurn]
  | cons x a ih =>
    intro u hu
    simp only [cellsTurn, List.mem_cons] at hu
    rcases hu with rfl | rfl | rfl | hu
    all_goals first | rfl | exact ih u hu
theorem cells_of_turns {w : World} {g : Nat} (xs : List TurnD) : ∀ o, (∀ k a, xs[k]? = some a → TurnRec w g (o + k * 3) a) → ∀ j u, (cellsTurn xs)[j]? = some u → w.cell? ⟨g, o + j, none⟩ = some u := by
  induction xs with
  | nil => intro o _ j u h; simp [cellsTurn] at h
  | cons a xs ih =>
    intro o h j u hu
    have h0 := h 0 a rfl
    simp only [Nat.zero_mul, Nat.add_zero] at h0
    match j, hu with
    | 0, hu => simp [cellsTurn] at hu; subst hu; exact h0.1
    | 1, hu => simp [cellsTurn] at hu; subst hu; exact h0.2.1
    | 2, hu => simp [cellsTurn] at hu; subst hu; exact h0.2.2
    | j + 3, hu =>
      have := ih (o + 3) (fun k b hk => by
        have := h (k + 1) b (by simpa using hk)
        rw [show o + (k + 1) * 3 = o + 3 + k * 3 by omega] at this
        exact this) j u (by simpa [cellsTurn] using hu)
      rw [show o + 3 + j = o + (j + 3) by omega] at this
      exact this
theorem turns_of_cells {w : World} {g : Nat} (xs : List TurnD) : ∀ o, (∀ j u, (cellsTurn xs)[j]? = some u → w.cell? ⟨g, o + j, none⟩ = some u) → ∀ k a, xs[k]? = some a → TurnRec w g (o + k * 3) a := by
  induction xs with
  | nil => intro o _ k a h; simp at h
  | cons b xs ih =>
    intro o h k a hk
    cases k with
    | zero =>
      simp only [List.getElem?_cons_zero, Option.some.injEq] at hk
      subst hk
      simp only [Nat.zero_mul, Nat.add_zero]
      exact ⟨h 0 _ rfl, h 1 _ rfl, h 2 _ rfl⟩
    | succ k =>
      have := ih (o + 3) (fun j u hu => by
        have := h (j + 3) u (by simpa [cellsTurn] using hu)
        rw [show o + (j + 3) = o + 3 + j by omega] at this
        exact this) k a (by simpa using hk)
      rw [show o + 3 + k * 3 = o + (k + 1) * 3 by omega] at this
      exact this
theorem newTurn (w : World) (x0 x1 x2 : Value) (t : Nat) : ∀ j u, ([x0, x1, x2] : List Value)[j]? = some u → (w.alloc (.cells #[x0, x1, x2] t)).cell? ((⟨w.heap.size, 0, none⟩ : Addr).add j) = some u := by
  intro j u hu
  rw [Addr.add_lit, Nat.zero_add, cell_of_row _ _ _ _ _ _ (heap_alloc_new w _)]
  simpa using hu
end Go.Proofs.Ytaojognjkiifmab
