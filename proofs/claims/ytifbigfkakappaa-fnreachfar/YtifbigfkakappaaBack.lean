/-
  A net turned round: spec.l1Back, spec.NetBack, slices.Clone, impl.NetBack. And what is known of a slice of arcs that a call hands back in new memory.
-/
import Derived.Test.YtifbigfkakappaaOk
import Derived.Test.YtifbigfkakappaaTo
import Derived.Lib.SliceRun
import Derived.BigRegion
namespace Go.Proofs.Ytifbigfkakappaa
open Go.RowKit

def cellsOf : List ArcD → List Value
  | [] => []
  | a :: xs => .int .i64 a.f :: .int .i64 a.t :: .int .i64 a.c :: .int .i64 a.l :: .int .i64 a.d :: cellsOf xs

theorem cellsOf_append (a b : List ArcD) : cellsOf (a ++ b) = cellsOf a ++ cellsOf b := by
  induction a with
  | nil => rfl
  | cons x a ih => simp [cellsOf, ih]
theorem cellsOf_length (xs : List ArcD) : (cellsOf xs).length = xs.length * 5 := by
  induction xs with
  | nil => rfl
  | cons x a ih => simp [cellsOf, ih]; omega
theorem cellsOf_one (xs : List ArcD) : ∀ u ∈ cellsOf xs, u.oneCell' = true := by
  induction xs with
  | nil => simp [cellsOf]
  | cons x a ih =>
    intro u hu
    simp only [cellsOf, List.mem_cons] at hu
    rcases hu with rfl | rfl | rfl | rfl | rfl | hu
    all_goals first | rfl | exact ih u hu

theorem cells_of_arcs {w : World} {g : Nat} (xs : List ArcD) : ∀ o, (∀ k a, xs[k]? = some a → Arc5 w g (o + k * 5) a) → ∀ j u, (cellsOf xs)[j]? = some u → w.cell? ⟨g, o + j, none⟩ = some u := by
  induction xs with
  | nil => intro o _ j u h; simp [cellsOf] at h
  | cons a xs ih =>
    intro o h j u hu
    have h0 := h 0 a rfl
    simp only [Nat.zero_mul, Nat.add_zero] at h0
    match j, hu with
    | 0, hu => simp [cellsOf] at hu; subst hu; exact h0.1
    | 1, hu => simp [cellsOf] at hu; subst hu; exact h0.2.1
    | 2, hu => simp [cellsOf] at hu; subst hu; exact h0.2.2.1
    | 3, hu => simp [cellsOf] at hu; subst hu; exact h0.2.2.2.1
    | 4, hu => simp [cellsOf] at hu; subst hu; exact h0.2.2.2.2
    | j + 5, hu =>
      have := ih (o + 5) (fun k b hk => by
        have := h (k + 1) b (by simpa using hk)
        rw [show o + (k + 1) * 5 = o + 5 + k * 5 by omega] at this
        exact this) j u (by simpa [cellsOf] using hu)
      rw [show o + 5 + j = o + (j + 5) by omega] at this
      exact this

theorem arcs_of_cells {w : World} {g : Nat} (xs : List ArcD) : ∀ o, (∀ j u, (cellsOf xs)[j]? = some u → w.cell? ⟨g, o + j, none⟩ = some u) → ∀ k a, xs[k]? = some a → Arc5 w g (o + k * 5) a := by
  induction xs with
  | nil => intro o _ k a h; simp at h
  | cons b xs ih =>
    intro o h k a hk
    cases k with
    | zero =>
      simp only [List.getElem?_cons_zero, Option.some.injEq] at hk
      subst hk
      simp only [Nat.zero_mul, Nat.add_zero]
      exact ⟨h 0 _ rfl, h 1 _ rfl, h 2 _ rfl, h 3 _ rfl, h 4 _ rfl⟩
    | succ k =>
      have := ih (o + 5) (fun j u hu => by
        have := h (j + 5) u (by simpa [cellsOf] using hu)
        rw [show o + (j + 5) = o + 5 + j by omega] at this
        exact this) k a (by simpa using hk)
      rw [show o + 5 + k * 5 = o + (k + 1) * 5 by omega] at this
      exact this

/-- v is a slice of the call's own (from block lo on) that holds these arcs. -/
def ResA (w : World) (lo : Nat) (v : Value) (xs : List ArcD) : Prop := w.ownsRow lo 57 5 v xs.length (cellsOf xs)

theorem ResA.nil (w : World) (lo : Nat) : ResA w lo (.slice none 0 0) [] := World.ownsRow_nil w lo _ _
theorem ResA.form {w : World} {lo : Nat} {v : Value} {xs : List ArcD} (h : ResA w lo v xs) : ∃ A c, v = .slice A xs.length c ∧ ArcsAt w A xs ∧ OwnAt w lo A 57 5 xs.length := by
  rcases h.2 with ⟨rfl, h0⟩ | ⟨g, cap, cur, rfl, hlo, hh, hn, hm, hs, ht⟩
  · have : xs = [] := List.eq_nil_of_length_eq_zero h0
    subst this
    exact ⟨none, 0, rfl, fun k x hk => by simp at hk, .inl ⟨rfl, rfl⟩⟩
  · refine ⟨_, _, rfl, fun k a hk => ⟨g, 0, rfl, arcs_of_cells xs 0 (fun j u hu => ?_) k a hk⟩, .inr ⟨g, cur.size, rfl, hlo, ⟨cur, hh, rfl⟩, by rw [hs]; exact Nat.mul_le_mul_right _ hn⟩⟩
    have := h.cells (g := g) rfl j u hu
    rw [Addr.add_lit] at this
    exact this
theorem ResA.formN {w : World} {lo n : Nat} {v : Value} {xs : List ArcD} (h : ResA w lo v xs) (hl : xs.length = n) : ∃ A c, v = .slice A n c ∧ ArcsAt w A xs ∧ OwnAt w lo A 57 5 n := by
  subst hl
  exact h.form
theorem ResA.below {w w' : World} {lo : Nat} {v : Value} {xs : List ArcD} (h : ResA w lo v xs) (hb : Below w.heap.size w w') : ResA w' lo v xs :=
  World.ownsRow.kept h (grown_of_below hb none) (by cases hv : v.ownBlock <;> simp)
theorem ResA.lower {w : World} {lo lo' : Nat} {v : Value} {xs : List ArcD} (h : ResA w lo v xs) (hl : lo' ≤ lo) : ResA w lo' v xs := by
  refine ⟨h.1, ?_⟩
  rcases h.2 with h0 | ⟨g, cap, cur, hv, hlo, r⟩
  · exact .inl h0
  · exact .inr ⟨g, cap, cur, hv, by omega, r⟩

/-- A net in new memory is handed back. -/
def GivesNet (w : World) (m : Int) (xs : List ArcD) (e : Ending) (w' : World) : Prop :=
  ∃ A c, e = .returned (.agg #[.int .i64 m, .slice A xs.length c]) ∧ ArcsAt w' A xs ∧ OwnAt w' w.heap.size A 57 5 xs.length ∧ Below w.heap.size w w'

def flip (a : ArcD) : ArcD := ⟨a.t, a.f, a.c, a.l, a.d⟩

theorem take_flip (xs : List ArcD) (k : Nat) (a : ArcD) (h : xs[k]? = some a) : (xs.take (k + 1)).map flip = (xs.take k).map flip ++ [flip a] := by
  rw [List.take_add_one, h]
  simp

theorem five_new (w : World) (x0 x1 x2 x3 x4 : Value) (t : Nat) : ∀ j u, ([x0, x1, x2, x3, x4] : List Value)[j]? = some u → (w.alloc (.cells #[x0, x1, x2, x3, x4] t)).cell? ((⟨w.heap.size, 0, none⟩ : Addr).add j) = some u := by
  intro j u hu
  rw [Addr.add_lit, Nat.zero_add, cell_of_row _ _ _ _ _ _ (heap_alloc_new w _)]
  simpa using hu


end Go.Proofs.Ytifbigfkakappaa
