/-
  A net with other costs. Plain, and how it lies in memory while it is made. No condition.
-/
import Derived.Test.YteemckhfkgmolaaPLift
import Derived.Test.YteemckhfkgmolaaBack4
namespace Go.Proofs.Yteemckhfkgmolaa
open Go.RowKit

def setC (a : ArcD) (c : Int) : ArcD := ⟨a.f, a.t, c, a.l, a.d⟩
def costed (xs : List ArcD) (cs : List Int) : List ArcD := List.zipWith setC xs cs
def cnetL (m : Int) (xs : List ArcD) (cs : List Int) : List ArcD := if metricB m xs cs then costed xs cs else []
def cnetN (m : Int) (xs : List ArcD) (cs : List Int) : Int := if metricB m xs cs then m else 0

theorem costed_len {xs : List ArcD} {cs : List Int} (h : cs.length = xs.length) : (costed xs cs).length = xs.length := by
  rw [costed, List.length_zipWith, h, Nat.min_self]
theorem costed_at {xs : List ArcD} {cs : List Int} {k : Nat} {b : ArcD} (h : (costed xs cs)[k]? = some b) : ∃ a c, xs[k]? = some a ∧ cs[k]? = some c ∧ b = setC a c := by
  rw [costed, List.getElem?_zipWith] at h
  cases hx : xs[k]? with
  | none => rw [hx] at h; simp at h
  | some a =>
    cases hc : cs[k]? with
    | none => rw [hx, hc] at h; simp at h
    | some c =>
      rw [hx, hc] at h
      simp at h
      exact ⟨a, c, rfl, rfl, h.symm⟩
theorem cnetL_len (m : Int) (xs : List ArcD) (cs : List Int) : (cnetL m xs cs).length ≤ xs.length := by
  unfold cnetL costed
  split
  · rw [List.length_zipWith]; omega
  · simp

/-- A net in new memory and a truth are handed back. -/
def GivesNetB (w : World) (m : Int) (xs : List ArcD) (b : Bool) (e : Ending) (w' : World) : Prop :=
  ∃ A c, e = .returned (.tuple #[.agg #[.int .i64 m, .slice A xs.length c], .bool b]) ∧ ArcsAt w' A xs ∧ OwnAt w' w.heap.size A 68 5 xs.length ∧ Below w.heap.size w w'

/-- The first k arcs have their new costs, the others not yet. -/
def Costed (w : World) (g sz : Nat) (xs : List ArcD) (cs : List Int) (k : Nat) : Prop :=
  RowN w g 68 sz ∧ (∀ j a c, j < k → xs[j]? = some a → cs[j]? = some c → Arc5 w g (j * 5) (setC a c)) ∧ (∀ j a, k ≤ j → xs[j]? = some a → Arc5 w g (j * 5) a)

theorem Costed.keep {w w' : World} {g sz k : Nat} {xs : List ArcD} {cs : List Int} (h : Costed w g sz xs cs k) (e : w'.heap[g]? = w.heap[g]?) : Costed w' g sz xs cs k :=
  ⟨h.1.keep e, fun j a c hj ha hc => (h.2.1 j a c hj ha hc).keep e, fun j a hj ha => (h.2.2 j a hj ha).keep e⟩

theorem Costed.next {w : World} {g sz k : Nat} {xs : List ArcD} {cs : List Int} {a : ArcD} {y : Int} (h : Costed w g sz xs cs k) (ha : xs[k]? = some a) (hy : cs[k]? = some y) :
    Costed (w.setCell ⟨g, k * 5 + 2, none⟩ (.int .i64 y)) g sz xs cs (k + 1) := by
  refine ⟨h.1.set _ _, fun j b c hj hjb hjc => ?_, fun j b hj hjb => ?_⟩
  · rcases Nat.lt_or_ge j k with hlt | hge
    · exact (h.2.1 j b c hlt hjb hjc).set _ _ (by omega)
    · obtain rfl : j = k := by omega
      rw [ha] at hjb
      injection hjb with hjb
      subst hjb
      rw [hy] at hjc
      injection hjc with hjc
      subst hjc
      obtain ⟨c0, c1, c2, c3, c4⟩ := h.2.2 j _ (Nat.le_refl _) ha
      have oth : ∀ (o : Nat), j * 5 + 2 ≠ o → (w.setCell ⟨g, j * 5 + 2, none⟩ (.int .i64 y)).cell? ⟨g, o, none⟩ = w.cell? ⟨g, o, none⟩ := fun o hq =>
        World.cell?_setCell_other w ⟨g, j * 5 + 2, none⟩ ⟨g, o, none⟩ _ (by intro e; injection e; omega)
      exact ⟨(oth _ (by omega)).trans c0, (oth _ (by omega)).trans c1, World.cell?_setCell_same w ⟨g, j * 5 + 2, none⟩ _ c2, (oth _ (by omega)).trans c3, (oth _ (by omega)).trans c4⟩
  · exact (h.2.2 j b (by omega) hjb).set _ _ (by omega)

theorem Costed.arcs {w : World} {g sz n : Nat} {xs : List ArcD} {cs : List Int} (h : Costed w g sz xs cs n) (hl : xs.length = n) : ArcsAt w (some ⟨g, 0, none⟩) (costed xs cs) := fun j b hj => by
  obtain ⟨a, c, ha, hc, rfl⟩ := costed_at hj
  exact ⟨g, 0, rfl, by rw [Nat.zero_add]; exact h.2.1 j a c (by rw [← hl]; exact (List.getElem?_eq_some_iff.1 ha).1) ha hc⟩

theorem clone_all (A : Option Addr) (n c : Nat) (xs : List ArcD) (w : World) (hn : n ≤ 1048576) (hl : xs.length = n) (hx : ArcsAt w A xs) (ho : (A = none ∧ n = 0) ∨ ∃ g o, A = some ⟨g, o, none⟩) :
    Calls Try.prog 49 #[.slice A n c] w (GivesArcs w xs) := by
  rcases ho with ⟨rfl, rfl⟩ | ⟨g, o, rfl⟩
  · obtain rfl : xs = [] := List.eq_nil_of_length_eq_zero hl
    exact clone_nil c w
  · exact clone_any g o n c xs w hn hl hx

end Go.Proofs.Yteemckhfkgmolaa
