/-
  l30Node, DrawNetOut: a net in new memory, and a number.
-/
import Derived.Test.YtgeoheeibebmcabDraw4
namespace Go.Proofs.Ytgeoheeibebmcab
open Go.RowKit

theorem two_at (w : World) (x y : Int) : IntsAt (w.alloc (.cells #[.int .i64 x, .int .i64 y] 3)) (some ⟨w.heap.size, 0, none⟩) [x, y] := fun j a hj => by
  refine ⟨w.heap.size, 0, rfl, ?_⟩
  match j with
  | 0 => simp at hj; subst hj; go_simp
  | 1 => simp at hj; subst hj; go_simp
  | j + 2 => simp at hj

/-- A number was drawn. -/
def NumG (w : World) (R lo : Nat) (A : Option Addr) (n c f : Nat) (e : Ending) (w' : World) : Prop :=
  ∃ z : Int, e = .returned (.int .i64 z) ∧ RdF w' R lo A n c f ∧ w.grownBy w' (some R)

set_option maxRecDepth 100000 in
set_option maxHeartbeats 2000000 in
theorem l30Node_any (R lo : Nat) (A B : Option Addr) (n c f k cap : Nat) (m : Int) (w : World) (h : RdF w R lo A n c (f + 2)) :
    Calls Try.prog 54 #[.pointer (some ⟨R, 0, none⟩), .agg #[.int .i64 m, .slice B k cap]] w (NumG w R lo A n c f) := by
  have hRw := h.at_
  have hpV : Past w (w.alloc (.cells #[.int .i64 m, .slice B k cap] 25)) := (Past.refl w).alloc _
  have b0 : (w.alloc (.cells #[.int .i64 m, .slice B k cap] 25)).cell? ⟨w.heap.size, 0, none⟩ = some (.int .i64 m) := by go_simp
  have hne : w.heap.size ≠ R := by omega
  have h' : RdF (w.alloc (.cells #[.int .i64 m, .slice B k cap] 25)) R lo A n c (f + 1 + 1) := h.below hpV
  have gV : w.grownBy (w.alloc (.cells #[.int .i64 m, .slice B k cap] 25)) (some R) := World.grownBy_alloc w _ _
  go_enter Try.func54, Try.ntmps54
  go_wp2_with fail
  refine (pickF (f := f + 1) 16 h').mono ?_
  rintro e w1 ⟨q, rfl, hq0, hq1, hr1, hg1⟩
  have b0 := cell_far hg1 b0 hne
  have gW := grown_trans gV hg1
  have hs1 := gW.size
  have hR1 := hr1.at_
  clear h h' hpV hg1 gV
  by_cases hq : q = 0
  · subst hq
    have hpa : Past w1 (w1.alloc (.cells #[.int .i64 (-1), .int .i64 m] 3)) := (Past.refl w1).alloc _
    have hz := two_at w1 (-1) m
    have hne2 : w1.heap.size ≠ R := by omega
    have gA := grown_trans gW (World.grownBy_alloc w1 (.cells #[.int .i64 (-1), .int .i64 m] 3) (some R))
    have hrA := hr1.below hpa
    clear gW hpa hr1
    go_wp2_with fail
    refine (oneF (l := 2) [-1, m] hrA rfl (by omega) (by omega) hz hne2).mono ?_
    rintro e w2 ⟨z, rfl, _, hr2, hg2⟩
    go_wp2
    go_ret
    exact ⟨z, rfl, hr2, grown_trans gA hg2⟩
  · go_wp2_with fail
    refine (pickF (f := f) m hr1).mono ?_
    rintro e w2 ⟨z, rfl, _, _, hr2, hg2⟩
    go_wp2
    go_ret
    exact ⟨z, rfl, hr2, grown_trans gW hg2⟩

theorem ownForm {w : World} {lo t size n : Nat} {A : Option Addr} (h : OwnAt w lo A t size n) : (A = none ∧ n = 0) ∨ ∃ g o, A = some ⟨g, o, none⟩ := by
  rcases h with h | ⟨g, _, rfl, _⟩
  · exact .inl h
  · exact .inr ⟨g, 0, rfl⟩
/-- A net and a number were drawn. -/
def DrawNodeG (w : World) (e : Ending) (w' : World) : Prop :=
  ∃ (m : Int) (B : Option Addr) (k cap : Nat) (xs : List ArcD) (z : Int), e = .returned (.tuple #[.agg #[.int .i64 m, .slice B k cap], .int .i64 z]) ∧ xs.length = k ∧ k ≤ 13 ∧ ArcsAt w' B xs ∧ ((∀ g, g < w.heap.size → blk B ≠ some g) ∧ ((B = none ∧ k = 0) ∨ ∃ g o, B = some ⟨g, o, none⟩)) ∧ Below w.heap.size w w'

end Go.Proofs.Ytgeoheeibebmcab
