/-
  A walk without its rings: spec.WalkPlain, impl.WalkPlain.
-/
import Derived.Test.YtokljfeoignbcaaPlain
namespace Go.Proofs.Ytokljfeoignbcaa
open Go.RowKit

set_option maxHeartbeats 400000 in
theorem implWalkPlain_any (m : Int) (A B : Option Addr) (n c l cb : Nat) (xs : List ArcD) (ys : List Int) (w : World) (hn : n ≤ 1048576) (hl : l ≤ 1048576) (hnx : xs.length = n) (hny : ys.length = l) (hx : ArcsAt w A xs) (hy : IntsAt w B ys) :
    Calls Try.prog 37 #[.agg #[.int .i64 m, .slice A n c], .slice B l cb] w (Gives w (plainI m xs ys)) := by
  have HX := Lib.hid hnx
  have HY := Lib.hid hny
  clear hnx hny
  have hb0 : Past w (w.alloc (.cells #[.int .i64 m, .slice A n c] 30)) := (Past.refl _).alloc _
  go_enter Try.func37, Try.ntmps37
  go_wp2_with fail
  refine (implWalkOk_any m A B n c l cb xs ys _ hn hl HX.out HY.out (hx.below hb0) (hy.below hb0)).mono ?_
  rintro e w1 ⟨rfl, hb1⟩
  have b0 := cell_in (p := ⟨w.heap.size, 0, none⟩) (v := .int .i64 m) hb1 (by go_simp)
  have b1 := cell_in (p := ⟨w.heap.size, 1, none⟩) (v := .slice A n c) hb1 (by go_simp)
  cases hB : okB m xs ys with
  | false =>
    have HB := Lib.hid hB
    clear hB
    go_wp2
    go_ret
    exact ⟨_, rfl, by simp only [plainI, HB.out, Bool.false_eq_true, if_false]; exact Res.nil _ _, hb0.trans hb1⟩
  | true =>
    have HB := Lib.hid hB
    clear hB
    go_wp2_with fail
    refine (walkPlain_any m A B n c l cb xs ys _ HX.out HY.out ((hx.below hb0).below hb1) ((hy.below hb0).below hb1) HB.out).mono ?_
    rintro e w2 ⟨v, rfl, hv, hb2⟩
    go_wp2
    go_ret
    exact ⟨_, rfl, hv.lower (hb0.trans hb1).size, hb0.trans (Past.trans hb1 hb2)⟩

/-- At the head of a round: what was kept, and where the walk stands. -/
def PlainHead (nd ys tot done : List Int) (l i : Nat) : Prop := (i ≤ l ∧ ∃ fuel, PlainAt nd ys tot done i fuel) ∨ (i = l + 1 ∧ done = tot)

/-- p is where x stands last among places i to k. -/
structure LastIn (nd : List Int) (x : Int) (i p k : Nat) : Prop where
  lo : i ≤ p
  hi : p ≤ k
  here : nd[p]? = some x
  none_ : ∀ j, p < j → j ≤ k → nd[j]? ≠ some x

theorem LastIn.miss {nd : List Int} {x : Int} {i p k : Nat} (h : LastIn nd x i p k) (hne : nd[k + 1]? ≠ some x) : LastIn nd x i p (k + 1) :=
  ⟨h.lo, by have := h.hi; omega, h.here, fun j h1 h2 => by
    rcases Nat.lt_or_ge k j with hlt | hge
    · obtain rfl : j = k + 1 := by omega
      exact hne
    · exact h.none_ j h1 hge⟩
theorem LastIn.hit {nd : List Int} {x : Int} {i p k : Nat} (h : LastIn nd x i p k) (he : nd[k + 1]? = some x) : LastIn nd x i (k + 1) (k + 1) :=
  ⟨by have := h.lo; have := h.hi; omega, Nat.le_refl _, he, fun j h1 h2 => by omega⟩
theorem LastIn.last {nd : List Int} {x : Int} {i p k : Nat} (h : LastIn nd x i p k) (hl : nd.length ≤ k + 1) : IsLast nd x p :=
  ⟨h.here, fun j hj => by
    rcases Nat.lt_or_ge k j with hlt | hge
    · rw [List.getElem?_eq_none (by omega)]; simp
    · exact h.none_ j hj hge⟩


end Go.Proofs.Ytokljfeoignbcaa
