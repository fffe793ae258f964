/-
  Small words that all proofs share: results, bounds, a later world.
-/
import Derived.Test.YtaojognjkiifmacBase
namespace Go.Proofs.Ytaojognjkiifmac
open Go.RowKit

theorem ret_bool {a b : Bool} (h : a = b) : Ending.returned (.bool a) = .returned (.bool b) := by rw [h]
theorem ret_int {a b : Int} (h : a = b) : Ending.returned (.int .i64 a) = .returned (.int .i64 b) := by rw [h]

/-- lo ≤ n ≤ hi. -/
def inB (n lo hi : Int) : Bool := decide (lo ≤ n) && decide (n ≤ hi)

theorem inB_iff (n lo hi : Int) : inB n lo hi = true ↔ lo ≤ n ∧ n ≤ hi := by simp [inB]
theorem inB_lo (n lo hi : Int) (h : n < lo) : inB n lo hi = false := by
  rw [Bool.eq_false_iff]; intro h'; have := (inB_iff _ _ _).1 h'; omega

/-- How long a slice is. -/
def lenOf : Value → Nat
  | .slice _ n _ => n
  | _ => 0

/-- What is left of room behind so many; -1: nothing. -/
def roomLeft (left : Int) (n : Nat) : Int := if left - n < 0 then -1 else left - n

/-- A later world: what was there is as it was. -/
def Past (a b : World) : Prop := Below a.heap.size a b
theorem Past.refl (a : World) : Past a a := Below.refl _ _
theorem Past.trans {a b c : World} (h : Past a b) (k : Past b c) : Past a c := bel_trans h k
theorem Past.of {a b : World} (h : Below a.heap.size a b) : Past a b := h
theorem Past.alloc {a b : World} (h : Past a b) (o : Obj) : Past a (b.alloc o) := Below.alloc h h.size o
theorem Past.drew {a b : World} (h : Past a b) : Past a b.drew := Below.drew h

theorem Past.lt {a b : World} {o : Obj} (h : Past (a.alloc o) b) : a.heap.size < b.heap.size := by have := h.size; simp at this; omega

theorem Past.drewN {a b : World} (h : Past a b) (n : Nat) : Past a (b.drewN n) := ⟨h.os, h.tape, h.output, h.size, h.block⟩

theorem Past.belowTrans {a b c : World} (h : Past a b) (k : Below a.heap.size b c) : Past a c := Below.trans h k

/-- Behind an append to a slice of the call's own. -/
theorem Past.grown {a W w' : World} {v : Value} {lo e size n : Nat} {xs : List Value} (h : Past a W) (ho : W.ownsRow lo e size v n xs) (hg : W.grownBy w' v.ownBlock) (hl : a.heap.size ≤ lo) : Past a w' :=
  Below.grown h hg h.size (fun k hk => Nat.le_trans hl (ho.lt k hk).1)

theorem Past.grownBy {a W w' : World} {v : Value} {lo e size n : Nat} {xs : List Value} (h : Past a W) (ho : W.ownsRow lo e size v n xs) (hg : W.grownBy w' v.ownBlock) (hl : a.heap.size ≤ lo) : Past a w' :=
  Below.grown h hg h.size (fun k hk => Nat.le_trans hl (ho.lt k hk).1)

theorem own_ne {W : World} {lo e size n g : Nat} {v : Value} {xs : List Value} (ho : W.ownsRow lo e size v n xs) (h : g < lo) : some g ≠ v.ownBlock := fun e' => by
  have := (ho.lt g e'.symm).1
  omega
theorem own_far {W : World} {lo e size n : Nat} {v : Value} {xs : List Value} (ho : W.ownsRow lo e size v n xs) {p : Addr} (h : v.ownBlock ≠ some p.block) (u : Value) : (W.setCell p u).ownsRow lo e size v n xs := by
  obtain ⟨h1, h2⟩ := ho
  refine ⟨h1, ?_⟩
  rcases h2 with h2 | ⟨g, cap, cur, rfl, hg, hh, r⟩
  · exact .inl h2
  · refine .inr ⟨g, cap, cur, rfl, hg, ?_, r⟩
    rw [Below.heap_setCell _ _ _ _ (fun e => h (by simp [Value.ownBlock, e]))]
    exact hh


end Go.Proofs.Ytaojognjkiifmac
