/-
  What is known of a slice of numbers that a call hands back in new memory.
-/
import Derived.Test.YtaojognjkiifmacInfoI
namespace Go.Proofs.Ytaojognjkiifmac
open Go.RowKit

def ints (zs : List Int) : List Value := zs.map (Value.int .i64)

/-- v is a slice of the call's own (from block lo on) that holds these numbers. -/
def Res (w : World) (lo : Nat) (v : Value) (zs : List Int) : Prop := w.ownsRow lo 3 1 v zs.length (ints zs)

theorem Res.nil (w : World) (lo : Nat) : Res w lo (.slice none 0 0) [] := World.ownsRow_nil w lo _ _

theorem Res.one (w : World) (lo : Nat) (x : Int) (h : lo ≤ w.heap.size) : Res (w.alloc (.cells #[.int .i64 x] 3)) lo (.slice (some ⟨w.heap.size, 0, none⟩) 1 1) [x] :=
  ⟨rfl, .inr ⟨w.heap.size, 1, #[.int .i64 x], rfl, h, heap_alloc_new w _, Nat.le_refl _, by unfold maxLen; omega, rfl, rfl⟩⟩

theorem Res.form {w : World} {lo : Nat} {v : Value} {zs : List Int} (h : Res w lo v zs) : ∃ A c, v = .slice A zs.length c ∧ IntsAt w A zs ∧ OwnAt w lo A 3 1 zs.length := by
  rcases h.2 with ⟨rfl, h0⟩ | ⟨g, cap, cur, rfl, hlo, hh, hn, hm, hs, ht⟩
  · have : zs = [] := List.eq_nil_of_length_eq_zero h0
    subst this
    exact ⟨none, 0, rfl, fun k x hk => by simp at hk, .inl ⟨rfl, rfl⟩⟩
  · refine ⟨_, _, rfl, fun k x hk => ⟨g, 0, rfl, ?_⟩, .inr ⟨g, cur.size, rfl, hlo, ⟨cur, hh, rfl⟩, by rw [hs]; omega⟩⟩
    have := h.cells (g := g) rfl k (.int .i64 x) (by simp [ints, hk])
    rw [Addr.add_lit] at this
    exact this

theorem Res.drew {w : World} {lo : Nat} {v : Value} {zs : List Int} (h : Res w lo v zs) : Res w.drew lo v zs := h
theorem Res.drewN {w : World} {lo : Nat} {v : Value} {zs : List Int} (h : Res w lo v zs) (n : Nat) : Res (w.drewN n) lo v zs := h
theorem Res.below {w w' : World} {lo : Nat} {v : Value} {zs : List Int} (h : Res w lo v zs) (hb : Below w.heap.size w w') : Res w' lo v zs :=
  World.ownsRow.kept h (grown_of_below hb none) (by cases hv : v.ownBlock <;> simp)
theorem Res.lower {w : World} {lo lo' : Nat} {v : Value} {zs : List Int} (h : Res w lo v zs) (hl : lo' ≤ lo) : Res w lo' v zs := by
  refine ⟨h.1, ?_⟩
  rcases h.2 with h0 | ⟨g, cap, cur, hv, hlo, r⟩
  · exact .inl h0
  · exact .inr ⟨g, cap, cur, hv, by omega, r⟩

theorem ints_append (a b : List Int) : ints (a ++ b) = ints a ++ ints b := by simp [ints]

/-- Behind an append of one number. -/
theorem Res.step {w : World} {lo : Nat} {v : Value} {zs zs' : List Int} {x : Int} {k : Nat} (h : w.ownsRow lo 3 1 v (k + 1) (ints zs ++ [.int .i64 x])) (hl : zs'.length = k + 1) (he : zs' = zs ++ [x]) : Res w lo v zs' := by
  unfold Res
  rw [hl, he, ints_append]
  exact h

theorem Res.push {w : World} {lo : Nat} {v : Value} {zs : List Int} {x : Int} (h : w.ownsRow lo 3 1 v (zs.length + 1) (ints zs ++ [.int .i64 x])) : Res w lo v (zs ++ [x]) := by
  unfold Res
  rw [ints_append, List.length_append]
  exact h

theorem one_cell (x : Int) : ∀ u ∈ ([Value.int .i64 x] : List Value), u.oneCell' = true := fun u hu => by simp at hu; subst hu; rfl

/-- A slice of numbers in new memory is handed back. -/
def Gives (w : World) (zs : List Int) (e : Ending) (w' : World) : Prop := ∃ v, e = .returned v ∧ Res w' w.heap.size v zs ∧ Below w.heap.size w w'

/-- A slice of the call's own and a truth are handed back. -/
def GivesB (w : World) (zs : List Int) (b : Bool) (e : Ending) (w' : World) : Prop := ∃ v, e = .returned (.tuple #[v, .bool b]) ∧ Res w' w.heap.size v zs ∧ Below w.heap.size w w'


end Go.Proofs.Ytaojognjkiifmac
