/-
  A reader of bytes that may draw so many times more.
-/
import Derived.Test.YtgeoheeibebmcaaDraw2
namespace Go.Proofs.Ytgeoheeibebmcaa
open Go.RowKit

/-- A reader that may draw f times more. -/
def RdF (w : World) (R lo : Nat) (A : Option Addr) (n c f : Nat) : Prop := ∃ p, p + f ≤ 1000000 ∧ Rd w R lo A n c p

theorem RdF.at_ {w : World} {R lo : Nat} {A : Option Addr} {n c f : Nat} (h : RdF w R lo A n c f) : R < w.heap.size := by obtain ⟨p, _, h⟩ := h; exact h.at_
theorem RdF.drew {w : World} {R lo : Nat} {A : Option Addr} {n c f : Nat} (h : RdF w R lo A n c f) : RdF w.drew R lo A n c f := by obtain ⟨p, h1, h⟩ := h; exact ⟨p, h1, h.drew⟩
theorem RdF.below {w w' : World} {R lo : Nat} {A : Option Addr} {n c f : Nat} (h : RdF w R lo A n c f) (hb : Below w.heap.size w w') : RdF w' R lo A n c f := by obtain ⟨p, h1, h⟩ := h; exact ⟨p, h1, h.below hb⟩
theorem RdF.alloc {w : World} {R lo : Nat} {A : Option Addr} {n c f : Nat} (h : RdF w R lo A n c f) (o : Obj) : RdF (w.alloc o) R lo A n c f := h.below ((Past.refl w).alloc o)
theorem RdF.far {w w' : World} {R lo g : Nat} {A : Option Addr} {n c f : Nat} (h : RdF w R lo A n c f) (hg : w.grownBy w' (some g)) (hne : g ≠ R) (hlo : lo ≤ g) : RdF w' R lo A n c f := by obtain ⟨p, h1, h⟩ := h; exact ⟨p, h1, h.far hg hne hlo⟩
theorem RdF.less {w : World} {R lo : Nat} {A : Option Addr} {n c f f' : Nat} (h : RdF w R lo A n c f) (hf : f' ≤ f) : RdF w R lo A n c f' := by obtain ⟨p, h1, h⟩ := h; exact ⟨p, by omega, h⟩

/-- A number below m was drawn. -/
def PicksF (w : World) (R lo : Nat) (A : Option Addr) (n c f : Nat) (m : Int) (e : Ending) (w' : World) : Prop :=
  ∃ k : Int, e = .returned (.int .i64 k) ∧ 0 ≤ k ∧ (k = 0 ∨ k < m) ∧ RdF w' R lo A n c f ∧ w.grownBy w' (some R)
/-- One of a list was drawn. -/
def OnesF (w : World) (R lo : Nat) (A : Option Addr) (n c f : Nat) (zs : List Int) (e : Ending) (w' : World) : Prop :=
  ∃ z : Int, e = .returned (.int .i64 z) ∧ z ∈ zs ∧ RdF w' R lo A n c f ∧ w.grownBy w' (some R)
/-- Numbers that were laid at once. -/
theorem ints_new (w : World) (zs : List Int) {cs : Array Value} (hc : cs = (zs.map (Value.int .i64)).toArray) (t : Nat) : IntsAt (w.alloc (.cells cs t)) (some ⟨w.heap.size, 0, none⟩) zs := fun k x hk => by
  refine ⟨w.heap.size, 0, rfl, ?_⟩
  rw [Nat.zero_add, cell_of_row _ _ _ _ _ _ (heap_alloc_new w _), hc]
  simpa using hk
theorem past_grown {a b c : World} {R : Nat} (h : Past a b) (hg : b.grownBy c (some R)) (hR : a.heap.size ≤ R) : Past a c := Below.grown h hg h.size (fun k e => by injection e with e; omega)
theorem BytesAt.below {w w' : World} {A : Option Addr} {n : Nat} (h : BytesAt w A n) (hb : Below w.heap.size w w') : BytesAt w' A n := fun k hk => by
  obtain ⟨g, o, b, hA, hc, hbb⟩ := h k hk
  exact ⟨g, o, b, hA, cell_in hb hc, hbb⟩

end Go.Proofs.Ytgeoheeibebmcaa
