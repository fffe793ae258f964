/-
  A reader of bytes that may draw so many times more.
-/
import Derived.Test.YtifbigfkakappaaDraw2
namespace Go.Proofs.Ytifbigfkakappaa
open Go.RowKit

/-- A reader that may draw f times more. -/
def RdF (w : World) (R lo : Nat) (A : Option Addr) (n c f : Nat) : Prop := ∃ p, p + f ≤ 1000000 ∧ Rd w R lo A n c p

theorem RdF.at_ {w : World} {R lo : Nat} {A : Option Addr} {n c f : Nat} (h : RdF w R lo A n c f) : R < w.heap.size := by obtain ⟨p, _, h⟩ := h; exact h.at_
theorem RdF.drew {w : World} {R lo : Nat} {A : Option Addr} {n c f : Nat} (h : RdF w R lo A n c f) : RdF w.drew R lo A n c f := by obtain ⟨p, h1, h⟩ := h; exact ⟨p, h1, h.drew⟩
theorem RdF.below {w w' : World} {R lo : Nat} {A : Option Addr} {n c f : Nat} (h : RdF w R lo A n c f) (hb : Below w.heap.size w w') : RdF w' R lo A n c f := by obtain ⟨p, h1, h⟩ := h; exact ⟨p, h1, h.below hb⟩
theorem RdF.alloc {w : World} {R lo : Nat} {A : Option Addr} {n c f : Nat} (h : RdF w R lo A n c f) (o : Obj) : RdF (w.alloc o) R lo A n c f := h.below ((Past.refl w).alloc o)
theorem RdF.far {w w' : World} {R lo g : Nat} {A : Option Addr} {n c f : Nat} (h : RdF w R lo A n c f) (hg : w.grownBy w' (some g)) (hne : g ≠ R) (hlo : lo ≤ g) : RdF w' R lo A n c f := by obtain ⟨p, h1, h⟩ := h; exact ⟨p, h1, h.far hg hne hlo⟩
theorem RdF.less {w : World} {R lo : Nat} {A : Option Addr} {n c f f' : Nat} (h : RdF w R lo A n c f) (hf : f' ≤ f) : RdF w R lo A n c f' := by obtain ⟨p, h1, h⟩ := h; exact ⟨p, by omega, h⟩

/-- A number below m was drawn. -/
def PicksF (w : World) (R lo : Nat) (A : Option Addr) (n c f : Nat) (m : Int) (e : Ending) (w' : World) : Prop :=
  ∃ k : Int, e = .returned (.int .i64 k) ∧ 0 ≤ k ∧ (k = 0 ∨ k < m) ∧ RdF w' R lo A n c f ∧ w.grownBy w' (some R)
theorem pickF {w : World} {R lo : Nat} {A : Option Addr} {n c f : Nat} (m : Int) (h : RdF w R lo A n c (f + 1)) :
    Calls Try.prog 46 #[.pointer (some ⟨R, 0, none⟩), .int .i64 m] w (PicksF w R lo A n c f m) := by
  obtain ⟨p, hp, h⟩ := h
  exact (pick_any R lo A n c p m w h (by omega)).mono fun _ _ ⟨k, he, h0, h1, hr, hg⟩ => ⟨k, he, h0, h1, ⟨p + 1, by omega, hr⟩, hg⟩


/-- One of a list was drawn. -/
def OnesF (w : World) (R lo : Nat) (A : Option Addr) (n c f : Nat) (zs : List Int) (e : Ending) (w' : World) : Prop :=
  ∃ z : Int, e = .returned (.int .i64 z) ∧ z ∈ zs ∧ RdF w' R lo A n c f ∧ w.grownBy w' (some R)
theorem oneF {w : World} {R lo g : Nat} {A : Option Addr} {n c f l cb : Nat} (zs : List Int) (h : RdF w R lo A n c (f + 1)) (hl : zs.length = l) (h0 : 0 < l) (h1 : l ≤ 1000) (hz : IntsAt w (some ⟨g, 0, none⟩) zs) (hne : g ≠ R) :
    Calls Try.prog 47 #[.pointer (some ⟨R, 0, none⟩), .slice (some ⟨g, 0, none⟩) l cb] w (OnesF w R lo A n c f zs) := by
  obtain ⟨p, hp, h⟩ := h
  exact (one_any R lo g A n c p l cb zs w h (by omega) hl h0 h1 hz hne).mono fun _ _ ⟨z, he, h0, hr, hg⟩ => ⟨z, he, h0, ⟨p + 1, by omega, hr⟩, hg⟩
/-- Numbers that were laid at once. -/
theorem ints_new (w : World) (zs : List Int) {cs : Array Value} (hc : cs = (zs.map (Value.int .i64)).toArray) (t : Nat) : IntsAt (w.alloc (.cells cs t)) (some ⟨w.heap.size, 0, none⟩) zs := fun k x hk => by
  refine ⟨w.heap.size, 0, rfl, ?_⟩
  rw [Nat.zero_add, cell_of_row _ _ _ _ _ _ (heap_alloc_new w _), hc]
  simpa using hk
theorem past_grown {a b c : World} {R : Nat} (h : Past a b) (hg : b.grownBy c (some R)) (hR : a.heap.size ≤ R) : Past a c := Below.grown h hg h.size (fun k e => by injection e with e; omega)
theorem BytesAt.below {w w' : World} {A : Option Addr} {n : Nat} (h : BytesAt w A n) (hb : Below w.heap.size w w') : BytesAt w' A n := fun k hk => by
  obtain ⟨g, o, b, hA, hc, hbb⟩ := h k hk
  exact ⟨g, o, b, hA, cell_in hb hc, hbb⟩

end Go.Proofs.Ytifbigfkakappaa
