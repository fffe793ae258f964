/-
  What is drawn of bytes: l30Open, pick, one: whatever is drawn, the calls return, and write into the reader's own block alone.
-/
import Derived.Test.YtgeoheeibebmcaaRows
import Derived.Test.YtgeoheeibebmcaaMarkB
import Derived.Laws.BitsAllLaws
import Derived.Laws.BitsLemmas
import Derived.BigRegion
namespace Go.Proofs.Ytgeoheeibebmcaa
open Go.RowKit

/-- A slice's address leads to so many bytes. -/
def BytesAt (w : World) (A : Option Addr) (n : Nat) : Prop :=
  ∀ k, k < n → ∃ g o b, A = some ⟨g, o, none⟩ ∧ w.cell? ⟨g, o + k, none⟩ = some (.int .u8 b) ∧ 0 ≤ b ∧ b ≤ 255

/-- Block R is a reader: its bytes lie in elder blocks than lo, and it has drawn p times. -/
structure Rd (w : World) (R lo : Nat) (A : Option Addr) (n c p : Nat) : Prop where
  small : n ≤ 2000
  times : p ≤ 1000000
  bytes : BytesAt w A n
  elder : 0 < n → ∀ b, blk A = some b → b < lo
  lt : lo ≤ R
  slice : w.cell? ⟨R, 0, none⟩ = some (.slice A n c)
  num : w.cell? ⟨R, 1, none⟩ = some (.int .i64 p)
  free : w.frozen? ⟨R, 1, none⟩ = false

theorem Rd.drewN {w : World} {R lo : Nat} {A : Option Addr} {n c p : Nat} (h : Rd w R lo A n c p) (k : Nat) : Rd (w.drewN k) R lo A n c p := ⟨h.small, h.times, h.bytes, h.elder, h.lt, h.slice, h.num, h.free⟩
theorem Rd.drew {w : World} {R lo : Nat} {A : Option Addr} {n c p : Nat} (h : Rd w R lo A n c p) : Rd w.drew R lo A n c p := ⟨h.small, h.times, h.bytes, h.elder, h.lt, h.slice, h.num, h.free⟩
theorem Rd.at_ {w : World} {R lo : Nat} {A : Option Addr} {n c p : Nat} (h : Rd w R lo A n c p) : R < w.heap.size := lt_of_cell h.slice
theorem Rd.below {w w' : World} {R lo : Nat} {A : Option Addr} {n c p : Nat} (h : Rd w R lo A n c p) (hb : Below w.heap.size w w') : Rd w' R lo A n c p :=
  ⟨h.small, h.times, fun k hk => by
    obtain ⟨g, o, b, hA, hc, hbb⟩ := h.bytes k hk
    exact ⟨g, o, b, hA, cell_in hb hc, hbb⟩, h.elder, h.lt, cell_in hb h.slice, cell_in hb h.num, free_in hb h.num h.free⟩
theorem Rd.alloc {w : World} {R lo : Nat} {A : Option Addr} {n c p : Nat} (h : Rd w R lo A n c p) (o : Obj) : Rd (w.alloc o) R lo A n c p := h.below ((Past.refl w).alloc o)
/-- Behind a store into another block, younger than the bytes'. -/
theorem Rd.far {w w' : World} {R lo g : Nat} {A : Option Addr} {n c p : Nat} (h : Rd w R lo A n c p) (hg : w.grownBy w' (some g)) (hne : g ≠ R) (hlo : lo ≤ g) : Rd w' R lo A n c p :=
  ⟨h.small, h.times, fun k hk => by
    obtain ⟨b', o, b, hA, hc, hbb⟩ := h.bytes k hk
    have := h.elder (by omega) b' (by rw [hA]; rfl)
    exact ⟨b', o, b, hA, cell_far hg hc (by simp only [ne_eq]; omega), hbb⟩, h.elder, h.lt, cell_far hg h.slice (Ne.symm hne), cell_far hg h.num (Ne.symm hne), by
      have hbk := hg.block R h.at_ (by simpa using Ne.symm hne)
      exact (World.frozen?_of_block (w := w) (a := ⟨R, 1, none⟩) hbk).trans h.free⟩

theorem xor_nat (a b : Nat) (ha : a < 9223372036854775808) (hb : b < 9223372036854775808) : 0 ≤ bits .xor .i64 (a : Int) (b : Int) := by
  have e : ∀ x : Nat, x < 9223372036854775808 → (BitVec.ofInt 64 (x : Int)).toNat = x := fun x hx => by
    rw [BitVec.ofInt_natCast, BitVec.toNat_ofNat]
    exact Nat.mod_eq_of_lt (by omega)
  have hx : a ^^^ b < 2 ^ 63 := Nat.xor_lt_two_pow (by omega) (by omega)
  show 0 ≤ IntKind.i64.wrap ((BitVec.ofInt 64 (a : Int) ^^^ BitVec.ofInt 64 (b : Int)).toNat : Int)
  rw [BitVec.toNat_xor, e a ha, e b hb, IntKind.wrap_i64]
  omega

/-- A number was drawn below n. -/
def Picks (w : World) (R lo : Nat) (A : Option Addr) (n c p : Nat) (m : Int) (e : Ending) (w' : World) : Prop :=
  ∃ k : Int, e = .returned (.int .i64 k) ∧ 0 ≤ k ∧ (k = 0 ∨ k < m) ∧ Rd w' R lo A n c (p + 1) ∧ w.grownBy w' (some R)

end Go.Proofs.Ytgeoheeibebmcaa
