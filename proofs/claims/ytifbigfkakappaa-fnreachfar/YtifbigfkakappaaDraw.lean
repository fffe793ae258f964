/-
  What is drawn of bytes: l30Open, pick, one: whatever is drawn, the calls return, and write into the reader's own block alone.
-/
import Derived.Test.YtifbigfkakappaaRows
import Derived.Test.YtifbigfkakappaaMarkB
import Derived.Laws.BitsAllLaws
import Derived.Laws.BitsLemmas
import Derived.BigRegion
namespace Go.Proofs.Ytifbigfkakappaa
open Go.RowKit

/-- A slice's address leads to so many bytes. -/
def BytesAt (w : World) (A : Option Addr) (n : Nat) : Prop :=
  ∀ k, k < n → ∃ g o b, A = some ⟨g, o, none⟩ ∧ w.cell? ⟨g, o + k, none⟩ = some (.int .u8 b) ∧ 0 ≤ b ∧ b ≤ 255

/-- Block R is a reader: its bytes lie in elder blocks than lo, and it has drawn p times. -/
structure Rd (w : World) (R lo : Nat) (A : Option Addr) (n c p : Nat) : Prop where
  small : n ≤ 2000
  times : p ≤ 1000000
  bytes : BytesAt w A n
  elder : 0 < n → ∀ b, blk A = some b → b < lo
  lt : lo ≤ R
  slice : w.cell? ⟨R, 0, none⟩ = some (.slice A n c)
  num : w.cell? ⟨R, 1, none⟩ = some (.int .i64 p)
  free : w.frozen? ⟨R, 1, none⟩ = false

theorem Rd.drewN {w : World} {R lo : Nat} {A : Option Addr} {n c p : Nat} (h : Rd w R lo A n c p) (k : Nat) : Rd (w.drewN k) R lo A n c p := ⟨h.small, h.times, h.bytes, h.elder, h.lt, h.slice, h.num, h.free⟩
theorem Rd.drew {w : World} {R lo : Nat} {A : Option Addr} {n c p : Nat} (h : Rd w R lo A n c p) : Rd w.drew R lo A n c p := ⟨h.small, h.times, h.bytes, h.elder, h.lt, h.slice, h.num, h.free⟩
theorem Rd.at_ {w : World} {R lo : Nat} {A : Option Addr} {n c p : Nat} (h : Rd w R lo A n c p) : R < w.heap.size := lt_of_cell h.slice
theorem Rd.below {w w' : World} {R lo : Nat} {A : Option Addr} {n c p : Nat} (h : Rd w R lo A n c p) (hb : Below w.heap.size w w') : Rd w' R lo A n c p :=
  ⟨h.small, h.times, fun k hk => by
    obtain ⟨g, o, b, hA, hc, hbb⟩ := h.bytes k hk
    exact ⟨g, o, b, hA, cell_in hb hc, hbb⟩, h.elder, h.lt, cell_in hb h.slice, cell_in hb h.num, free_in hb h.num h.free⟩
theorem Rd.alloc {w : World} {R lo : Nat} {A : Option Addr} {n c p : Nat} (h : Rd w R lo A n c p) (o : Obj) : Rd (w.alloc o) R lo A n c p := h.below ((Past.refl w).alloc o)
/-- Behind a store into another block, younger than the bytes'. -/
theorem Rd.far {w w' : World} {R lo g : Nat} {A : Option Addr} {n c p : Nat} (h : Rd w R lo A n c p) (hg : w.grownBy w' (some g)) (hne : g ≠ R) (hlo : lo ≤ g) : Rd w' R lo A n c p :=
  ⟨h.small, h.times, fun k hk => by
    obtain ⟨b', o, b, hA, hc, hbb⟩ := h.bytes k hk
    have := h.elder (by omega) b' (by rw [hA]; rfl)
    exact ⟨b', o, b, hA, cell_far hg hc (by simp only [ne_eq]; omega), hbb⟩, h.elder, h.lt, cell_far hg h.slice (Ne.symm hne), cell_far hg h.num (Ne.symm hne), by
      have hbk := hg.block R h.at_ (by simpa using Ne.symm hne)
      exact (World.frozen?_of_block (w := w) (a := ⟨R, 1, none⟩) hbk).trans h.free⟩

theorem xor_nat (a b : Nat) (ha : a < 9223372036854775808) (hb : b < 9223372036854775808) : 0 ≤ bits .xor .i64 (a : Int) (b : Int) := by
  have e : ∀ x : Nat, x < 9223372036854775808 → (BitVec.ofInt 64 (x : Int)).toNat = x := fun x hx => by
    rw [BitVec.ofInt_natCast, BitVec.toNat_ofNat]
    exact Nat.mod_eq_of_lt (by omega)
  have hx : a ^^^ b < 2 ^ 63 := Nat.xor_lt_two_pow (by omega) (by omega)
  show 0 ≤ IntKind.i64.wrap ((BitVec.ofInt 64 (a : Int) ^^^ BitVec.ofInt 64 (b : Int)).toNat : Int)
  rw [BitVec.toNat_xor, e a ha, e b hb, IntKind.wrap_i64]
  omega

/-- A number was drawn below n. -/
def Picks (w : World) (R lo : Nat) (A : Option Addr) (n c p : Nat) (m : Int) (e : Ending) (w' : World) : Prop :=
  ∃ k : Int, e = .returned (.int .i64 k) ∧ 0 ≤ k ∧ (k = 0 ∨ k < m) ∧ Rd w' R lo A n c (p + 1) ∧ w.grownBy w' (some R)

set_option maxHeartbeats 1000000 in
theorem pick_any (R lo : Nat) (A : Option Addr) (n c p : Nat) (m : Int) (w : World) (h : Rd w R lo A n c p) (hp : p + 1 ≤ 1000000) :
    Calls Try.prog 46 #[.pointer (some ⟨R, 0, none⟩), .int .i64 m] w (Picks w R lo A n c p m) := by
  obtain ⟨h2000, _, hby, hel, hR, c0, c1, z1⟩ := h
  have hRlt : R < w.heap.size := lt_of_cell c0
  have hw1 : Rd (w.setCell ⟨R, 1, none⟩ (.int .i64 ((p : Int) + 1))) R lo A n c (p + 1) := by
    have hcs := World.cell?_setCell_same w ⟨R, 1, none⟩ (.int .i64 ((p : Int) + 1)) c1
    refine ⟨h2000, hp, fun k hk => ?_, hel, hR, (World.cell?_setCell_other _ _ _ _ (by simp)).trans c0, hcs, ?_⟩
    · obtain ⟨g, o, b, rfl, hc, hb⟩ := hby k hk
      have := hel (by omega) g rfl
      exact ⟨g, o, b, rfl, (World.cell?_setCell_other _ _ _ _ (by intro e; injection e; omega)).trans hc, hb⟩
    · rw [World.frozen?_setCell]; exact z1
  have hg1 : w.grownBy (w.setCell ⟨R, 1, none⟩ (.int .i64 ((p : Int) + 1))) (some R) := grown_set (grown_refl _ _) _ _
  by_cases hm : m < 1
  · go_enter Try.func46, Try.ntmps46
    go_wp2
    go_ret
    exact ⟨0, rfl, by omega, .inl rfl, hw1, hg1⟩
  by_cases hn : n = 0
  · have hn' : ((n : Int) == 0) = true := by simp; omega
    have HN := Lib.hid hn
    clear hn
    go_enter Try.func46, Try.ntmps46
    go_wp2
    go_ret
    exact ⟨0, rfl, by omega, .inl rfl, hw1, hg1⟩
  have hn' : ((n : Int) == 0) = false := by simp; omega
  have hmpos : 1 ≤ m := by omega
  have HW1 := Lib.hid hw1
  have HG1 := Lib.hid hg1
  clear hw1 hg1
  by_cases hpn : p < n
  · obtain ⟨g, o, b, rfl, hc, hb0, hb1⟩ := hby p hpn
    have hgR : g ≠ R := by have := hel (by omega) g rfl; omega
    have i1 : (p : Int) < (n : Int) := by omega
    clear hby hel
    go_enter Try.func46, Try.ntmps46
    go_wp2
    go_ret
    exact ⟨b % m, rfl, Int.emod_nonneg _ (by omega), .inr (Int.emod_lt_of_pos _ (by omega)), HW1.out, HG1.out⟩
  · obtain ⟨g, o, b, rfl, hc, hb0, hb1⟩ := HW1.out.bytes (p % n) (Nat.mod_lt _ (by omega))
    obtain ⟨g', o', b', e, hc', hb0', hb1'⟩ := HW1.out.bytes ((p * 7 + 3) % n) (Nat.mod_lt _ (by omega))
    injection e with e
    injection e with e1 e2
    subst e1 e2
    obtain ⟨W, hW⟩ : ∃ W, W = w.setCell ⟨R, 1, none⟩ (.int .i64 ((p : Int) + 1)) := ⟨_, rfl⟩
    have c0W := HW1.out.slice
    have c1W := HW1.out.num
    rw [← hW] at hc hc' c0W c1W
    have HWW := Lib.hid hW
    clear hW hby hel
    have npos : 0 < n := by omega
    have np : (n : Int) ≠ 0 := by omega
    have x1 : p % n < n := Nat.mod_lt _ npos
    have x2 : (p * 7 + 3) % n < n := Nat.mod_lt _ npos
    obtain ⟨q, hq⟩ : ∃ q, q = p / n := ⟨_, rfl⟩
    have hqp : q ≤ p := by rw [hq]; exact Nat.div_le_self _ _
    obtain ⟨r1, hr1⟩ : ∃ r1, r1 = p % n := ⟨_, rfl⟩
    obtain ⟨r2, hr2⟩ : ∃ r2, r2 = (p * 7 + 3) % n := ⟨_, rfl⟩
    have t1 : ((p : Int)).tmod (n : Int) = (r1 : Int) := by rw [hr1]; exact (Int.ofNat_tmod p n).symm
    have t2 : ((p : Int) * 7 + 3).tmod (n : Int) = (r2 : Int) := by rw [hr2]; exact (Int.ofNat_tmod (p * 7 + 3) n).symm
    have t3 : ((p : Int)).tdiv (n : Int) = (q : Int) := by rw [hq]; exact (Int.ofNat_tdiv p n).symm
    rw [← hr1] at hc x1
    rw [← hr2] at hc' x2
    clear hq hr1 hr2
    have y0 : (0 : Int) ≤ (r1 : Int) := by omega
    have y1 : (r1 : Int) < (n : Int) := by omega
    have y2 : (0 : Int) ≤ (r2 : Int) := by omega
    have y3 : (r2 : Int) < (n : Int) := by omega
    have s0 : IntKind.i64.wrap (b * 131) = b * 131 := IntWalk.i64_in _ (by omega)
    have s1 : IntKind.i64.wrap ((p : Int) * 7) = (p : Int) * 7 := IntWalk.i64_in _ (by omega)
    have s2 : IntKind.i64.wrap ((p : Int) * 7 + 3) = (p : Int) * 7 + 3 := IntWalk.i64_in _ (by omega)
    have s3 : IntKind.i64.wrap (b' * 1117) = b' * 1117 := IntWalk.i64_in _ (by omega)
    have s4 : IntKind.i64.wrap (b * 131 + b' * 1117) = b * 131 + b' * 1117 := IntWalk.i64_in _ (by omega)
    have s5 : IntKind.i64.wrap ((p : Int) * 29) = (p : Int) * 29 := IntWalk.i64_in _ (by omega)
    have s6 : IntKind.i64.wrap (b * 131 + b' * 1117 + (p : Int) * 29) = b * 131 + b' * 1117 + (p : Int) * 29 := IntWalk.i64_in _ (by omega)
    have s7 : IntKind.i64.wrap ((q : Int) * 53) = (q : Int) * 53 := IntWalk.i64_in _ (by omega)
    have s8 : IntKind.i64.wrap (b * 131 + b' * 1117 + (p : Int) * 29 + (q : Int) * 53) = b * 131 + b' * 1117 + (p : Int) * 29 + (q : Int) * 53 := IntWalk.i64_in _ (by omega)
    have s9 : IntKind.i64.wrap (r1 : Int) = (r1 : Int) := IntWalk.i64_in _ (by omega)
    have s10 : IntKind.i64.wrap (r2 : Int) = (r2 : Int) := IntWalk.i64_in _ (by omega)
    have s11 : IntKind.i64.wrap (q : Int) = (q : Int) := IntWalk.i64_in _ (by omega)
    have s12 : IntKind.i64.wrap b = b := IntWalk.i64_in _ (by omega)
    have s13 : IntKind.i64.wrap b' = b' := IntWalk.i64_in _ (by omega)
    go_enter Try.func46, Try.ntmps46
    go_wp2_with fail
    rw [← HWW.out]
    go_quiet (fail)
    clear s0 s1 s2 s3 s4 s5 s6 s7 s8 s9 s10 s11 s12 s13 t1 t2 t3
    go_wp2
    go_ret
    have hX0 : 0 ≤ b * 131 + b' * 1117 + (p : Int) * 29 + (q : Int) * 53 := by omega
    have hX1 : b * 131 + b' * 1117 + (p : Int) * 29 + (q : Int) * 53 ≤ 1000000000 := by omega
    obtain ⟨X, hX⟩ : ∃ X : Nat, b * 131 + b' * 1117 + (p : Int) * 29 + (q : Int) * 53 = (X : Int) := ⟨_, (Int.toNat_of_nonneg hX0).symm⟩
    rw [hX] at hX1
    have hxor : 0 ≤ bits .xor .i64 (X : Int) ((X : Int) / 64) := by
      have := xor_nat X (X / 64) (by omega) (by omega)
      simpa using this
    have hbel := HW1.out
    rw [← HWW.out] at hbel
    have hgr := HG1.out
    rw [← HWW.out] at hgr
    refine ⟨_, rfl, ?_, ?_, hbel.drewN nq, ⟨hgr.os, hgr.tape, hgr.output, hgr.size, hgr.block⟩⟩
    · rw [hX, Int.tmod_eq_emod_of_nonneg hxor]
      exact Int.emod_nonneg _ (by omega)
    · rw [hX, Int.tmod_eq_emod_of_nonneg hxor]
      exact .inr (Int.emod_lt_of_pos _ (by omega))

end Go.Proofs.Ytifbigfkakappaa
