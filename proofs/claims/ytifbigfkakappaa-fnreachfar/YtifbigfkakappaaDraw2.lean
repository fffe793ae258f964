/-
  What is drawn of bytes: one, l30Open, l30Net.
-/
import Derived.Test.YtifbigfkakappaaDraw
import Derived.Deep.DeepCutAuto
namespace Go.Proofs.Ytifbigfkakappaa
open Go.RowKit

/-- One of a list was drawn. -/
def Ones (w : World) (R lo : Nat) (A : Option Addr) (n c p : Nat) (zs : List Int) (e : Ending) (w' : World) : Prop :=
  ∃ z : Int, e = .returned (.int .i64 z) ∧ z ∈ zs ∧ Rd w' R lo A n c (p + 1) ∧ w.grownBy w' (some R)

set_option maxHeartbeats 400000 in
theorem one_any (R lo g : Nat) (A : Option Addr) (n c p l cb : Nat) (zs : List Int) (w : World) (h : Rd w R lo A n c p) (hp : p + 1 ≤ 1000000) (hl : zs.length = l) (h0 : 0 < l) (h1 : l ≤ 1000) (hz : IntsAt w (some ⟨g, 0, none⟩) zs) (hne : g ≠ R) :
    Calls Try.prog 47 #[.pointer (some ⟨R, 0, none⟩), .slice (some ⟨g, 0, none⟩) l cb] w (Ones w R lo A n c p zs) := by
  have HL := Lib.hid hl
  clear hl
  go_enter Try.func47, Try.ntmps47
  go_wp2_with fail
  refine (pick_any R lo A n c p _ _ h hp).mono ?_
  rintro e w1 ⟨k, rfl, hk0, hk1, hr, hg⟩
  obtain ⟨j, rfl⟩ : ∃ j : Nat, k = j := ⟨k.toNat, by omega⟩
  have hj : j < l := by omega
  have hz1 := hz.grown hg (fun b e => by injection e with e; simp [blk]; omega)
  obtain ⟨x, ha⟩ : ∃ a, zs[j]? = some a := ⟨_, List.getElem?_eq_getElem (by have := HL.out; omega)⟩
  obtain ⟨g', o', e, c0⟩ := hz1 j _ ha
  injection e with e
  injection e with e1 e2
  subst e1 e2
  rw [Nat.zero_add] at c0
  have HA := Lib.hid (List.mem_of_getElem? ha)
  clear ha
  go_wp2
  go_ret
  exact ⟨x, rfl, HA.out, hr, hg⟩

/-- A reader was made of bytes. -/
def Opens (w : World) (A : Option Addr) (e : Ending) (w' : World) : Prop :=
  ∃ R n c, e = .returned (.pointer (some ⟨R, 0, none⟩)) ∧ w.heap.size ≤ R ∧ Rd w' R w.heap.size A n c 0 ∧ Below w.heap.size w w'

theorem rd_new (w : World) (A : Option Addr) (n c : Nat) (hn : n ≤ 2000) (hb : BytesAt w A n) (hel : 0 < n → ∀ b, blk A = some b → b < w.heap.size) :
    Rd (w.alloc (.cells #[.slice A n c, .int .i64 0] 70)) w.heap.size w.heap.size A n c 0 :=
  ⟨hn, by omega, fun k hk => by
    obtain ⟨g, o, b, hA, hc, hbb⟩ := hb k hk
    exact ⟨g, o, b, hA, cell_in ((Past.refl w).alloc _) hc, hbb⟩, hel, Nat.le_refl _, by go_simp, by go_simp, by go_simp⟩

set_option maxHeartbeats 400000 in
theorem open_any (A : Option Addr) (n c : Nat) (w : World) (hn : n ≤ c) (hc : c ≤ maxLen) (hb : BytesAt w A n) :
    Calls Try.prog 24 #[.slice A n c] w (Opens w A) := by
  unfold maxLen at hc
  have hel : ∀ b, 0 < n → blk A = some b → b < w.heap.size := fun b h0 e => by
    obtain ⟨g, o, x, rfl, hx, _⟩ := hb 0 h0
    simp [blk] at e
    subst e
    exact lt_of_cell hx
  by_cases h2 : 2000 < n
  · have h2' : (2000 : Int) < (n : Int) := by omega
    go_enter Try.func24, Try.ntmps24
    go_wp2
    go_ret
    exact ⟨w.heap.size, 2000, c, rfl, Nat.le_refl _, rd_new w A 2000 c (by omega) (fun k hk => hb k (by omega)) (fun _ b e => hel b (by omega) e), (Past.refl w).alloc _⟩
  · have h2' : ¬ (2000 : Int) < (n : Int) := by omega
    go_enter Try.func24, Try.ntmps24
    go_wp2
    go_ret
    exact ⟨w.heap.size, n, c, rfl, Nat.le_refl _, rd_new w A n c (by omega) hb (fun h0 b e => hel b h0 e), (Past.refl w).alloc _⟩

end Go.Proofs.Ytifbigfkakappaa
