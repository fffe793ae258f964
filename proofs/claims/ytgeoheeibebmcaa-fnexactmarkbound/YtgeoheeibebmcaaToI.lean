/-
  The copy of a slice of numbers that the laws make: toIntS; numbers that a call hands back in new memory.
-/
import Derived.Test.YtgeoheeibebmcaaInfoI
namespace Go.Proofs.Ytgeoheeibebmcaa
open Go.RowKit

/-- A slice of numbers in new memory of the call's own is handed back. -/
def IntsNew (w : World) (n : Nat) (xs : List Int) (e : Ending) (w' : World) : Prop :=
  ∃ g, e = .returned (.slice (some ⟨g, 0, none⟩) n n) ∧ Below w.heap.size w w' ∧ w.heap.size ≤ g ∧ MadeI w' g 3 n xs n

theorem toIntS_any (A : Option Addr) (n cap : Nat) (xs : List Int) (w : World) (hn : n ≤ 1048576) (hl : xs.length = n) (hx : IntsAt w A xs) :
    Calls Try.prog 18 #[.slice A n cap] w (IntsNew w n xs) := by
  have hmk := makeInt n hn
  go_enter Try.func18, Try.ntmps18
  go_wp2
  go_loopw [4] (fun i wr => ∃ k : Nat, k ≤ n ∧ i = .int .i64 k ∧ Below w.heap.size w wr ∧ MadeI wr w.heap.size 3 n xs k) (fun i _ => n - (intOf i).toNat)
  case atStart => exact ⟨0, by omega, rfl, (Below.refl _ _).alloc (Nat.le_refl _) _, MadeI.start _ _ _ _ _ (by simp [size_madeCells])⟩
  case round =>
    obtain ⟨k, hk, rfl, hb, hm⟩ := hrel
    by_cases hlt : k < n
    · obtain ⟨x, ha⟩ : ∃ a, xs[k]? = some a := ⟨_, List.getElem?_eq_getElem (by omega)⟩
      obtain ⟨g, o, rfl, c0⟩ := (hx.below hb) k _ ha
      have HA := Lib.hid ha
      have HL := Lib.hid hl
      clear ha hl
      obtain ⟨v0, e0⟩ := hm.1.cell (i := k) (by omega)
      have z0 := hm.1.frozen k
      go_wp2
      go_roundw
      case rel => exact ⟨k + 1, by omega, by go_num, hb.setCell (by simp) _, hm.next HA.out hlt⟩
      case measure => simp [intOf]; omega
    · obtain rfl : n = k := by omega
      go_wp2
      go_ret
      exact ⟨_, rfl, hb, Nat.le_refl _, hm⟩


end Go.Proofs.Ytgeoheeibebmcaa
