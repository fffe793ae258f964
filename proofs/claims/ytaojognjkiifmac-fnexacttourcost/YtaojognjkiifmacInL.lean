/-
  Whether a number is in a list: spec.l12In, slices.Index, slices.Contains. No condition.
-/
import Derived.Test.YtaojognjkiifmacPShare
namespace Go.Proofs.Ytaojognjkiifmac
open Go.RowKit

theorem inL_take {ys : List Int} {x y : Int} {k : Nat} (h : x ∉ ys.take k) (hy : ys[k]? = some y) (hne : y ≠ x) : x ∉ ys.take (k + 1) := by
  rw [List.take_add_one, hy]
  simp
  exact ⟨h, fun e => hne e.symm⟩

set_option maxRecDepth 100000 in
set_option maxHeartbeats 1000000 in
theorem l12In_any (A : Option Addr) (n c : Nat) (ys : List Int) (x : Int) (w : World) (hn : n ≤ 1048576) (hl : ys.length = n) (hx : IntsAt w A ys) :
    Calls Try.prog 58 #[.slice A n c, .int .i64 x] w fun e w' => e = .returned (.bool (inL ys x)) ∧ Below w.heap.size w w' := by
  have HL := Lib.hid hl
  clear hl
  go_enter Try.func58, Try.ntmps58
  go_wp2
  go_loopw [5] (fun i wr => ∃ k : Nat, k ≤ n ∧ i = .int .i64 k ∧ x ∉ ys.take k ∧ Past w wr) (fun i _ => n - (intOf i).toNat)
  case atStart => exact ⟨0, by omega, rfl, by simp, Past.refl _⟩
  case round =>
    obtain ⟨k, hk, rfl, hno, hb⟩ := hrel
    have HN := Lib.hid hno
    clear hno
    by_cases hlt : k < n
    · obtain ⟨y, ha⟩ : ∃ a, ys[k]? = some a := ⟨_, List.getElem?_eq_getElem (by have := HL.out; omega)⟩
      obtain ⟨g, o, rfl, c0⟩ := (hx.below hb) k _ ha
      have HA := Lib.hid ha
      have i0 : (0 : Int) ≤ (k : Int) := by omega
      have i1 : (k : Int) < (n : Int) := by omega
      clear ha
      by_cases e : y = x
      · subst e
        go_wp2
        go_ret
        exact ⟨ret_bool ((inL_iff _ _).2 (List.mem_of_getElem? HA.out)).symm, hb⟩
      · go_wp2
        go_roundw
        case rel => exact ⟨k + 1, by omega, by go_num, inL_take HN.out HA.out e, hb⟩
        case measure => simp [intOf]; omega
    · obtain rfl : n = k := by omega
      go_wp2
      go_ret
      exact ⟨ret_bool ((inL_no _ _).2 (by have := HN.out; rwa [List.take_of_length_le (by have := HL.out; omega)] at this)).symm, hb⟩

/-- Where a number is in a list: -1, if it isn't. -/
def Found (ys : List Int) (x j : Int) : Prop := (j = -1 ∧ x ∉ ys) ∨ ∃ k : Nat, j = k ∧ ys[k]? = some x ∧ x ∉ ys.take k



end Go.Proofs.Ytaojognjkiifmac
