/-
  Two nets that hold the same are told to be equal: wkNet.
-/
import Derived.Test.YtaojognjkiifmaaOk
namespace Go.Proofs.Ytaojognjkiifmaa
open Go.RowKit

set_option maxRecDepth 100000 in
set_option maxHeartbeats 1000000 in
theorem wkNet_same (m : Int) (A B : Option Addr) (n c c' : Nat) (xs : List ArcD) (w : World) (hn : n ≤ 1048576) (hl : xs.length = n) (hx : ArcsAt w A xs) (hy : ArcsAt w B xs) :
    Calls Try.prog 37 #[.agg #[.int .i64 m, .slice A n c], .agg #[.int .i64 m, .slice B n c']] w fun e w' => e = .returned (.bool true) ∧ Below w.heap.size w w' := by
  have hb0 : Past w ((w.alloc (.cells #[.int .i64 m, .slice A n c] 32)).alloc (.cells #[.int .i64 m, .slice B n c'] 32)) := ((Past.refl _).alloc _).alloc _
  have hx0 := hx.below hb0
  have hy0 := hy.below hb0
  have HL := Lib.hid hl
  clear hl hx hy
  go_enter Try.func37, Try.ntmps37
  go_wp2
  go_loopw [5] (fun i wr => ∃ k : Nat, k ≤ n ∧ i = .int .i64 k ∧ Past ((w.alloc (.cells #[.int .i64 m, .slice A n c] 32)).alloc (.cells #[.int .i64 m, .slice B n c'] 32)) wr) (fun i _ => n - (intOf i).toNat)
  case atStart => exact ⟨0, by omega, rfl, Past.refl _⟩
  case round =>
    obtain ⟨k, hk, rfl, hb⟩ := hrel
    have b1 := cell_in (p := ⟨w.heap.size, 1, none⟩) (v := .slice A n c) hb (by go_simp)
    have e1 := cell_in (p := ⟨w.heap.size + 1, 1, none⟩) (v := .slice B n c') hb (by go_simp)
    by_cases hlt : k < n
    · obtain ⟨⟨f, t, co, l, d⟩, ha⟩ : ∃ a, xs[k]? = some a := ⟨_, List.getElem?_eq_getElem (by have := HL.out; omega)⟩
      obtain ⟨g, o, rfl, c0, c1, c2, c3, c4⟩ := (hx0.below hb) k _ ha
      obtain ⟨g', o', rfl, d0, d1, d2, d3, d4⟩ := (hy0.below hb) k _ ha
      have hi : (k : Int) < (n : Int) := by omega
      have h0 : (0 : Int) ≤ (k : Int) := by omega
      clear ha
      go_wp2_with fail
      go_quiet (with_reducible exact rfl)
      go_wp2
      go_roundw
      case rel => exact ⟨k + 1, by omega, by go_num, hb.drewN _⟩
      case measure => simp [intOf]; omega
    · go_wp2
      go_ret
      exact ⟨rfl, hb0.trans hb⟩

end Go.Proofs.Ytaojognjkiifmaa
