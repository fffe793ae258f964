/-
  When one comes who is there at a time: spec.StairAt.
-/
import Derived.Test.YthopenknfadciaaStairAtI
namespace Go.Proofs.Ythopenknfadciaa
open Go.Shelf Go.RowKit Go.Lib Go.Sort

theorem specStairAt_any (A : Option Addr) (n c : Nat) (xs : List StepD) (t : Int) (w : World) (hn : n ≤ 1048576) (hl : xs.length = n) (hx : StepsAt w A xs) :
    Calls Try.prog 20 #[.slice A n c, .int .i64 t] w fun e w' => e = .returned (.int .i64 (atB xs t)) ∧ Below w.heap.size w w' := by
  have HX := Lib.hid hl
  clear hl
  go_enter Try.func20, Try.ntmps20
  go_wp2_with fail
  refine (l5Ok_any A n c xs _ hn HX.out hx).mono ?_
  rintro e w1 ⟨rfl, hb1⟩
  cases hB : stairB xs with
  | false =>
    have HB := Lib.hid hB
    clear hB
    go_wp2
    go_ret
    exact ⟨ret_int (by rw [atB, HB.out]; rfl), hb1⟩
  | true =>
    have HB := Lib.hid hB
    clear hB
    go_wp2_with fail
    refine (l5At_any A n c xs t _ hn HX.out (hx.below hb1)).mono ?_
    rintro e w2 ⟨rfl, rfl⟩
    go_wp2
    go_ret
    exact ⟨ret_int (by rw [atB, HB.out]; rfl), hb1⟩


end Go.Proofs.Ythopenknfadciaa
