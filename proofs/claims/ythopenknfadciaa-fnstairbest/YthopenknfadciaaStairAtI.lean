/-
  When one comes who is there at a time: impl.StairAt.
-/
import Derived.Test.YthopenknfadciaaStairAt
namespace Go.Proofs.Ythopenknfadciaa
open Go.Shelf Go.RowKit Go.Lib Go.Sort

theorem implStairAt_any (A : Option Addr) (n c : Nat) (xs : List StepD) (t : Int) (w : World) (hn : n ≤ 1048576) (hl : xs.length = n) (hx : StepsAt w A xs) :
    Calls Try.prog 21 #[.slice A n c, .int .i64 t] w fun e w' => e = .returned (.int .i64 (atB xs t)) ∧ Below w.heap.size w w' := by
  have HX := Lib.hid hl
  clear hl
  go_enter Try.func21, Try.ntmps21
  go_wp2_with fail
  refine (implStairOk_any A n c xs _ hn HX.out hx).mono ?_
  rintro e w1 ⟨rfl, hb1⟩
  cases hB : stairB xs with
  | false =>
    have HB := Lib.hid hB
    clear hB
    go_wp2
    go_ret
    exact ⟨ret_int (by rw [atB, HB.out]; rfl), hb1⟩
  | true =>
    have HB := Lib.hid hB
    clear hB
    go_wp2_with fail
    refine (stairAt_any A n c xs t _ hn HX.out (hx.below hb1) HB.out).mono ?_
    rintro e w2 ⟨rfl, hb2⟩
    go_wp2
    go_ret
    exact ⟨ret_int (by rw [atB, HB.out]; rfl), Past.trans hb1 hb2⟩


end Go.Proofs.Ythopenknfadciaa
