/-
  When steps are a stair: spec.StairOk.
-/
import Derived.Test.YthopenknfadciaaStairOk
namespace Go.Proofs.Ythopenknfadciaa
open Go.RowKit

theorem specStairOk_any (A : Option Addr) (n c : Nat) (xs : List StepD) (w : World) (hn : n ≤ 1048576) (hl : xs.length = n) (hx : StepsAt w A xs) :
    Calls Try.prog 16 #[.slice A n c] w fun e w' => e = .returned (.bool (stairB xs)) ∧ Below w.heap.size w w' := by
  have HX := Lib.hid hl
  clear hl
  go_enter Try.func16, Try.ntmps16
  go_wp2_with fail
  refine (l5Ok_any A n c xs _ hn HX.out hx).mono ?_
  rintro e w1 ⟨rfl, hb1⟩
  go_wp2
  go_ret
  exact ⟨rfl, hb1⟩


end Go.Proofs.Ythopenknfadciaa
