/-
  Whether a number is within bounds: impl.within.
-/
import Derived.Test.YtifbigfkakappaaIn
namespace Go.Proofs.Ytifbigfkakappaa
open Go.RowKit

theorem within_any (n hi : Int) (w : World) :
    Calls Try.prog 65 #[.int .i64 n, .int .i64 hi] w fun e w' => e = .returned (.bool (inB n 0 hi)) ∧ w = w' := by
  by_cases h1 : 0 ≤ n
  · go_enter Try.func65, Try.ntmps65
    go_wp2
    go_ret
    exact ⟨ret_bool (by simp [inB, h1]), rfl⟩
  · go_enter Try.func65, Try.ntmps65
    go_wp2
    go_ret
    exact ⟨ret_bool (inB_lo _ _ _ (by omega)).symm, rfl⟩



end Go.Proofs.Ytifbigfkakappaa
