/-
  Whether a number is within bounds: impl.within.
-/
import Derived.Test.YtaojognjkiifmacIn
namespace Go.Proofs.Ytaojognjkiifmac
open Go.RowKit

theorem within_any (n hi : Int) (w : World) :
    Calls Try.prog 107 #[.int .i64 n, .int .i64 hi] w fun e w' => e = .returned (.bool (inB n 0 hi)) ∧ w = w' := by
  by_cases h1 : 0 ≤ n
  · go_enter Try.func107, Try.ntmps107
    go_wp2
    go_ret
    exact ⟨ret_bool (by simp [inB, h1]), rfl⟩
  · go_enter Try.func107, Try.ntmps107
    go_wp2
    go_ret
    exact ⟨ret_bool (inB_lo _ _ _ (by omega)).symm, rfl⟩



end Go.Proofs.Ytaojognjkiifmac
