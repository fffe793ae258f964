/-
  Whether a number is within bounds: spec.l1In, impl.within.
-/
import Derived.Test.YtaojognjkiifmacRows
import Derived.Test.YtaojognjkiifmacWords
namespace Go.Proofs.Ytaojognjkiifmac
open Go.RowKit

theorem l1In_any (n lo hi : Int) (w : World) :
    Calls Try.prog 63 #[.int .i64 n, .int .i64 lo, .int .i64 hi] w fun e w' => e = .returned (.bool (inB n lo hi)) ∧ w = w' := by
  by_cases h1 : lo ≤ n
  · go_enter Try.func63, Try.ntmps63
    go_wp2
    go_ret
    exact ⟨ret_bool (by simp [inB, h1]), rfl⟩
  · go_enter Try.func63, Try.ntmps63
    go_wp2
    go_ret
    exact ⟨ret_bool (inB_lo _ _ _ (by omega)).symm, rfl⟩

end Go.Proofs.Ytaojognjkiifmac
