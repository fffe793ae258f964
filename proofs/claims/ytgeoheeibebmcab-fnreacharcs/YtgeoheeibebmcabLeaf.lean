/-
  What the small functions of the program return, at all arguments. No condition.
-/
import Derived.Test.YtgeoheeibebmcabInW
namespace Go.Proofs.Ytgeoheeibebmcab
open Go.RowKit

/-- An arc is ok where the last node is m. -/
def arcB (m : Int) (a : ArcD) : Bool := inB a.f 0 m && (inB a.t 0 m && (!(a.f == a.t) && (inB a.c 0 99 && (inB a.l 0 99 && inB a.d 0 9))))

theorem arcOk_any (a : ArcD) (n : Int) (w : World) :
    Calls Try.prog 61 #[.agg #[.int .i64 a.f, .int .i64 a.t, .int .i64 a.c, .int .i64 a.l, .int .i64 a.d], .int .i64 n] w fun e w' => e = .returned (.bool (arcB (wrap64 (n - 1)) a)) ∧ Below w.heap.size w w' := by
  obtain ⟨f, t, c, l, d⟩ := a
  go_enter Try.func61, Try.ntmps61
  go_wp2_with (first | (go_at_call 83; refine (within_any _ _ _).mono ?_; rintro e w' ⟨rfl, rfl⟩))
  all_goals go_ret
  all_goals exact ⟨ret_bool (by simp [arcB, bne, *]), (Below.refl _ _).alloc (Nat.le_refl _) _⟩

end Go.Proofs.Ytgeoheeibebmcab
