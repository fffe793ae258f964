/-
  What the small functions of the program return, at all arguments. No condition.
-/
import Derived.Test.YtaojognjkiifmacInW
namespace Go.Proofs.Ytaojognjkiifmac
open Go.RowKit

theorem toArc_any (f t c l d : Int) (w : World) :
    Calls Try.prog 77 #[.agg #[.int .i64 f, .int .i64 t, .int .i64 c, .int .i64 l, .int .i64 d]] w fun e w' =>
      e = .returned (.agg #[.int .i64 f, .int .i64 t, .int .i64 c, .int .i64 l, .int .i64 d]) ∧ Below w.heap.size w w' := by
  go_enter Try.func77, Try.ntmps77
  go_wp2
  exact bodyPost_ret (v := .agg #[.int .i64 f, .int .i64 t, .int .i64 c, .int .i64 l, .int .i64 d]) (by simp [results, Try.results77, go_sem]) rfl ⟨rfl, by repeat (first | exact Below.refl _ _ | refine Below.alloc ?_ (by simp <;> omega) _ | refine Below.setCell ?_ (by simp <;> omega) _)⟩

theorem szArcS_any (A : Option Addr) (n cap : Nat) (left : Int) (w : World) (h0 : 0 ≤ left) (h1 : left ≤ 1048576) (hn : n ≤ maxLen) :
    Calls Try.prog 44 #[.slice A n cap, .int .i64 left] w fun e w' => e = .returned (.int .i64 (roomLeft left n)) ∧ w = w' := by
  unfold maxLen at hn
  by_cases h : left - n < 0
  · go_enter Try.func44, Try.ntmps44
    go_wp2
    go_ret
    exact ⟨ret_int (by unfold roomLeft; split <;> omega), rfl⟩
  · go_enter Try.func44, Try.ntmps44
    go_wp2
    go_ret
    exact ⟨ret_int (by unfold roomLeft; split <;> omega), rfl⟩

theorem szNet_any (m : Int) (A : Option Addr) (n cap : Nat) (left : Int) (w : World) (h0 : 0 ≤ left) (h1 : left ≤ 1048576) (hn : n ≤ maxLen) :
    Calls Try.prog 15 #[.agg #[.int .i64 m, .slice A n cap], .int .i64 left] w fun e w' => e = .returned (.int .i64 (roomLeft left n)) ∧ Below w.heap.size w w' := by
  go_enter Try.func15, Try.ntmps15
  go_wp2_with fail
  refine (szArcS_any A n cap left _ h0 h1 hn).mono ?_
  rintro e w' ⟨rfl, rfl⟩
  go_wp2
  all_goals go_ret
  · exact ⟨ret_int (by unfold roomLeft at *; split at * <;> omega), (Below.refl _ _).alloc (Nat.le_refl _) _⟩
  · exact ⟨rfl, (Below.refl _ _).alloc (Nat.le_refl _) _⟩

/-- An arc is ok where the last node is m. -/
def arcB (m : Int) (a : ArcD) : Bool := inB a.f 0 m && (inB a.t 0 m && (!(a.f == a.t) && (inB a.c 0 99 && (inB a.l 0 99 && inB a.d 0 9))))

theorem arcOk_any (a : ArcD) (n : Int) (w : World) :
    Calls Try.prog 101 #[.agg #[.int .i64 a.f, .int .i64 a.t, .int .i64 a.c, .int .i64 a.l, .int .i64 a.d], .int .i64 n] w fun e w' => e = .returned (.bool (arcB (wrap64 (n - 1)) a)) ∧ Below w.heap.size w w' := by
  obtain ⟨f, t, c, l, d⟩ := a
  go_enter Try.func101, Try.ntmps101
  go_wp2_with (first | (go_at_call 107; refine (within_any _ _ _).mono ?_; rintro e w' ⟨rfl, rfl⟩))
  all_goals go_ret
  all_goals exact ⟨ret_bool (by simp [arcB, bne, *]), (Below.refl _ _).alloc (Nat.le_refl _) _⟩

theorem eqArc_same (f t c l d : Int) (w : World) :
    Calls Try.prog 81 #[.agg #[.int .i64 f, .int .i64 t, .int .i64 c, .int .i64 l, .int .i64 d], .agg #[.int .i64 f, .int .i64 t, .int .i64 c, .int .i64 l, .int .i64 d]] w fun e w' => e = .returned (.bool true) ∧ Below w.heap.size w w' := by
  go_enter Try.func81, Try.ntmps81
  go_wp2
  go_ret
  exact ⟨rfl, ((Below.refl _ _).alloc (Nat.le_refl _) _).alloc (by simp) _⟩

end Go.Proofs.Ytaojognjkiifmac
