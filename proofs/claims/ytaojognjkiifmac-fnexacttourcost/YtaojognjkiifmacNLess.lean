/-
  Lengths: less, plus; what is reached sooner. No condition.
-/
import Derived.Test.YtaojognjkiifmacRHeap
namespace Go.Proofs.Ytaojognjkiifmac
open Go.RowKit

def lenV (a : LenD) : Value := .agg #[.int .i64 a.x0, .int .i64 a.x1]
def openV (a : OpenD) : Value := .agg #[.int .i64 a.x0, .int .i64 a.x1, .int .i64 a.x2]

set_option maxRecDepth 100000 in
set_option maxHeartbeats 1000000 in
theorem less_any (a0 a1 b0 b1 : Int) (w : World) :
    Calls Try.prog 92 #[.agg #[.int .i64 a0, .int .i64 a1], .agg #[.int .i64 b0, .int .i64 b1]] w fun e w' => e = .returned (.bool (lessB ⟨a0, a1⟩ ⟨b0, b1⟩)) ∧ Below w.heap.size w w' := by
  have hp : Past w ((w.alloc (.cells #[.int .i64 a0, .int .i64 a1] 105)).alloc (.cells #[.int .i64 b0, .int .i64 b1] 105)) := ((Past.refl w).alloc _).alloc _
  by_cases h : a0 = b0
  · subst h
    go_enter Try.func92, Try.ntmps92
    go_wp2
    go_ret
    exact ⟨ret_bool (by simp [lessB]), hp⟩
  · have h1 : (a0 == b0) = false := by simpa using h
    have h2 : (a0 != b0) = true := by simpa using h
    go_enter Try.func92, Try.ntmps92
    go_wp2
    go_ret
    exact ⟨ret_bool (by simp [lessB, h]), hp⟩

set_option maxRecDepth 100000 in
set_option maxHeartbeats 1000000 in
theorem plus_any (a0 a1 f t c l d : Int) (w : World) (h0 : 0 ≤ a0 ∧ a0 ≤ 1000000) (h1 : 0 ≤ a1 ∧ a1 ≤ 1000000) (hc : 0 ≤ c ∧ c ≤ 1000000) :
    Calls Try.prog 91 #[.agg #[.int .i64 a0, .int .i64 a1], .agg #[.int .i64 f, .int .i64 t, .int .i64 c, .int .i64 l, .int .i64 d]] w fun e w' => e = .returned (.agg #[.int .i64 (a0 + c), .int .i64 (a1 + 1)]) ∧ Below w.heap.size w w' := by
  have t0 : IntKind.i64.wrap (a0 + c) = a0 + c := IntWalk.i64_in _ (by omega)
  have t1 : IntKind.i64.wrap (a1 + 1) = a1 + 1 := IntWalk.i64_in _ (by omega)
  go_enter Try.func91, Try.ntmps91
  go_wp2
  exact bodyPost_ret (v := .agg #[.int .i64 (a0 + c), .int .i64 (a1 + 1)]) (by simp [results, Try.results91, go_sem]) rfl ⟨rfl, by repeat (first | exact Below.refl _ _ | refine Below.alloc ?_ (by simp <;> omega) _ | refine Below.setCell ?_ (by simp <;> omega) _)⟩

def soonerB (a b : OpenD) : Bool := lessB ⟨a.x1, a.x2⟩ ⟨b.x1, b.x2⟩

set_option maxRecDepth 100000 in
set_option maxHeartbeats 1000000 in
theorem sooner_any (a0 a1 a2 b0 b1 b2 : Int) (w : World) :
    Calls Try.prog 87 #[.agg #[.int .i64 a0, .int .i64 a1, .int .i64 a2], .agg #[.int .i64 b0, .int .i64 b1, .int .i64 b2]] w fun e w' => e = .returned (.bool (soonerB ⟨a0, a1, a2⟩ ⟨b0, b1, b2⟩)) ∧ Below w.heap.size w w' := by
  have hp : Past w ((w.alloc (.cells #[.int .i64 a0, .int .i64 a1, .int .i64 a2] 113)).alloc (.cells #[.int .i64 b0, .int .i64 b1, .int .i64 b2] 113)) := ((Past.refl w).alloc _).alloc _
  go_enter Try.func87, Try.ntmps87
  go_wp2_with fail
  refine (less_any a1 a2 b1 b2 _).mono ?_
  rintro e w1 ⟨rfl, hb1⟩
  go_wp2
  go_ret
  exact ⟨rfl, hp.trans hb1⟩

end Go.Proofs.Ytaojognjkiifmac
