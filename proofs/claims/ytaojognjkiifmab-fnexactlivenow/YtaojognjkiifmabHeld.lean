/-
  Marks that are found again: heldArcS, heldNet.
-/
import Derived.Test.YtaojognjkiifmabMark
namespace Go.Proofs.Ytaojognjkiifmab
open Go.RowKit

set_option maxHeartbeats 1000000 in
theorem heldArcS_any (A : Option Addr) (n c k : Nat) (w : World) (hn : n ≤ 1048576) (ki : Int) (hki : ki = (k : Int)) (hk : k ≤ 100000000) (hx : ArcsAt w A (markArcs k n)) :
    Calls Try.prog 84 #[.slice A n c, .int .i64 ki] w fun e w' => e = .returned (.int .i64 (k + 5 * n)) ∧ w = w' := by
  subst hki
  go_enter Try.func84, Try.ntmps84
  go_wp2
  go_loop [5, 1] (fun i q => ∃ j : Nat, j ≤ n ∧ i = .int .i64 j ∧ q = .int .i64 ((k : Int) + 5 * (j : Int))) (fun i _ => n - (intOf i).toNat)
  case atStart => exact ⟨0, by omega, rfl, by simp⟩
  case round =>
    obtain ⟨j, hj, rfl, rfl⟩ := hrel
    by_cases hlt : j < n
    · obtain ⟨g, o, rfl, c0, c1, c2, c3, c4⟩ := hx j _ (markArcs_at k n j hlt)
      have q0 : ((k + 5 * j : Nat) : Int) = (k : Int) + 5 * (j : Int) := by omega
      have q1 : ((k + 5 * j + 1 : Nat) : Int) = (k : Int) + 5 * (j : Int) + 1 := by omega
      have q2 : ((k + 5 * j + 2 : Nat) : Int) = (k : Int) + 5 * (j : Int) + 1 + 1 := by omega
      have q3 : ((k + 5 * j + 3 : Nat) : Int) = (k : Int) + 5 * (j : Int) + 1 + 1 + 1 := by omega
      have q4 : ((k + 5 * j + 4 : Nat) : Int) = (k : Int) + 5 * (j : Int) + 1 + 1 + 1 + 1 := by omega
      simp only [q0, q1, q2, q3, q4] at c0 c1 c2 c3 c4
      clear q0 q1 q2 q3 q4
      go_wp2
      go_round
      case rel => exact ⟨j + 1, by omega, by go_num, by go_num⟩
      case measure => simp [intOf]; omega
    · obtain rfl : n = j := by omega
      go_wp2
      go_ret
      exact ⟨rfl, rfl⟩

theorem heldNet_any (m : Int) (A : Option Addr) (n c k : Nat) (w : World) (hn : n ≤ 1048576) (ki : Int) (hki : ki = (k : Int)) (hk : k ≤ 100000000) (hx : ArcsAt w A (markArcs k n)) :
    Calls Try.prog 37 #[.agg #[.int .i64 m, .slice A n c], .int .i64 ki] w fun e w' => e = .returned (.int .i64 (k + 5 * n)) ∧ Below w.heap.size w w' := by
  subst hki
  go_enter Try.func37, Try.ntmps37
  go_wp2_with fail
  have hb0 : Below w.heap.size w (w.alloc (.cells #[.int .i64 m, .slice A n c] 25)) := (Below.refl _ _).alloc (Nat.le_refl _) _
  refine (heldArcS_any A n c k _ hn _ rfl hk (hx.below hb0)).mono ?_
  rintro e w1 ⟨rfl, rfl⟩
  have hpos : ¬ ((k : Int) + 5 * (n : Int) < 0) := by omega
  go_wp2
  go_ret
  exact ⟨rfl, hb0⟩


end Go.Proofs.Ytaojognjkiifmab
