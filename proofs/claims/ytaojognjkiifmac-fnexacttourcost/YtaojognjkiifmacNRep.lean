/-
  slices.Repeat of one length. No condition.
-/
import Derived.Test.YtaojognjkiifmacNRep0
namespace Go.Proofs.Ytaojognjkiifmac
open Go.RowKit

set_option maxRecDepth 1000000 in
set_option maxHeartbeats 4000000 in
theorem repeat_any (b n : Nat) (x0 x1 : Int) (w : World) (hn1 : 1 ≤ n) (hn : n ≤ 17) (h0 : w.cell? ⟨b, 0, none⟩ = some (.int .i64 x0)) (h1 : w.cell? ⟨b, 1, none⟩ = some (.int .i64 x1)) :
    Calls Try.prog 86 #[.slice (some ⟨b, 0, none⟩) 1 1, .int .i64 (n : Int)] w (Repeated w ⟨x0, x1⟩ n) := by
  have hmk := makeLen n (by omega)
  simp only [repL_made ⟨x0, x1⟩ n hn] at hmk
  have k1 : IntKind.u64.wrap (n : Int) = (n : Int) := IntWalk.u64_in _ (by omega)
  have k2 : IntKind.i64.wrap (n : Int) = (n : Int) := IntWalk.i64_in _ (by omega)
  have k3 : ¬ ((9223372036854775807 : Int) < (n : Int)) := by omega
  have k3' : decide ((9223372036854775807 : Int) < (n : Int)) = false := decide_eq_false k3
  have k4 : ¬ ((n : Int) < 0) := by omega
  have hpV : Past w (w.alloc (.cells (cellsLen (repL ⟨x0, x1⟩ n 0)).toArray 105)) := (Past.refl w).alloc _
  obtain ⟨W1, hcp, hW1, hp1⟩ := copy_step _ w ⟨x0, x1⟩ n 0 1 w.heap.size 1 n ⟨b, 0, none⟩ (heap_alloc_new w (.cells (cellsLen (repL ⟨x0, x1⟩ n 0)).toArray 105)) hpV (Nat.le_refl _) (by omega)
    (fun i v hv => by
      match i, hv with
      | 0, hv => simp [cellsLen] at hv; subst hv; rw [Addr.add_lit]; exact cell_in hpV h0
      | 1, hv => simp [cellsLen] at hv; subst hv; rw [Addr.add_lit]; exact cell_in hpV h1
      | i + 2, hv => simp [cellsLen] at hv) (by show min 1 n = 1; omega)
  simp only [Nat.zero_mul, Nat.zero_add] at hcp hW1
  have hcp1 := hcp 3 n 1
  have HW := Lib.hid hW1
  clear hcp hpV hW1
  go_enter Try.func86, Try.ntmps86
  go_wp2_with fail
  refine (mul_one n hn _).mono ?_
  rintro e w1 ⟨rfl, rfl⟩
  go_wp2
  go_loopw [8] (fun c wr => ∃ j : Nat, c = .int .i64 j ∧ 1 ≤ j ∧ j ≤ n ∧ Hid (wr.heap[w1.heap.size]? = some (.cells (cellsLen (repL ⟨x0, x1⟩ n j)).toArray 105 (0, 0))) ∧ Past w1 wr) (fun c _ => n - (intOf c).toNat)
  case atStart => exact ⟨1, rfl, Nat.le_refl _, hn1, HW, hp1⟩
  case round =>
    obtain ⟨j, rfl, hj1, hjn, HJ, hbr⟩ := hrel
    by_cases hlt : j < n
    · have hlt' : (j : Int) < (n : Int) := by omega
      obtain ⟨m, hm⟩ : ∃ m, m = min j (n - j) := ⟨_, rfl⟩
      obtain ⟨W2, hcp2, hW2, hp2⟩ := copy_step wr.drew w1 ⟨x0, x1⟩ n j m w1.heap.size j (n - j) ⟨w1.heap.size, 0, none⟩ HJ.out hbr.drew (Nat.le_refl _) (by omega) (rep_src wr.drew ⟨x0, x1⟩ n j m w1.heap.size (by omega) HJ.out) hm.symm
      have HW2 := Lib.hid hW2
      have hcp3 := hcp2 3 (n - j) n
      have i0 : (0 : Int) ≤ (j : Int) := by omega
      have i1 : (j : Int) ≤ (n : Int) := by omega
      have wj : IntKind.i64.wrap ((j : Int) + (m : Int)) = (j : Int) + (m : Int) := IntWalk.i64_in _ (by omega)
      have hnj : ¬ n = j := by omega
      have HMM := Lib.hid hm
      clear hW2 hcp2 hm
      go_wp2_with fail
      clear hmk hcp1 HW k1 k2 k3 k4 h0 h1 hp1
      go_region_law ((refine step_copy_run' (by rfl) (.tmp 41) (.tmp 44) 69 69 (by rfl) (.slice (some ⟨w1.heap.size, j * 2, none⟩) (n - j) (n - j)) (.slice (some ⟨w1.heap.size, 0, none⟩) j n) (by rfl) (by rfl) hcp3 ?_))
      go_simp
      go_wp2
      go_roundw
      case rel => exact ⟨j + m, by go_num, by omega, by have := HMM.out; omega, HW2, hp2⟩
      case measure => have := HMM.out; simp [intOf]; omega
    · obtain rfl : n = j := by omega
      go_wp2
      go_ret
      refine ⟨rfl, ?_, hbr⟩
      have := HJ.out
      simpa [repL] using this

end Go.Proofs.Ytaojognjkiifmac
