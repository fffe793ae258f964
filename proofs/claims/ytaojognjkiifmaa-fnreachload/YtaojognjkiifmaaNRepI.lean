/-
  slices.Repeat of one number. No condition.
-/
import Derived.Test.YtaojognjkiifmaaNRep0
import Derived.Test.YtaojognjkiifmaaResI
import Derived.Test.YtaojognjkiifmaaNear
namespace Go.Proofs.Ytaojognjkiifmaa
open Go.RowKit

theorem makeIntR (n : Nat) (hn : n ≤ 1048576) (u : World) : (Instr.makeSlice 28 (.int .i64 (n : Int)) (.int .i64 (n : Int))).run Try.prog u =
    .ok (.slice (some ⟨u.heap.size, 0, none⟩) n n) (u.alloc (.cells (madeCells #[.int .i64 0] n) 3)) := makeIntZ n hn u _ rfl

theorem run_copyI (u : World) (ty g o dLen dCap : Nat) (ad : Addr) (sLen sCap : Nat) (cur : Array Value) (cs : List Value) (hg : u.heap[g]? = some (.cells cur 3 (0, 0))) (hn : cs.length = Nat.min sLen dLen)
    (hsrc : ∀ j v, cs[j]? = some v → u.cell? (ad.add j) = some v) (hfit : o + cs.length ≤ cur.size) (h1 : ∀ v ∈ cs, v.oneCell' = true) :
    (Builtin.copy_ #[28, 28] ty #[.slice (some ⟨g, o, none⟩) dLen dCap, .slice (some ad) sLen sCap]).run Try.prog u = .ok (goInt (Nat.min sLen dLen)) (u.setRow g (cur.toList.take o ++ cs ++ cur.toList.drop (o + cs.length)).toArray) := by
  obtain ⟨i0, hi, hz0, hz1, hz2⟩ := info_parts infoInt
  have hl := run_loadCells_list (P := Try.prog) u ad cs hsrc
  have hst := run_storeCells_at (P := Try.prog) g o 3 cs 0 cur u hg (by simpa using hfit) h1
  simp only [Nat.add_zero] at hst
  simp [Builtin.copy_, run_underlying Try.underlying28, Builtin.lenOf, Builtin.firstCells, sizeOf, typeInfo, hi, hz1, ← hn, hl, hst]

/-- The first j of n are x. -/
def repI (x : Int) (n j : Nat) : List Int := List.replicate j x ++ List.replicate (n - j) 0
theorem repI_len (x : Int) {n j : Nat} (h : j ≤ n) : (repI x n j).length = n := by simp [repI]; omega
theorem repI_made (x : Int) (n : Nat) (hn : n ≤ 17) : madeCells #[.int .i64 0] n = (ints (repI x n 0)).toArray := by
  have h : n = 0 ∨ n = 1 ∨ n = 2 ∨ n = 3 ∨ n = 4 ∨ n = 5 ∨ n = 6 ∨ n = 7 ∨ n = 8 ∨ n = 9 ∨ n = 10 ∨ n = 11 ∨ n = 12 ∨ n = 13 ∨ n = 14 ∨ n = 15 ∨ n = 16 ∨ n = 17 := by omega
  rcases h with rfl | rfl | rfl | rfl | rfl | rfl | rfl | rfl | rfl | rfl | rfl | rfl | rfl | rfl | rfl | rfl | rfl | rfl
  all_goals (simp [madeCells, repI, ints, Array.range, List.replicate]; try rfl)
theorem ints_one1 (xs : List Int) : ∀ v ∈ ints xs, v.oneCell' = true := fun v hv => by
  obtain ⟨x, _, rfl⟩ := List.mem_map.1 hv
  rfl
theorem repI_step (x : Int) (n j m : Nat) : (ints (repI x n j)).take j ++ ints (List.replicate m x) ++ (ints (repI x n j)).drop (j + m) = ints (repI x n (j + m)) := by
  unfold ints
  rw [← List.map_take, ← List.map_drop, ← List.map_append, ← List.map_append]
  congr 1
  unfold repI
  rw [List.take_left' (by simp), List.drop_append, List.length_replicate, List.drop_of_length_le (by simp), List.nil_append, List.drop_replicate, show j + m - j = m by omega, show n - j - m = n - (j + m) by omega, List.replicate_append_replicate]

theorem copy_stepI (u w : World) (x : Int) (n j m g sLen dLen : Nat) (ad : Addr) (hg : u.heap[g]? = some (.cells (ints (repI x n j)).toArray 3 (0, 0))) (hb : Past w u) (hgw : w.heap.size ≤ g) (hjm : j + m ≤ n)
    (hsrc : ∀ i v, (ints (List.replicate m x))[i]? = some v → u.cell? (ad.add i) = some v) (hmin : Nat.min sLen dLen = m) :
    ∃ u', (∀ ty dCap sCap, (Builtin.copy_ #[28, 28] ty #[.slice (some ⟨g, j, none⟩) dLen dCap, .slice (some ad) sLen sCap]).run Try.prog u = .ok (.int .i64 (m : Int)) u') ∧ u'.heap[g]? = some (.cells (ints (repI x n (j + m))).toArray 3 (0, 0)) ∧ Past w u' := by
  have hl : (ints (List.replicate m x)).length = m := by simp [ints]
  refine ⟨u.setRow g (ints (repI x n (j + m))).toArray, fun ty dCap sCap => ?_, setRow_heap u g _ _ _ _ hg, below_setRow hb hgw _⟩
  have h := run_copyI u ty g j dLen dCap ad sLen sCap _ (ints (List.replicate m x)) hg (by rw [hl, hmin]) hsrc (by have e := repI_len x (show j ≤ n by omega); rw [List.size_toArray, hl]; simp only [ints, List.length_map, e]; omega) (ints_one1 _)
  rw [h, hmin]
  simp only []
  rw [hl, repI_step x n j m]
  rfl
theorem rep_srcI (u : World) (x : Int) (n j m g : Nat) (hm : m ≤ j) (hg : u.heap[g]? = some (.cells (ints (repI x n j)).toArray 3 (0, 0))) : ∀ i v, (ints (List.replicate m x))[i]? = some v → u.cell? ((⟨g, 0, none⟩ : Addr).add i) = some v := fun i v hv => by
  rw [Addr.add_lit, Nat.zero_add, cell_of_row _ _ _ _ _ _ hg]
  have h1 : ints (repI x n j) = ints (List.replicate m x) ++ ints (List.replicate (j - m) x ++ List.replicate (n - j) 0) := by
    rw [← ints_append, ← List.append_assoc, List.replicate_append_replicate, show m + (j - m) = j by omega]
    rfl
  have hlt := (List.getElem?_eq_some_iff.1 hv).1
  rw [List.getElem?_toArray, h1, List.getElem?_append_left hlt]
  exact hv

/-- Behind Repeat. -/
def RepeatedI (w : World) (x : Int) (n : Nat) (e : Ending) (w' : World) : Prop :=
  e = .returned (.slice (some ⟨w.heap.size, 0, none⟩) n n) ∧ w'.heap[w.heap.size]? = some (.cells (ints (List.replicate n x)).toArray 3 (0, 0)) ∧ Past w w'
theorem RowI.of_rep {w : World} {g n : Nat} {x : Int} (h : w.heap[g]? = some (.cells (ints (List.replicate n x)).toArray 3 (0, 0))) : RowI w g (List.replicate n x) :=
  ⟨⟨_, h, by simp [ints]⟩, fun k y hk => ⟨g, 0, rfl, by
    rw [Nat.zero_add, cell_of_row _ _ _ _ _ _ h, List.getElem?_toArray]
    unfold ints
    rw [List.getElem?_map, hk]
    rfl⟩⟩

set_option maxRecDepth 1000000 in
set_option maxHeartbeats 4000000 in
theorem repeatI_any (b n : Nat) (x : Int) (w : World) (hn : n ≤ 17) (h0 : w.cell? ⟨b, 0, none⟩ = some (.int .i64 x)) :
    Calls Try.prog 65 #[.slice (some ⟨b, 0, none⟩) 1 1, .int .i64 (n : Int)] w (RepeatedI w x n) := by
  have hmk := makeIntR n (by omega)
  simp only [repI_made x n hn] at hmk
  have k1 : IntKind.u64.wrap (n : Int) = (n : Int) := IntWalk.u64_in _ (by omega)
  have k2 : IntKind.i64.wrap (n : Int) = (n : Int) := IntWalk.i64_in _ (by omega)
  have k3 : ¬ ((9223372036854775807 : Int) < (n : Int)) := by omega
  have k3' : decide ((9223372036854775807 : Int) < (n : Int)) = false := decide_eq_false k3
  have k4 : ¬ ((n : Int) < 0) := by omega
  have hpV : Past w (w.alloc (.cells (ints (repI x n 0)).toArray 3)) := (Past.refl w).alloc _
  obtain ⟨m0, hm0⟩ : ∃ m0, m0 = min 1 n := ⟨_, rfl⟩
  have hm1 : m0 ≤ n := by omega
  have hm2 : n = 0 ∨ 1 ≤ m0 := by omega
  obtain ⟨W1, hcp, hW1, hp1⟩ := copy_stepI _ w x n 0 m0 w.heap.size 1 n ⟨b, 0, none⟩ (heap_alloc_new w (.cells (ints (repI x n 0)).toArray 3)) hpV (Nat.le_refl _) (by omega)
    (fun i v hv => by
      have hi := (List.getElem?_eq_some_iff.1 hv).1
      simp [ints] at hi
      obtain rfl : i = 0 := by omega
      obtain rfl : m0 = 1 := by omega
      simp [ints] at hv
      subst hv
      rw [Addr.add_lit]
      exact cell_in hpV h0) (by rw [hm0])
  simp only [Nat.zero_add] at hcp hW1
  have hcp1 := hcp 3 n 1
  have HW := Lib.hid hW1
  clear hcp hpV hW1 hm0
  go_enter Try.func65, Try.ntmps65
  go_wp2_with fail
  refine (mul_one n hn _).mono ?_
  rintro e w1 ⟨rfl, rfl⟩
  go_wp2
  go_loopw [8] (fun c wr => ∃ j : Nat, c = .int .i64 j ∧ (n = 0 ∨ 1 ≤ j) ∧ j ≤ n ∧ Hid (wr.heap[w1.heap.size]? = some (.cells (ints (repI x n j)).toArray 3 (0, 0))) ∧ Past w1 wr) (fun c _ => n - (intOf c).toNat)
  case atStart => exact ⟨m0, rfl, hm2, hm1, HW, hp1⟩
  case round =>
    obtain ⟨j, rfl, hj1, hjn, HJ, hbr⟩ := hrel
    by_cases hlt : j < n
    · have hlt' : (j : Int) < (n : Int) := by omega
      obtain ⟨m, hm⟩ : ∃ m, m = min j (n - j) := ⟨_, rfl⟩
      obtain ⟨W2, hcp2, hW2, hp2⟩ := copy_stepI wr.drew w1 x n j m w1.heap.size j (n - j) ⟨w1.heap.size, 0, none⟩ HJ.out hbr.drew (Nat.le_refl _) (by omega) (rep_srcI wr.drew x n j m w1.heap.size (by omega) HJ.out) hm.symm
      have HW2 := Lib.hid hW2
      have hcp3 := hcp2 3 (n - j) n
      have i0 : (0 : Int) ≤ (j : Int) := by omega
      have i1 : (j : Int) ≤ (n : Int) := by omega
      have wj : IntKind.i64.wrap ((j : Int) + (m : Int)) = (j : Int) + (m : Int) := IntWalk.i64_in _ (by omega)
      have hnj : ¬ n = j := by omega
      have HMM := Lib.hid hm
      clear hW2 hcp2 hm
      go_wp2_with fail
      clear hmk hcp1 HW k1 k2 k3 k4 h0 hp1
      go_region_law ((refine step_copy_run' (by rfl) (.tmp 41) (.tmp 44) 28 28 (by rfl) (.slice (some ⟨w1.heap.size, j, none⟩) (n - j) (n - j)) (.slice (some ⟨w1.heap.size, 0, none⟩) j n) (by rfl) (by rfl) hcp3 ?_))
      go_simp
      go_wp2
      go_roundw
      case rel => exact ⟨j + m, by go_num, by omega, by have := HMM.out; omega, HW2, hp2⟩
      case measure => have := HMM.out; simp [intOf]; omega
    · obtain rfl : n = j := by omega
      go_wp2
      go_ret
      refine ⟨rfl, ?_, hbr⟩
      have := HJ.out
      simpa [repI] using this

end Go.Proofs.Ytaojognjkiifmaa
