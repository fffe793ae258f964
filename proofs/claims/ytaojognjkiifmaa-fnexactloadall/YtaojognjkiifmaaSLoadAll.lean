/-
  The most that may go from a node to each, as the specification goes: spec.l18Most, spec.LoadAll. No condition.
-/
import Derived.Test.YtaojognjkiifmaaSLoad
import Derived.Test.YtaojognjkiifmaaNear
import Derived.Test.YtaojognjkiifmaaMark
import Derived.Test.YtaojognjkiifmaaMadeP
namespace Go.Proofs.Ytaojognjkiifmaa
open Go.RowKit

set_option maxRecDepth 100000 in
set_option maxHeartbeats 4000000 in
theorem l18Most_any (m : Nat) (s : Int) (A : Option Addr) (n c : Nat) (xs : List ArcD) (w : World) (hN : netB (m : Int) xs = true) (hnx : xs.length = n) (hn : n ≤ 1048576) (hx : ArcsAt w A xs) (hs : 0 ≤ s ∧ s < m) :
    Calls Try.prog 92 #[.agg #[.int .i64 (m : Int), .slice A n c], .int .i64 s] w (Gives w (mostL m xs s)) := by
  have HX := Lib.hid hnx
  have HN := Lib.hid hN
  have hm : m ≤ 8 := by have := ((netB_iff _ _).1 hN).1; omega
  have hn16 : n ≤ 16 := by have := ((netB_iff _ _).1 hN).2.1; omega
  clear hnx hN
  obtain ⟨hs0, hs1⟩ := hs
  have hmk := makeInt m (by omega)
  have hb0 : Past w (w.alloc (.cells #[.int .i64 (m : Int), .slice A n c] 32)) := (Past.refl _).alloc _
  obtain ⟨W, hW⟩ : ∃ W, W = w.alloc (.cells #[.int .i64 (m : Int), .slice A n c] 32) := ⟨_, rfl⟩
  have hWs : W.heap.size = w.heap.size + 1 := by rw [hW]; simp
  have b0 : W.cell? ⟨w.heap.size, 0, none⟩ = some (.int .i64 (m : Int)) := by rw [hW]; go_simp
  have b1 : W.cell? ⟨w.heap.size, 1, none⟩ = some (.slice A n c) := by rw [hW]; go_simp
  rw [← hW] at hb0
  have hxW := hx.below hb0
  have HW := Lib.hid hW
  have HWS := Lib.hid hWs
  go_enter Try.func92, Try.ntmps92
  clear hW hWs
  go_wp2
  go_loopw [6] (fun i wr => ∃ k : Nat, k ≤ m ∧ i = .int .i64 k ∧ Past W wr ∧ MadeI wr (w.heap.size + 1) 3 m (mostL m xs s) k) (fun i _ => m - (intOf i).toNat)
  case atStart => exact ⟨0, by omega, rfl, by rw [HW.out]; exact (Past.refl _).alloc _, by have := MadeI.start (w.alloc (.cells #[.int .i64 (m : Int), .slice A n c] 32)) 3 m (mostL m xs s) (madeCells #[.int .i64 0] m) (by simp [size_madeCells]); simpa using this⟩
  case round =>
    obtain ⟨k, hk, rfl, hb, hmd⟩ := hrel
    have b0' := cell_in hb b0
    by_cases hlt : k < m
    · obtain ⟨v0, e0⟩ := hmd.1.cell (i := k) hlt
      have z0 := hmd.1.frozen k
      have k0 : (0 : Int) ≤ (k : Int) := by omega
      have k1 : (k : Int) < (m : Int) := by omega
      have hmd0 := hmd.put (.int .i64 (-1))
      have hb0' : Past W (wr.setCell ⟨w.heap.size + 1, k, none⟩ (.int .i64 (-1))) := Below.setCell hb (by rw [HWS.out]; simp) _
      have hc0 : (wr.setCell ⟨w.heap.size + 1, k, none⟩ (.int .i64 (-1))).cell? ⟨w.heap.size + 1, k, none⟩ = some (.int .i64 (mostTo m xs s (k : Int) 0)) := World.cell?_setCell_same _ _ _ e0
      clear hmd
      go_wp2
      go_loopw [7] (fun i wq => ∃ q : Nat, q ≤ 10 ∧ i = .int .i64 q ∧ Past W wq ∧ MadeI wq (w.heap.size + 1) 3 m (mostL m xs s) k ∧ wq.cell? ⟨w.heap.size + 1, k, none⟩ = some (.int .i64 (mostTo m xs s (k : Int) q))) (fun i _ => 10 - (intOf i).toNat)
      case atStart => exact ⟨0, by omega, rfl, hb0', hmd0, hc0⟩
      case round =>
        clear hmd0 hb0' hc0
        obtain ⟨q, hq, rfl, hbq, hmq, hcq⟩ := hrel
        have b0q := cell_in hbq b0
        have b1q := cell_in hbq b1
        by_cases hq10 : q < 10
        · have q9 : (q : Int) ≤ 9 := by omega
          have hxf := forL_in (arcsIn_net HN.out) (q : Int)
          go_wp2_with fail
          refine (l18For_any (m : Int) A n c xs (q : Int) _ hn16 HX.out (hxW.below hbq)).mono ?_
          rintro e w4 ⟨A4, c4, rfl, hx4, _, hb4⟩
          have hn4 : (forL xs (q : Int)).length ≤ 1048576 := Nat.le_trans (forL_len _ _) (by rw [HX.out]; omega)
          obtain ⟨N4, hN4⟩ : ∃ N4, N4 = (forL xs (q : Int)).length := ⟨_, rfl⟩
          rw [← hN4] at hn4 ⊢
          have HN4 := Lib.hid hN4.symm
          clear hN4
          go_wp2_with fail
          refine (l3All_any m s A4 N4 c4 (forL xs (q : Int)) _ hm HN4.out hn4 hx4 hxf ⟨hs0, hs1⟩).mono ?_
          rintro e w5 ⟨v5, rfl, hv5, hb5⟩
          obtain ⟨D, cd, rfl, hd5, _⟩ := hv5.form
          rw [nearL_length]
          obtain ⟨z, hz⟩ : ∃ z, z = at_ (nearL m (forL xs (q : Int)) s) (k : Int) := ⟨_, rfl⟩
          obtain ⟨gd, od, rfl, cz⟩ := hd5 k z (by rw [hz]; exact getElem_at _ k (by rw [nearL_length]; exact hlt))
          have hgo : goesB m xs s (k : Int) (q : Int) = decide (z < 99999) := by rw [goesB, hz]
          have HGO := Lib.hid hgo
          have hb45 := hb4.trans (hb5.mono hb4.size)
          have hmq := hmq.below hb45
          have hcq := cell_in hb45 hcq
          have hbq := Past.trans hbq hb45
          have z0q := hmq.1.frozen k
          clear hgo hz hv5 hd5 hx4 hb4 hb5 hb45
          by_cases hf : z < 99999
          · have HM : Hid (mostTo m xs s (k : Int) (q + 1) = (q : Int)) := mostTo_hit (by rw [HGO.out]; exact decide_eq_true hf)
            go_wp2
            go_roundw
            case rel => exact ⟨q + 1, by omega, by go_num, Below.setCell hbq (by rw [HWS.out]; simp) _, hmq.put _, by rw [HM.out]; exact World.cell?_setCell_same _ _ _ hcq⟩
            case measure => simp [intOf]; omega
          · have HM : Hid (mostTo m xs s (k : Int) (q + 1) = mostTo m xs s (k : Int) q) := mostTo_miss (by rw [HGO.out]; exact decide_eq_false hf)
            go_wp2
            go_roundw
            case rel => exact ⟨q + 1, by omega, by go_num, hbq, hmq, by rw [HM.out]; exact hcq⟩
            case measure => simp [intOf]; omega
        · obtain rfl : q = 10 := by omega
          have q9 : ¬ ((10 : Int) ≤ 9) := by omega
          have hmk1 := hmq.one (mostL_at hlt) hcq
          clear hmq hcq
          go_wp2
          go_roundw
          case rel => exact ⟨k + 1, by omega, by go_num, hbq, hmk1⟩
          case measure => simp [intOf]; omega
    · obtain rfl : m = k := by omega
      have hrow : RowI wr (w.heap.size + 1) (mostL m xs s) := hmd.row (mostL_length _ _ _)
      go_wp2
      go_ret
      exact ⟨_, rfl, hrow.res (mostL_length m xs s) (by omega) (by omega), hb0.trans hb⟩

set_option maxRecDepth 100000 in
set_option maxHeartbeats 1000000 in
theorem specLoadAll_any (m : Int) (A : Option Addr) (n c : Nat) (xs : List ArcD) (s : Int) (w : World) (hn : n ≤ 1048576) (hnx : xs.length = n) (hx : ArcsAt w A xs) :
    Calls Try.prog 49 #[.agg #[.int .i64 m, .slice A n c], .int .i64 s] w (Gives w (loadsI m xs s)) := by
  have HX := Lib.hid hnx
  clear hnx
  have hb0 : Past w (w.alloc (.cells #[.int .i64 m, .slice A n c] 32)) := (Past.refl _).alloc _
  go_enter Try.func49, Try.ntmps49
  go_wp2_with fail
  refine (l1Ok_any m A n c xs _ hn HX.out (hx.below hb0)).mono ?_
  rintro e w1 ⟨rfl, hb1⟩
  have b0 := cell_in (p := ⟨w.heap.size, 0, none⟩) (v := .int .i64 m) hb1 (by go_simp)
  have b1 := cell_in (p := ⟨w.heap.size, 1, none⟩) (v := .slice A n c) hb1 (by go_simp)
  have hx1 := (hx.below hb0).below hb1
  have hp1 := hb0.trans hb1
  clear hb0 hb1
  cases hB : netB m xs with
  | false =>
    have HB := Lib.hid hB
    clear hB
    go_wp2
    go_ret
    exact ⟨_, rfl, by rw [loadsI, hereB, HB.out]; exact Res.nil _ _, hp1⟩
  | true =>
    obtain ⟨M, rfl, h1, h8⟩ := here_nat hB
    have HB := Lib.hid hB
    clear hB
    go_wp2_with fail
    refine (l1In_any _ _ _ _).mono ?_
    rintro e w2 ⟨rfl, rfl⟩
    cases hI : inB s 0 ((M : Int) - 1) with
    | false =>
      have HI := Lib.hid hI
      clear hI
      go_wp2
      go_ret
      exact ⟨_, rfl, by rw [loadsI, hereB, HB.out, HI.out]; exact Res.nil _ _, hp1⟩
    | true =>
      have hs := (inB_iff _ _ _).1 hI
      have HI := Lib.hid hI
      clear hI
      go_wp2_with fail
      refine (l18Most_any M s A n c xs _ HB.out HX.out hn hx1 (by omega)).mono ?_
      rintro e w3 ⟨v3, rfl, hv3, hb3⟩
      have hlo := hp1.size
      go_wp2
      go_ret
      exact ⟨_, rfl, by rw [loadsI, hereB, HB.out, HI.out, if_pos (by rfl), Int.toNat_natCast]; exact hv3.lower (by omega), hp1.trans hb3⟩

end Go.Proofs.Ytaojognjkiifmaa
