/-
  The most that it costs at least from one node to another one, as the specification goes: spec.ReachFar. No condition.
-/
import Derived.Test.YtifbigfkakappaaPReach
namespace Go.Proofs.Ytifbigfkakappaa
open Go.RowKit

set_option maxRecDepth 100000 in
set_option maxHeartbeats 1000000 in
theorem specReachFar_any (m : Int) (A : Option Addr) (n c : Nat) (xs : List ArcD) (w : World) (hn : n ≤ 1048576) (hnx : xs.length = n) (hx : ArcsAt w A xs) :
    Calls Try.prog 8 #[.agg #[.int .i64 m, .slice A n c]] w fun e w' => e = .returned (.int .i64 (mostI m xs)) ∧ Below w.heap.size w w' := by
  have HX := Lib.hid hnx
  clear hnx
  have hb0 : Past w (w.alloc (.cells #[.int .i64 m, .slice A n c] 25)) := (Past.refl _).alloc _
  go_enter Try.func8, Try.ntmps8
  go_wp2_with fail
  refine (l1Ok_any m A n c xs _ hn HX.out (hx.below hb0)).mono ?_
  rintro e w1 ⟨rfl, hb1⟩
  have b0 := cell_in (p := ⟨w.heap.size, 0, none⟩) (v := .int .i64 m) hb1 (by go_simp)
  have b1 := cell_in (p := ⟨w.heap.size, 1, none⟩) (v := .slice A n c) hb1 (by go_simp)
  have hp1 := hb0.trans hb1
  have hx1 := hx.below hp1
  clear hb0 hb1 hx
  cases hB : netB m xs with
  | false =>
    have HB := Lib.hid hB
    clear hB
    go_wp2
    go_ret
    exact ⟨ret_int (by rw [mostI, HB.out]; rfl), hp1⟩
  | true =>
    obtain ⟨M, rfl, h1, h8⟩ := here_nat hB
    have HB := Lib.hid hB
    clear hB
    go_wp2
    go_loopw [3, 4] (fun b i wr => ∃ k : Nat, k ≤ M ∧ i = .int .i64 k ∧ b = .int .i64 (farR M xs k) ∧ Past w1 wr) (fun _ i _ => M - (intOf i).toNat)
    case atStart => exact ⟨0, by omega, rfl, rfl, Past.refl _⟩
    case round =>
      obtain ⟨k, hk, rfl, rfl, hb⟩ := hrel
      have c0 := cell_in hb b0
      have c1 := cell_in hb b1
      by_cases hlt : k < M
      · have i0 : (0 : Int) ≤ (k : Int) := by omega
        have i1 : (k : Int) < (M : Int) := by omega
        go_wp2_with fail
        refine (l3All_any M (k : Int) A n c xs _ h8 HX.out hn (hx1.below hb) (arcsIn_net HB.out) (by omega)).mono ?_
        rintro e w4 ⟨v4, rfl, hv4, hb4⟩
        obtain ⟨D, cd, rfl, hd4, _⟩ := hv4.form
        rw [nearL_length]
        obtain ⟨d, hd⟩ : ∃ d, d = nearL M xs (k : Int) := ⟨_, rfl⟩
        rw [← hd] at hd4
        have hdl : d.length = M := by rw [hd, nearL_length]
        have HDL := Lib.hid hdl
        obtain ⟨b, hbb⟩ : ∃ b, b = farR M xs k := ⟨_, rfl⟩
        have HN : Hid (farR M xs (k + 1) = farTo d b M) := by rw [Hid, farR, ← hd, ← hbb]
        have hd9 : ∀ v : Int, 0 ≤ v → v < M → at_ d v ≤ 99999 := fun v h0 h1 => by rw [hd]; exact (nearL_bound (arcsIn_net HB.out) ⟨by omega, by omega⟩ ⟨h0, h1⟩).2
        have HD9 := Lib.hid hd9
        rw [← hbb]
        have c0 := cell_in hb4 c0
        have hbq := hb.trans hb4
        clear hd hdl hv4 hb4 hbb hd9
        go_wp2
        go_loopw [3, 6] (fun b' i wq => ∃ j : Nat, j ≤ M ∧ i = .int .i64 j ∧ b' = .int .i64 (farTo d b j) ∧ Past w4 wq) (fun _ i _ => M - (intOf i).toNat)
        case atStart => exact ⟨0, by omega, rfl, rfl, Past.refl _⟩
        case round =>
          obtain ⟨j, hj, rfl, rfl, hbz⟩ := hrel
          have c0 := cell_in hbz c0
          by_cases hjl : j < M
          · obtain ⟨z, hz⟩ : ∃ z, z = at_ d (j : Int) := ⟨_, rfl⟩
            obtain ⟨g, o, rfl, d0⟩ := (hd4.below hbz) j z (by rw [hz]; exact getElem_at d j (by rw [HDL.out]; exact hjl))
            have hz9 : z ≤ 99999 := by rw [hz]; exact HD9.out _ (by omega) (by omega)
            obtain ⟨F, hF⟩ : ∃ F, F = farTo d b j := ⟨_, rfl⟩
            have j0 : (0 : Int) ≤ (j : Int) := by omega
            have j1 : (j : Int) < (M : Int) := by omega
            have HUP : Hid (z < 99999 → F < z → farTo d b (j + 1) = z) := fun q1 q2 => by rw [hz]; exact farTo_up ((rchB_iff _ _).2 ⟨by rw [← hz]; exact q1, by rw [← hz]; exact hz9⟩) (by rw [← hz, ← hF]; exact q2)
            have HNO : Hid (¬ (z < 99999 ∧ F < z) → farTo d b (j + 1) = F) := fun q => by
              rw [hF]
              refine farTo_no ?_
              by_cases q1 : z < 99999
              · exact .inr (by rw [← hz, ← hF]; exact fun q2 => q ⟨q1, q2⟩)
              · exact .inl ((rchB_no _ _).2 (by rw [← hz]; exact fun q2 => q1 q2.1))
            rw [← hF]
            clear hF hz
            by_cases q1 : z < 99999
            · by_cases q2 : F < z
              · go_wp2
                go_roundw
                case rel => exact ⟨j + 1, by omega, by go_num, by rw [HUP.out q1 q2], hbz⟩
                case measure => simp [intOf]; omega
              · go_wp2
                go_roundw
                case rel => exact ⟨j + 1, by omega, by go_num, by rw [HNO.out (fun q => q2 q.2)], hbz⟩
                case measure => simp [intOf]; omega
            · go_wp2
              go_roundw
              case rel => exact ⟨j + 1, by omega, by go_num, by rw [HNO.out (fun q => q1 q.1)], hbz⟩
              case measure => simp [intOf]; omega
          · obtain rfl : j = M := by omega
            go_wp2
            go_roundw
            case rel => exact ⟨k + 1, by omega, by go_num, by rw [HN.out], hbq.trans hbz⟩
            case measure => simp [intOf]; omega
      · obtain rfl : k = M := by omega
        go_wp2
        go_ret
        exact ⟨ret_int (by rw [mostI, HB.out, if_pos rfl, Int.toNat_natCast]), hp1.trans hb⟩

end Go.Proofs.Ytifbigfkakappaa
