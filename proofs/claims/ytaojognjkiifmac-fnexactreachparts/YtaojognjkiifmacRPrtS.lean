/-
  Of each node the least that it can reach, and that can reach it, as the specification goes: spec.ReachParts. No condition.
-/
import Derived.Test.YtaojognjkiifmacPReach
import Derived.Test.YtaojognjkiifmacPBack
import Derived.Test.YtaojognjkiifmacBack
import Derived.Test.YtaojognjkiifmacRInS
namespace Go.Proofs.Ytaojognjkiifmac
open Go.RowKit

set_option maxRecDepth 100000 in
set_option maxHeartbeats 4000000 in
theorem specReachParts_any (m : Int) (A : Option Addr) (n c : Nat) (xs : List ArcD) (w : World) (hn : n ≤ 1048576) (hnx : xs.length = n) (hx : ArcsAt w A xs) :
    Calls Try.prog 35 #[.agg #[.int .i64 m, .slice A n c]] w (Gives w (kindsI m xs)) := by
  have HX := Lib.hid hnx
  clear hnx
  obtain ⟨i0, hi, hz0, hz1, hz2⟩ := info_parts infoInt
  obtain ⟨W0, hW0⟩ : ∃ W0, W0 = w.alloc (.cells #[.int .i64 m, .slice A n c] 30) := ⟨_, rfl⟩
  have hpW : Past w W0 := by rw [hW0]; exact (Past.refl _).alloc _
  have b0 : W0.cell? ⟨w.heap.size, 0, none⟩ = some (.int .i64 m) := by rw [hW0]; go_simp
  have b1 : W0.cell? ⟨w.heap.size, 1, none⟩ = some (.slice A n c) := by rw [hW0]; go_simp
  have HW := Lib.hid hW0
  have hsz : W0.heap.size = w.heap.size + 1 := by rw [hW0]; simp
  clear hW0
  go_enter Try.func35, Try.ntmps35
  go_wp2_with fail
  rw [← HW.out]
  clear HW
  have hr0 := Res.empty_new W0
  obtain ⟨W1, hW1⟩ : ∃ W1, W1 = W0.alloc (.cells #[] 3) := ⟨_, rfl⟩
  have hpW1 : Past W0 W1 := by rw [hW1]; exact (Past.refl _).alloc _
  rw [← hW1] at hr0 ⊢
  rw [hsz] at hr0
  clear hW1
  have b0' := cell_in hpW1 b0
  have b1' := cell_in hpW1 b1
  have hx1 := hx.below (hpW.trans hpW1)
  refine (l1Ok_any m A n c xs _ hn HX.out hx1).mono ?_
  rintro e w1 ⟨rfl, hb1⟩
  have b0' := cell_in hb1 b0'
  have b1' := cell_in hb1 b1'
  have hr0 := hr0.below hb1
  have hp1 := Past.trans hpW1 hb1
  have hx0 := hx.below hpW
  clear hb1 hpW1 hx1
  cases hB : netB m xs with
  | false =>
    have HB := Lib.hid hB
    clear hB
    go_wp2
    go_ret
    exact ⟨_, rfl, by rw [kindsI, HB.out]; exact Res.nil _ _, hpW.trans hp1⟩
  | true =>
  obtain ⟨M, rfl, h1, h8⟩ := here_nat hB
  have h16 : n ≤ 16 := by rw [← HX.out]; exact ((netB_iff _ _).1 hB).2.1
  have HB := Lib.hid hB
  have HK : Hid (kindsI (M : Int) xs = (List.range M).map fun i => (kindI M xs i : Int)) := by rw [Hid, kindsI, if_pos hB, Int.toNat_natCast]
  clear hB
  go_wp2
  go_loopw [3, 4, 5, 6, 7] (fun v i _ _ _ wr => ∃ q : Nat, q ≤ M ∧ i = .int .i64 q ∧ Res wr (w.heap.size + 1) v ((List.range q).map fun i => (kindI M xs i : Int)) ∧ Past W0 wr) (fun _ i _ _ _ _ => M - (intOf i).toNat)
  case atStart => exact ⟨0, by omega, rfl, by simpa using hr0, hp1⟩
  case round =>
    clear hr0 hp1 b0' b1'
    obtain ⟨q, hq, rfl, hv, hb⟩ := hrel
    have b0r := cell_in hb b0
    have b1r := cell_in hb b1
    by_cases hlt : q < M
    · have q0 : (0 : Int) ≤ (q : Int) := by omega
      have q1 : (q : Int) < (M : Int) := by omega
      go_wp2_with fail
      refine (l3All_any M (q : Int) A n c xs _ h8 HX.out hn (hx0.below hb) (arcsIn_net HB.out) ⟨q0, q1⟩).mono ?_
      rintro e w3 ⟨v3, rfl, hv3, hb3⟩
      obtain ⟨D, cd, rfl, hd3, _⟩ := hv3.form
      rw [nearL_length]
      have b0r := cell_in hb3 b0r
      have b1r := cell_in hb3 b1r
      have hbb := Past.trans hb hb3
      have hv := hv.below hb3
      clear hv3 hb hb3
      go_wp2_with fail
      refine (l1Back_any (M : Int) A n c xs _ h16 HX.out (hx0.below hbb)).mono ?_
      rintro e w4 ⟨A4, c4, rfl, hx4, _, hb4⟩
      have hfl : (xs.map flip).length = n := by rw [List.length_map, HX.out]
      rw [hfl]
      have HFL := Lib.hid hfl
      have hd4 := hd3.below hb4
      have b0r := cell_in hb4 b0r
      have b1r := cell_in hb4 b1r
      have hbb := Past.trans hbb hb4
      have hv := hv.below hb4
      clear hfl hb4 hd3
      go_wp2_with fail
      refine (l3All_any M (q : Int) A4 n c4 (xs.map flip) _ h8 HFL.out hn hx4 (arcsIn_back (arcsIn_net HB.out)) ⟨q0, q1⟩).mono ?_
      rintro e w5 ⟨v5, rfl, hv5, hb5⟩
      obtain ⟨D2, cd2, rfl, he5, _⟩ := hv5.form
      rw [nearL_length]
      have hd5 := hd4.below hb5
      have b0r := cell_in hb5 b0r
      have b1r := cell_in hb5 b1r
      have hbb := Past.trans hbb hb5
      have hv := hv.below hb5
      clear hv5 hb5 hd4 hx4
      have hdl : (nearL M xs (q : Int)).length = M := nearL_length _ _ _
      have hel : (nearL M (xs.map flip) (q : Int)).length = M := nearL_length _ _ _
      have hbk : ∀ k : Nat, k < M → at_ (nearL M (xs.map flip) (q : Int)) (k : Int) = at_ (nearL M xs (k : Int)) (q : Int) := fun k hk => (near_back (by omega) (arcsIn_net HB.out) ⟨by omega, by omega⟩ ⟨q0, q1⟩).symm
      obtain ⟨d, hd⟩ : ∃ d, d = nearL M xs (q : Int) := ⟨_, rfl⟩
      obtain ⟨e, he⟩ : ∃ e, e = nearL M (xs.map flip) (q : Int) := ⟨_, rfl⟩
      have hbo : ∀ k : Nat, k < M → bothB M xs q k = (decide (at_ d (k : Int) < 99999) && decide (at_ e (k : Int) < 99999)) := fun k hk => by rw [bothB, hd, he, hbk k hk]
      rw [← hd] at hd5 hdl
      rw [← he] at he5 hel
      have HDL := Lib.hid hdl
      have HEL := Lib.hid hel
      have HBO := Lib.hid hbo
      have HV := Lib.hid hv
      have HP := Lib.hid hbb
      clear hdl hel hbk hd he hbo hv hbb
      go_wp2
      go_loopw [3, 7] (fun v i wz => ∃ k : Nat, k ≤ M ∧ i = .int .i64 k ∧ Res wz (w.heap.size + 1) v ((List.range q).map fun i => (kindI M xs i : Int)) ∧ Past w5 wz ∧ (∀ j, j < k → bothB M xs q j = false)) (fun _ i _ => M - (intOf i).toNat)
      case atStart => exact ⟨0, by omega, rfl, HV.out, Past.refl _, fun j h => absurd h (by omega)⟩
      case round =>
        obtain ⟨k, hk, rfl, hv, hpz, hno⟩ := hrel
        have b0z := cell_in hpz b0r
        have hdz := hd5.below hpz
        have hez := he5.below hpz
        have hkM : k < M := by
          rcases Nat.lt_or_ge k M with h | h
          · exact h
          · have := hno q (by omega)
            rw [bothB_self (by omega) (arcsIn_net HB.out) hlt] at this
            cases this
        obtain ⟨x, hxx⟩ : ∃ x, x = at_ d (k : Int) := ⟨_, rfl⟩
        obtain ⟨y, hyy⟩ : ∃ y, y = at_ e (k : Int) := ⟨_, rfl⟩
        obtain ⟨g, o, rfl, c0⟩ := hdz k x (by rw [hxx]; exact getElem_at d k (by rw [HDL.out]; exact hkM))
        obtain ⟨g', o', rfl, c1⟩ := hez k y (by rw [hyy]; exact getElem_at e k (by rw [HEL.out]; exact hkM))
        have hb2 := HBO.out k hkM
        rw [← hxx, ← hyy] at hb2
        have k0 : (0 : Int) ≤ (k : Int) := by omega
        have k1 : (k : Int) < (M : Int) := by omega
        have HNO := Lib.hid hno
        have HB2 := Lib.hid hb2
        clear hxx hyy hno hb2
        by_cases g1 : x < 99999
        · by_cases g2 : y < 99999
          · have hkk : kindI M xs q = k := firstB_eq hkM (by rw [HB2.out, decide_eq_true g1, decide_eq_true g2]; rfl) HNO.out
            have HKK := Lib.hid hkk
            unfold Res at hv
            rw [List.length_map, List.length_range] at hv
            have hsw : w.heap.size + 1 ≤ wr.heap.size := by have := HP.out.size; have := hpz.size; omega
            clear hkk
            go_wp2_with (first | (at_builtin; (refine wpList_append_own_at _ rfl _ _ 25 rfl (w.heap.size + 1) 3 i0 (.int .i64 0) 1 8 Try.underlying25 hi hz0 hz1 hz2 rfl (by decide) _ q _ rfl (hv.alloc _) ⟨wr.heap.size, 0, none⟩ 1 1 [.int .i64 (k : Int)] rfl rfl (cell_one_new _ _ _) (one_cell _) (by unfold maxLen; omega) (by omega) (by simp; omega) ?_); intro v' w6 hown' hgrow6 hnil6 hat6))
            go_roundw
            case rel => exact ⟨q + 1, by omega, by go_num, by
              rw [List.range_succ, List.map_append, List.map_cons, List.map_nil, HKK.out]
              exact Res.push (by rw [List.length_map, List.length_range]; exact hown'), Past.grown ((HP.out.trans hpz).alloc _) (hv.alloc _) hgrow6 (by omega)⟩
            case measure => simp [intOf]; omega
          · have HX2 := Lib.hid (show ∀ j, j < k + 1 → bothB M xs q j = false from fun j hj => by
              by_cases ej : j = k
              · subst ej; rw [HB2.out, decide_eq_true g1, decide_eq_false g2]; rfl
              · exact HNO.out j (by omega))
            go_wp2
            go_roundw
            case rel => exact ⟨k + 1, by omega, by go_num, hv, hpz, HX2.out⟩
            case measure => simp [intOf]; omega
        · have HX2 := Lib.hid (show ∀ j, j < k + 1 → bothB M xs q j = false from fun j hj => by
            by_cases ej : j = k
            · subst ej; rw [HB2.out, decide_eq_false g1]; rfl
            · exact HNO.out j (by omega))
          go_wp2
          go_roundw
          case rel => exact ⟨k + 1, by omega, by go_num, hv, hpz, HX2.out⟩
          case measure => simp [intOf]; omega
    · obtain rfl : q = M := by omega
      go_wp2
      go_ret
      exact ⟨_, rfl, by rw [HK.out]; exact hv.lower (by omega), hpW.trans hb⟩

end Go.Proofs.Ytaojognjkiifmac
