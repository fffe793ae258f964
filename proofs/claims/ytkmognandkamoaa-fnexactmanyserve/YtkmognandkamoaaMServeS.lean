/-
  Which of a list reaches each node with the least cost: spec.ManyServe. No condition.
-/
import Derived.Test.YtkmognandkamoaaMNear
import Derived.Test.YtkmognandkamoaaPServe
import Derived.Test.YtkmognandkamoaaCOfS
import Derived.Deep.RegionWith
namespace Go.Proofs.Ytkmognandkamoaa
open Go.RowKit

set_option maxRecDepth 100000 in
set_option maxHeartbeats 2000000 in
theorem specManyServe_any (m : Int) (A : Option Addr) (n c : Nat) (xs : List ArcD) (B : Option Addr) (l cb : Nat) (ys : List Int) (w : World) (hn : n ≤ 1048576) (hnx : xs.length = n) (hx : ArcsAt w A xs) (hl : l ≤ 1048576) (hly : ys.length = l) (hy : IntsAt w B ys) :
    Calls Try.prog 32 #[.agg #[.int .i64 m, .slice A n c], .slice B l cb] w (Gives w (serveI m xs ys)) := by
  have HX := Lib.hid hnx
  have HY := Lib.hid hly
  clear hnx hly
  obtain ⟨i0, hi, hz0, hz1, hz2⟩ := info_parts infoInt
  obtain ⟨Wb, hWb⟩ : ∃ Wb, Wb = w.alloc (.cells #[.int .i64 m, .slice A n c] 29) := ⟨_, rfl⟩
  obtain ⟨W, hW⟩ : ∃ W, W = Wb.alloc (.cells #[] 3) := ⟨_, rfl⟩
  have hb0 : Past w Wb := by rw [hWb]; exact (Past.refl _).alloc _
  have hbW : Past Wb W := by rw [hW]; exact (Past.refl _).alloc _
  have hsz : Wb.heap.size = w.heap.size + 1 := by rw [hWb]; simp
  have hres : Res W (w.heap.size + 1) (.slice (some ⟨w.heap.size + 1, 0, none⟩) 0 0) [] := by rw [hW, hWb]; exact res_none _ _ _
  have B0 : Wb.cell? ⟨w.heap.size, 0, none⟩ = some (.int .i64 m) := by rw [hWb]; go_simp
  have B1 : Wb.cell? ⟨w.heap.size, 1, none⟩ = some (.slice A n c) := by rw [hWb]; go_simp
  have HE := Lib.hid (hWb ▸ hW)
  have hx0 := hx.below hb0
  have hy0 := hy.below hb0
  clear hW hWb hx hy
  go_enter Try.func32, Try.ntmps32
  go_wp2_with fail
  rw [← HE.out]
  clear HE
  refine (l1Ok_any m A n c xs _ hn HX.out (hx0.below hbW)).mono ?_
  rintro e w1 ⟨rfl, hb1⟩
  have hres := hres.below hb1
  have hb1 := hbW.trans hb1
  have b0 := cell_in hb1 B0
  have b1 := cell_in hb1 B1
  clear hbW
  cases hB : netB m xs with
  | false =>
    have HB := Lib.hid hB
    clear hB
    go_wp2
    go_ret
    exact ⟨_, rfl, by simp only [serveI, listB, HB.out, Bool.false_and, Bool.false_eq_true, if_false]; exact Res.nil _ _, hb0.trans hb1⟩
  | true =>
    obtain ⟨M, rfl, h1, h8⟩ := here_nat hB
    have HB := Lib.hid hB
    clear hB
    go_wp2_with fail
    refine (l11Nodes_any (M : Int) A n c B l cb ys _ ⟨by omega, by omega⟩ hl HY.out (hy0.below hb1)).mono ?_
    rintro e w2 ⟨rfl, hb2⟩
    have hLB : listB (M : Int) xs ys = (decide (ys.length ≤ 8) && ys.all (fun z => inB z 0 ((M : Int) - 1))) := by rw [listB, HB.out, Bool.true_and]
    rw [← hLB]
    have hres := hres.below hb2
    have hb2 := hb1.trans hb2
    clear hLB hb1 b0 b1
    have b0 := cell_in hb2 B0
    have b1 := cell_in hb2 B1
    cases hC : listB (M : Int) xs ys with
    | false =>
      have HC := Lib.hid hC
      clear hC
      go_wp2
      go_ret
      exact ⟨_, rfl, by simp only [serveI, HC.out, Bool.false_eq_true, if_false]; exact Res.nil _ _, hb0.trans hb2⟩
    | true =>
      obtain ⟨_, hl8, hin⟩ := (listB_iff _ _ _).1 hC
      have HC := Lib.hid hC
      have HIN := Lib.hid hin
      rw [HY.out] at hl8
      clear hC hin
      have hr0 : Res w2 (w.heap.size + 1) (.slice (some ⟨w.heap.size + 1, 0, none⟩) 0 0) (serveTo M xs ys 0) := by simpa [serveTo] using hres
      clear hres
      go_wp2
      go_loopw [5, 6] (fun v i wr => ∃ k : Nat, k ≤ M ∧ i = .int .i64 k ∧ Res wr (w.heap.size + 1) v (serveTo M xs ys k) ∧ Past Wb wr) (fun _ i _ => M - (intOf i).toNat)
      case atStart => exact ⟨0, by omega, rfl, hr0, hb2⟩
      case round =>
        obtain ⟨k, hk, rfl, hv, hb⟩ := hrel
        clear b0 b1 hr0
        have hz := hb.size
        have b0 := cell_in hb B0
        have b1 := cell_in hb B1
        by_cases hlt : k < M
        · have k0 : (0 : Int) ≤ (k : Int) := by omega
          have k1 : (k : Int) < (M : Int) := by omega
          obtain ⟨wo, hwo⟩ : ∃ wo, wo = wr := ⟨_, rfl⟩
          rw [← hwo] at b0 b1 hv hb ⊢
          clear hwo
          have bo0 := b0
          have bo1 := b1
          go_wp2
          go_loopw [7, 8, 9] (fun b v i wr => ∃ j : Nat, j ≤ l ∧ i = .int .i64 j ∧ b = .int .i64 (least (servesOf M xs ys (k : Int)) j).2 ∧ v = .int .i64 (least (servesOf M xs ys (k : Int)) j).1 ∧ Past wo wr) (fun _ _ i _ => l - (intOf i).toNat)
          case atStart => exact ⟨0, by omega, rfl, rfl, rfl, Past.refl _⟩
          case round =>
            obtain ⟨j, hj, rfl, rfl, rfl, hbj⟩ := hrel
            clear b0 b1
            have b0 := cell_in hbj bo0
            have b1 := cell_in hbj bo1
            by_cases hlj : j < l
            · obtain ⟨y, ha⟩ : ∃ a, ys[j]? = some a := ⟨_, List.getElem?_eq_getElem (by have := HY.out; omega)⟩
              obtain ⟨g, o, rfl, c0⟩ := (hy0.below (hb.trans hbj)) j _ ha
              have hyb := HIN.out y (List.mem_of_getElem? ha)
              have HZ : Hid (at_ (servesOf M xs ys (k : Int)) (j : Int) = at_ (nearL M xs y) (k : Int)) := by rw [Hid, servesOf]; exact at_map (f := fun y => at_ (nearL M xs y) (k : Int)) ha
              clear ha
              have j0 : (0 : Int) ≤ (j : Int) := by omega
              have j1 : (j : Int) < (l : Int) := by omega
              obtain ⟨z, hzz⟩ : ∃ z, z = at_ (nearL M xs y) (k : Int) := ⟨_, rfl⟩
              have HG : Hid ((nearL M xs y)[k]? = some z) := by rw [Hid, hzz]; have := getElem_at' (nearL M xs y) (k : Int) (by omega) (by rw [nearL_length]; omega); simpa using this
              rw [← hzz] at HZ
              have hxr := hx0.below (hb.trans hbj)
              clear hzz
              obtain ⟨X, hX⟩ : ∃ X, X = (least (servesOf M xs ys (k : Int)) j).1 := ⟨_, rfl⟩
              obtain ⟨C, hC⟩ : ∃ C, C = (least (servesOf M xs ys (k : Int)) j).2 := ⟨_, rfl⟩
              rw [← hX, ← hC]
              by_cases hzc : z < C
              · have HM : Hid (least (servesOf M xs ys (k : Int)) (j + 1) = ((j : Int), z)) := least_next_lt HZ.out (by rw [← hC]; exact hzc)
                clear hC hX
                go_wp2_with fail
                go_region_with (refine (l3All_any M y A n c xs _ h8 HX.out hn hxr.drew (arcsIn_net HB.out) hyb).mono ?_; rintro e w4 ⟨v4, rfl, hv4, hb4⟩; obtain ⟨D, cd, rfl, hd4, _⟩ := hv4.form; rw [nearL_length]; obtain ⟨g', o', rfl, d0⟩ := hd4 k z HG.out; have hbj : Past wo w4 := hbj.drew.trans hb4; clear hv4 hd4 hb4)
                all_goals go_wp2
                all_goals go_roundw
                all_goals first | exact ⟨j + 1, by omega, by go_num, by rw [HM.out], by rw [HM.out], hbj⟩ | (simp [intOf]; omega)
              · have HM : Hid (least (servesOf M xs ys (k : Int)) (j + 1) = (X, C)) := by rw [Hid, least_next_ge HZ.out (by rw [← hC]; exact hzc), hX, hC]
                clear hC hX
                go_wp2_with fail
                go_region_with (refine (l3All_any M y A n c xs _ h8 HX.out hn hxr.drew (arcsIn_net HB.out) hyb).mono ?_; rintro e w4 ⟨v4, rfl, hv4, hb4⟩; obtain ⟨D, cd, rfl, hd4, _⟩ := hv4.form; rw [nearL_length]; obtain ⟨g', o', rfl, d0⟩ := hd4 k z HG.out; have hbj : Past wo w4 := hbj.drew.trans hb4; clear hv4 hd4 hb4)
                all_goals go_wp2
                all_goals go_roundw
                all_goals first | exact ⟨j + 1, by omega, by go_num, by rw [HM.out], by rw [HM.out], hbj⟩ | (simp [intOf]; omega)
            · obtain rfl : l = j := by omega
              have HN : Hid (serveTo M xs ys (k + 1) = serveTo M xs ys k ++ [(least (servesOf M xs ys (k : Int)) l).1]) := by rw [Hid, serveTo_next, serveOne, HY.out]
              have hkl : (serveTo M xs ys k).length = k := serveTo_length _ _ _ _
              have HKL := Lib.hid hkl
              have hv := hv.below hbj
              have hb := hb.trans hbj
              have hz := hb.size
              unfold Res at hv
              rw [hkl] at hv
              obtain ⟨z, hzz⟩ : ∃ z, z = (least (servesOf M xs ys (k : Int)) l).1 := ⟨_, rfl⟩
              rw [← hzz] at HN ⊢
              clear hzz hkl hbj
              go_wp2_with (first | (at_builtin; refine wpList_append_own _ rfl _ _ 25 rfl (w.heap.size + 1) 3 i0 (.int .i64 0) 1 8 Try.underlying25 hi hz0 hz1 hz2 rfl (by decide) _ _ _ rfl (hv.alloc _) ⟨wr.heap.size, 0, none⟩ 1 1 [.int .i64 z] rfl rfl (cell_one_new _ _ _) (one_cell z) (by unfold maxLen; omega) (by omega) (by simp; omega) ?_; intro v' w3 hown' hgrow3 hnil3))
              go_roundw
              case rel => exact ⟨k + 1, by omega, by go_num, Res.step hown' (by rw [HN.out, List.length_append, HKL.out]; rfl) HN.out, Past.grown (hb.alloc _) (hv.alloc _) hgrow3 (by omega)⟩
              case measure => simp [intOf]; omega
        · obtain rfl : M = k := by omega
          go_wp2
          go_ret
          exact ⟨_, rfl, by rw [serveI, HC.out, if_pos rfl, Int.toNat_natCast]; exact hv.lower (by omega), hb0.trans hb⟩

end Go.Proofs.Ytkmognandkamoaa
