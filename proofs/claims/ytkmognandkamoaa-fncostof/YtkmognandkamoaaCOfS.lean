/-
  A cost for each arc, of costs and tolls: spec.CostOf. No condition.
-/
import Derived.Test.YtkmognandkamoaaNCosts
import Derived.Test.YtkmognandkamoaaPCost
namespace Go.Proofs.Ytkmognandkamoaa
open Go.RowKit

theorem res_none (w : World) (t : Nat) (cs : Array Value) : Res ((w.alloc (.cells cs t)).alloc (.cells #[] 3)) (w.heap.size + 1) (.slice (some ⟨w.heap.size + 1, 0, none⟩) 0 0) [] := by
  refine ⟨rfl, .inr ⟨w.heap.size + 1, 0, #[], rfl, Nat.le_refl _, ?_, Nat.le_refl _, by unfold maxLen; omega, rfl, rfl⟩⟩
  have := heap_alloc_new (w.alloc (.cells cs t)) (.cells #[] 3)
  simpa using this

set_option maxRecDepth 100000 in
set_option maxHeartbeats 2000000 in
theorem specCostOf_any (m : Int) (A : Option Addr) (n c : Nat) (xs : List ArcD) (p q : Int) (w : World) (hn : n ≤ 1048576) (hnx : xs.length = n) (hx : ArcsAt w A xs) :
    Calls Try.prog 25 #[.agg #[.int .i64 m, .slice A n c], .int .i64 p, .int .i64 q] w (Gives w (costOfI m xs p q)) := by
  have HX := Lib.hid hnx
  clear hnx
  obtain ⟨i0, hi, hz0, hz1, hz2⟩ := info_parts infoInt
  obtain ⟨Wb, hWb⟩ : ∃ Wb, Wb = w.alloc (.cells #[.int .i64 m, .slice A n c] 29) := ⟨_, rfl⟩
  obtain ⟨W, hW⟩ : ∃ W, W = Wb.alloc (.cells #[] 3) := ⟨_, rfl⟩
  have hb0 : Past w Wb := by rw [hWb]; exact (Past.refl _).alloc _
  have hbW : Past Wb W := by rw [hW]; exact (Past.refl _).alloc _
  have hsz : Wb.heap.size = w.heap.size + 1 := by rw [hWb]; simp
  have hres : Res W (w.heap.size + 1) (.slice (some ⟨w.heap.size + 1, 0, none⟩) 0 0) [] := by rw [hW, hWb]; exact res_none _ _ _
  have b0 : Wb.cell? ⟨w.heap.size, 0, none⟩ = some (.int .i64 m) := by rw [hWb]; go_simp
  have b1 : Wb.cell? ⟨w.heap.size, 1, none⟩ = some (.slice A n c) := by rw [hWb]; go_simp
  have b0 := cell_in hbW b0
  have b1 := cell_in hbW b1
  have HE := Lib.hid (hWb ▸ hW)
  have hx0 := hx.below hb0
  clear hW hWb
  go_enter Try.func25, Try.ntmps25
  go_wp2_with fail
  rw [← HE.out]
  clear HE
  refine (l1Ok_any m A n c xs _ hn HX.out (hx0.below hbW)).mono ?_
  rintro e w1 ⟨rfl, hb1⟩
  have b0 := cell_in hb1 b0
  have b1 := cell_in hb1 b1
  have hres := hres.below hb1
  have hb1 := hbW.trans hb1
  clear hbW
  cases hB : netB m xs with
  | false =>
    have HB := Lib.hid hB
    clear hB
    go_wp2
    go_ret
    exact ⟨_, rfl, by simp only [costOfI, ofOkB, HB.out, Bool.false_and, Bool.false_eq_true, if_false]; exact Res.nil _ _, hb0.trans hb1⟩
  | true =>
    have h16 := net_num hB
    rw [HX.out] at h16
    have HB := Lib.hid hB
    clear hB
    go_wp2_with fail
    refine (l1In_any p 0 100 _).mono ?_
    rintro e w2 ⟨rfl, rfl⟩
    cases hP : inB p 0 100 with
    | false =>
      have HP := Lib.hid hP
      clear hP
      go_wp2
      go_ret
      exact ⟨_, rfl, by simp only [costOfI, ofOkB, HP.out, Bool.false_and, Bool.and_false, Bool.false_eq_true, if_false]; exact Res.nil _ _, hb0.trans hb1⟩
    | true =>
      have hpb := (inB_iff _ _ _).1 hP
      have HP := Lib.hid hP
      clear hP
      go_wp2_with fail
      refine (l1In_any q 0 100 _).mono ?_
      rintro e w2 ⟨rfl, rfl⟩
      cases hQ : inB q 0 100 with
      | false =>
        have HQ := Lib.hid hQ
        clear hQ
        go_wp2
        go_ret
        exact ⟨_, rfl, by simp only [costOfI, ofOkB, HQ.out, Bool.and_false, Bool.false_eq_true, if_false]; exact Res.nil _ _, hb0.trans hb1⟩
      | true =>
        have hqb := (inB_iff _ _ _).1 hQ
        have HO : Hid (ofOkB m xs p q = true) := (ofOkB_iff _ _ _ _).2 ⟨HB.out, HP.out, hQ⟩
        clear hQ
        have hr0 : Res w1 (w.heap.size + 1) (.slice (some ⟨w.heap.size + 1, 0, none⟩) 0 0) (costsOf p q (xs.take 0)) := by simpa [costsOf] using hres
        clear hres
        go_wp2
        go_loopw [7, 8] (fun v i wr => ∃ k : Nat, k ≤ n ∧ i = .int .i64 k ∧ Res wr (w.heap.size + 1) v (costsOf p q (xs.take k)) ∧ Past Wb wr) (fun _ i _ => n - (intOf i).toNat)
        case atStart => exact ⟨0, by omega, rfl, hr0, hb1⟩
        case round =>
          obtain ⟨k, hk, rfl, hv, hb⟩ := hrel
          clear b0 b1 hr0
          have hz := hb.size
          have b1 := cell_in (p := ⟨w.heap.size, 1, none⟩) (v := .slice A n c) hb (by assumption)
          by_cases hlt : k < n
          · obtain ⟨⟨f, t, c', l', d⟩, ha⟩ : ∃ a, xs[k]? = some a := ⟨_, List.getElem?_eq_getElem (by have := HX.out; omega)⟩
            obtain ⟨g, o, rfl, d0, d1, d2, d3, d4⟩ := (hx0.below hb) k _ ha
            have hab := net_arc HB.out ha
            simp only at hab
            obtain ⟨x, y, z, ex, ey, ez, bx, by_, bz, ec⟩ := costOne_way (p := p) (q := q) (a := ⟨f, t, c', l', d⟩) hab hpb hqb
            simp only at ex ey
            have t1 : IntKind.i64.wrap (c' * p) = x := by rw [ex]; exact IntWalk.i64_in _ (by omega)
            have t2 : IntKind.i64.wrap (l' * q) = y := by rw [ey]; exact IntWalk.i64_in _ (by omega)
            have t3 : IntKind.i64.wrap (x + y) = x + y := IntWalk.i64_in _ (by omega)
            have t4 : IntKind.i64.wrap ((x + y).tdiv 100) = z := by rw [ez]; exact IntWalk.i64_in _ (by omega)
            have HN : Hid (costsOf p q (xs.take (k + 1)) = costsOf p q (xs.take k) ++ [costOne p q ⟨f, t, c', l', d⟩]) := costsOf_next ha
            have hkl : (costsOf p q (xs.take k)).length = k := by rw [costsOf, List.length_map, List.length_take, HX.out]; omega
            have HKL := Lib.hid hkl
            have HEC := Lib.hid ec
            unfold Res at hv
            rw [hkl] at hv
            clear ha hab ex ey ez ec hkl
            have i0' : (0 : Int) ≤ (k : Int) := by omega
            have i1 : (k : Int) < (n : Int) := by omega
            by_cases hc : 99 < z
            · rw [if_pos hc] at HEC
              go_wp2_with fail
              go_quiet (fail)
              go_wp2_with (first | (at_builtin; refine wpList_append_own _ rfl _ _ 25 rfl (w.heap.size + 1) 3 i0 (.int .i64 0) 1 8 Try.underlying25 hi hz0 hz1 hz2 rfl (by decide) _ _ _ rfl (hv.alloc _) ⟨wr.heap.size, 0, none⟩ 1 1 [.int .i64 99] rfl rfl (cell_one_new _ _ _) (one_cell 99) (by unfold maxLen; omega) (by omega) (by simp; omega) ?_; intro v' w3 hown' hgrow3 hnil3))
              go_roundw
              case rel => exact ⟨k + 1, by omega, by go_num, Res.step hown' (by rw [HN.out, List.length_append, HKL.out]; rfl) (by rw [HN.out, HEC.out]), Past.grown ((hb.drewN _).alloc _) (hv.alloc _) hgrow3 (by omega)⟩
              case measure => simp [intOf]; omega
            · rw [if_neg hc] at HEC
              go_wp2_with fail
              go_quiet (fail)
              go_wp2_with (first | (at_builtin; refine wpList_append_own _ rfl _ _ 25 rfl (w.heap.size + 1) 3 i0 (.int .i64 0) 1 8 Try.underlying25 hi hz0 hz1 hz2 rfl (by decide) _ _ _ rfl (hv.alloc _) ⟨wr.heap.size, 0, none⟩ 1 1 [.int .i64 z] rfl rfl (cell_one_new _ _ _) (one_cell z) (by unfold maxLen; omega) (by omega) (by simp; omega) ?_; intro v' w3 hown' hgrow3 hnil3))
              go_roundw
              case rel => exact ⟨k + 1, by omega, by go_num, Res.step hown' (by rw [HN.out, List.length_append, HKL.out]; rfl) (by rw [HN.out, HEC.out]), Past.grown ((hb.drewN _).alloc _) (hv.alloc _) hgrow3 (by omega)⟩
              case measure => simp [intOf]; omega
          · obtain rfl : n = k := by omega
            go_wp2
            go_ret
            rw [List.take_of_length_le (by rw [HX.out]; exact Nat.le_refl _)] at hv
            exact ⟨_, rfl, by rw [costOfI, HO.out, if_pos rfl]; exact hv.lower (by omega), hb0.trans hb⟩

end Go.Proofs.Ytkmognandkamoaa
