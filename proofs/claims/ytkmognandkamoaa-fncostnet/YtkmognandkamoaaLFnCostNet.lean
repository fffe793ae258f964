/-
  FnCostNet answers true at every input: with other costs a net has the same arcs, and with its own it is as it was. No condition.
-/
import Derived.Test.YtkmognandkamoaaDrawCosts
import Derived.Test.YtkmognandkamoaaOpenB
import Derived.Test.YtkmognandkamoaaCNetI
import Derived.Test.YtkmognandkamoaaCNetS
import Derived.Test.YtkmognandkamoaaPCnet2
import Derived.Test.YtkmognandkamoaaWkNet
namespace Go.Proofs.Ytkmognandkamoaa
open Go.ChangeShapes Go.WideShapes Go.ChangeAt Go.RowKit

set_option maxRecDepth 100000 in
set_option maxHeartbeats 4000000 in
theorem fnCostNet_walk (A : Option Addr) (n c : Nat) (w : World) (hn : n ≤ c) (hc : c ≤ maxLen) (hb : BytesAt w A n) :
    Calls Try.prog 10 #[.slice A n c] w fun e w' => e = .returned (.bool true) ∧ Below w.heap.size w w' := by
  by_cases h1 : 1048576 < n
  · have h1' : (1048576 : Int) < (n : Int) := by omega
    go_enter Try.func10, Try.ntmps10
    go_wp2
    go_ret
    exact ⟨rfl, Below.refl _ _⟩
  have h1' : ¬ (1048576 : Int) < (n : Int) := by omega
  obtain ⟨i0, hi, hz0, hz1, hz2⟩ := info_parts infoInt
  go_enter Try.func10, Try.ntmps10
  go_wp2_with fail
  refine (drawCostNet_any A n c w hn hc hb).mono ?_
  rintro e w1 ⟨m, B, k, cap, xs, D, l, cd, ys, rfl, hxk, hk, hx1, hform, hly, hl14, hy1, hb1⟩
  have HX := Lib.hid hxk
  have HY := Lib.hid hly
  clear hxk hly hb hn hc
  have hkk : k ≤ 1048576 := by omega
  have hll : l ≤ 1048576 := by omega
  have hpW : Past w1 (w1.alloc (.cells #[.int .i64 m, .slice B k cap] 29)) := (Past.refl w1).alloc _
  go_wp2_with fail
  refine (implCostNet_all m B k cap xs D l cd ys _ hkk HX.out (hx1.below hpW) hform hll HY.out (hy1.below hpW)).mono ?_
  rintro e w2 ⟨E, ce, rfl, hz2', hoz, hb2⟩
  have b0 := cell_in (p := ⟨w1.heap.size, 0, none⟩) (v := .int .i64 m) hb2 (by go_simp)
  have b1 := cell_in (p := ⟨w1.heap.size, 1, none⟩) (v := .slice B k cap) hb2 (by go_simp)
  have hx2 := (hx1.below hpW).below hb2
  have hy2 := (hy1.below hpW).below hb2
  have hp2 : Past w w2 := Past.trans hb1 (hpW.trans hb2)
  have hzform := ownForm hoz
  obtain ⟨ok, hok⟩ : ∃ ok, ok = metricB m xs ys := ⟨_, rfl⟩
  obtain ⟨zs, hzs⟩ : ∃ zs, zs = cnetL m xs ys := ⟨_, rfl⟩
  obtain ⟨mz, hmz⟩ : ∃ mz, mz = cnetN m xs ys := ⟨_, rfl⟩
  obtain ⟨R, hR⟩ : ∃ R, R = zs.length := ⟨_, rfl⟩
  have hR1 : R ≤ 1048576 := by rw [hR, hzs]; exact cnetL_lenM m xs ys
  rw [← hzs] at hz2' hzform ⊢
  rw [← hR] at hzform ⊢
  rw [← hok, ← hmz]
  have HK := Lib.hid hok
  have HZ := Lib.hid hzs
  have HM := Lib.hid hmz
  have HR := Lib.hid hR.symm
  have hs1 : w1.heap.size < w2.heap.size := lt_of_cell b0
  clear hok hzs hmz hR hoz hx1 hy1 hb1 hb2 hpW
  -- x lies in a box
  obtain ⟨W2, hW2⟩ : ∃ W2, W2 = w2.alloc (.cells #[.int .i64 mz, .slice E R ce] 29) := ⟨_, rfl⟩
  have hpB : Past w2 W2 := by rw [hW2]; exact (Past.refl _).alloc _
  have x0 : W2.cell? ⟨w2.heap.size, 0, none⟩ = some (.int .i64 mz) := by rw [hW2]; go_simp
  have x1 : W2.cell? ⟨w2.heap.size, 1, none⟩ = some (.slice E R ce) := by rw [hW2]; go_simp
  have b0o := fun (o : Obj) => cell_in ((Past.refl w2).alloc o) b0
  have b1o := fun (o : Obj) => cell_in ((Past.refl w2).alloc o) b1
  have b0 := cell_in hpB b0
  have b1 := cell_in hpB b1
  have hx3 := hx2.below hpB
  have hy3 := hy2.below hpB
  have hz3 := hz2'.below hpB
  have hp3 := hp2.trans hpB
  have hs2 : w2.heap.size < W2.heap.size := lt_of_cell x0
  have HW2 := Lib.hid hW2
  clear hW2 hx2 hy2 hz2' hp2 hpB
  go_wp2_with fail
  rw [← HW2.out]
  clear HW2 b0o b1o
  refine (specCostNet_any m B k cap xs D l cd ys _ hkk HX.out hx3 hll HY.out hy3).mono ?_
  rintro e w4 ⟨G, cg, rfl, hg4, _, hb4⟩
  rw [← HZ.out] at hg4 ⊢
  rw [HR.out, ← HK.out, ← HM.out]
  have b0 := cell_in hb4 b0
  have b1 := cell_in hb4 b1
  have x0 := cell_in hb4 x0
  have x1 := cell_in hb4 x1
  have hx4 := hx3.below hb4
  have hy4 := hy3.below hb4
  have hz4 := hz3.below hb4
  have hp4 := hp3.trans hb4
  have hs4 : w2.heap.size < w4.heap.size := lt_of_cell x0
  clear hx3 hy3 hz3 hb4 hp3
  obtain ⟨W5, hW5⟩ : ∃ W5, W5 = w4.alloc (.cells #[.int .i64 mz, .slice G R cg] 29) := ⟨_, rfl⟩
  have hpC : Past w4 W5 := by rw [hW5]; exact (Past.refl _).alloc _
  have g0 : W5.cell? ⟨w4.heap.size, 0, none⟩ = some (.int .i64 mz) := by rw [hW5]; go_simp
  have g1 : W5.cell? ⟨w4.heap.size, 1, none⟩ = some (.slice G R cg) := by rw [hW5]; go_simp
  have x0o := fun (o : Obj) => cell_in ((Past.refl w4).alloc o) x0
  have x1o := fun (o : Obj) => cell_in ((Past.refl w4).alloc o) x1
  have b0 := cell_in hpC b0
  have b1 := cell_in hpC b1
  have x0 := cell_in hpC x0
  have x1 := cell_in hpC x1
  have hx5 := hx4.below hpC
  have hy5 := hy4.below hpC
  have hz5 := hz4.below hpC
  have hg5 := hg4.below hpC
  have hp5 := hp4.trans hpC
  have HW5 := Lib.hid hW5
  clear hW5 hx4 hy4 hz4 hg4 hp4 hpC
  have k1 : (ok != ok) = false := by simp
  go_wp2_with fail
  rw [← HW5.out]
  clear HW5 x0o x1o
  refine (wkNet_same mz E G R ce cg zs _ hR1 HR.out hz5 hg5).mono ?_
  rintro e w6 ⟨rfl, hb6⟩
  have b0 := cell_in hb6 b0
  have b1 := cell_in hb6 b1
  have x0 := cell_in hb6 x0
  have x1 := cell_in hb6 x1
  have g0 := cell_in hb6 g0
  have g1 := cell_in hb6 g1
  have hx6 := hx5.below hb6
  have hy6 := hy5.below hb6
  have hz6 := hz5.below hb6
  have hg6 := hg5.below hb6
  have hp6 := hp5.trans hb6
  clear hx5 hy5 hz5 hg5 hb6 hp5
  cases hO : ok with
  | false =>
    have k2 : (false == false) = true := rfl
    clear hO k1
    go_wp2_with fail
    refine (wkNet_same mz E G R ce cg zs _ hR1 HR.out hz6 hg6).mono ?_
    rintro e w7 ⟨rfl, hb7⟩
    go_wp2
    go_ret
    exact ⟨rfl, hp6.trans hb7⟩
  | true =>
    have hM : metricB m xs ys = true := by rw [← HK.out, hO]
    obtain ⟨hN, hln, _⟩ := metric_parts hM
    obtain rfl : l = k := by rw [← HX.out, ← HY.out]; exact hln
    have hzv : zs = costed xs ys := by rw [HZ.out, cnetL, hM, if_pos rfl]
    obtain rfl : m = mz := by rw [HM.out, cnetN, hM, if_pos rfl]
    obtain rfl : l = R := by rw [← HR.out, hzv, costed_len hln, HX.out]
    have HMM := Lib.hid hM
    have HLN := Lib.hid hln
    have HZV := Lib.hid hzv
    clear hO hM hN hln hzv k1 HZ HM HK hg6
    have hres0 : Res (w6.alloc (.cells #[] 3)) w6.heap.size (.slice (some ⟨w6.heap.size, 0, none⟩) 0 0) (ownC (xs.take 0)) :=
      ⟨rfl, .inr ⟨w6.heap.size, 0, #[], rfl, Nat.le_refl _, heap_alloc_new w6 _, Nat.le_refl _, by unfold maxLen; omega, rfl, rfl⟩⟩
    have hpa : Past w6 (w6.alloc (.cells #[] 3)) := (Past.refl w6).alloc _
    go_wp2
    go_loopw [9, 10] (fun v q wr => ∃ j : Nat, j ≤ l ∧ q = .int .i64 j ∧ Res wr w6.heap.size v (ownC (xs.take j)) ∧ Past w6 wr) (fun _ q _ => l - (intOf q).toNat)
    case atStart => exact ⟨0, by omega, rfl, hres0, hpa⟩
    case round =>
      obtain ⟨j, hj, rfl, hv, hbr⟩ := hrel
      clear hres0 hpa
      have hzr := hbr.size
      have b1r := cell_in hbr b1
      have x1r := cell_in hbr x1
      by_cases hlt : j < l
      · obtain ⟨⟨f, t, c', l', d⟩, ha⟩ : ∃ a, xs[j]? = some a := ⟨_, List.getElem?_eq_getElem (by have := HX.out; omega)⟩
        obtain ⟨y, hyk⟩ : ∃ a, ys[j]? = some a := ⟨_, List.getElem?_eq_getElem (by have := HY.out; omega)⟩
        have hza : zs[j]? = some ⟨f, t, y, l', d⟩ := by rw [HZV.out, costed, List.getElem?_zipWith, ha, hyk]; rfl
        have HN := Lib.hid (ownC_next ha)
        have hkl : (ownC (xs.take j)).length = j := by rw [ownC, List.length_map, List.length_take, HX.out]; omega
        have HKL := Lib.hid hkl
        unfold Res at hv
        rw [hkl] at hv
        have HO := Lib.hid (hv.alloc (.cells #[.int .i64 c'] 3))
        obtain ⟨gx, ox, rfl, d0, d1, d2, d3, d4⟩ := (hx6.below hbr) j _ ha
        obtain ⟨gz, oz, rfl, q0, q1, q2, q3, q4⟩ := (hz6.below hbr) j _ hza
        obtain ⟨gy, oy, rfl, r0⟩ := (hy6.below hbr) j _ hyk
        have lx : gx < w6.heap.size := by
          obtain ⟨g', o', e, h⟩ := hx6 j _ ha
          injection e with e
          injection e with e1 e2
          subst e1
          exact h.lt
        have lz : gz < w6.heap.size := by
          obtain ⟨g', o', e, h⟩ := hz6 j _ hza
          injection e with e
          injection e with e1 e2
          subst e1
          exact h.lt
        have ly : gy < w6.heap.size := by
          obtain ⟨g', o', e, h⟩ := hy6 j _ hyk
          injection e with e
          injection e with e1 e2
          subst e1
          exact lt_of_cell h
        have sb : w1.heap.size < w6.heap.size := lt_of_cell b1
        have sx : w2.heap.size < w6.heap.size := lt_of_cell x1
        have HF : Hid (∀ w3, (wr.alloc (.cells #[.int .i64 c'] 3)).grownBy w3 u9.ownBlock → ∀ (p : Addr) (u : Value), p.block < w6.heap.size → wr.cell? p = some u → w3.cell? p = some u) := fun w3 hg p u hp hu => hg.cell (cell_in ((Past.refl wr).alloc _) hu) (own_ne (g := p.block) HO.out hp)
        have i0' : (0 : Int) ≤ (j : Int) := by omega
        have i1 : (j : Int) < (l : Int) := by omega
        clear ha hyk hza hkl hv
        go_wp2_with (first | (at_builtin; refine wpList_append_own _ rfl _ _ 25 rfl w6.heap.size 3 i0 (.int .i64 0) 1 8 Try.underlying25 hi hz0 hz1 hz2 rfl (by decide) _ _ _ rfl HO.out ⟨wr.heap.size, 0, none⟩ 1 1 [.int .i64 c'] rfl rfl (cell_one_new _ _ _) (one_cell c') (by unfold maxLen; omega) (by omega) (by simp; omega) ?_; intro v4 w3 hown' hgrow3 hnil4; have b1r := HF.out _ hgrow3 _ _ sb b1r; have x1r := HF.out _ hgrow3 _ _ sx x1r; have d0 := HF.out _ hgrow3 _ _ lx d0; have d1 := HF.out _ hgrow3 _ _ lx d1; have d2 := HF.out _ hgrow3 _ _ lx d2; have d3 := HF.out _ hgrow3 _ _ lx d3; have d4 := HF.out _ hgrow3 _ _ lx d4; have q0 := HF.out _ hgrow3 _ _ lz q0; have q1 := HF.out _ hgrow3 _ _ lz q1; have q2 := HF.out _ hgrow3 _ _ lz q2; have q3 := HF.out _ hgrow3 _ _ lz q3; have q4 := HF.out _ hgrow3 _ _ lz q4; have r0 := HF.out _ hgrow3 _ _ ly r0; have sr3 := hgrow3.size; rw [World.size_alloc] at sr3; have nx : ∀ (o : Obj) (i : Nat) (u : Value), w3.cell? ⟨gx, i, none⟩ = some u → (w3.alloc o).cell? ⟨gx, i, none⟩ = some u := (fun o i u h => cell_in ((Past.refl w3).alloc o) h); have rr := (fun (o : Obj) => cell_in ((Past.refl w3).alloc o) r0); have xx := (fun (o : Obj) => cell_in ((Past.refl w3).alloc o) x1r); have qq0 := (fun (o : Obj) => cell_in ((Past.refl w3).alloc o) q0); have qq1 := (fun (o : Obj) => cell_in ((Past.refl w3).alloc o) q1); have qq2 := (fun (o : Obj) => cell_in ((Past.refl w3).alloc o) q2); have qq3 := (fun (o : Obj) => cell_in ((Past.refl w3).alloc o) q3); have qq4 := (fun (o : Obj) => cell_in ((Past.refl w3).alloc o) q4)) | fail)
        obtain ⟨W3, hW3⟩ : ∃ W3, W3 = w3.alloc (.cells #[.int .i64 f, .int .i64 t, .int .i64 y, .int .i64 l', .int .i64 d] 52) := ⟨_, rfl⟩
        have hp3 : Past w3 W3 := by rw [hW3]; exact (Past.refl _).alloc _
        have a0 : W3.cell? ⟨w3.heap.size, 0, none⟩ = some (.int .i64 f) := by rw [hW3]; go_simp
        have a1 : W3.cell? ⟨w3.heap.size, 1, none⟩ = some (.int .i64 t) := by rw [hW3]; go_simp
        have a2 : W3.cell? ⟨w3.heap.size, 2, none⟩ = some (.int .i64 y) := by rw [hW3]; go_simp
        have a3 : W3.cell? ⟨w3.heap.size, 3, none⟩ = some (.int .i64 l') := by rw [hW3]; go_simp
        have a4 : W3.cell? ⟨w3.heap.size, 4, none⟩ = some (.int .i64 d) := by rw [hW3]; go_simp
        have x1r := cell_in hp3 x1r
        have q0 := cell_in hp3 q0
        have q1 := cell_in hp3 q1
        have q2 := cell_in hp3 q2
        have q3 := cell_in hp3 q3
        have q4 := cell_in hp3 q4
        have HRS : Hid (Res W3 w6.heap.size v4 (ownC (xs.take (j + 1)))) := (Res.step hown' (by rw [HN.out, List.length_append, HKL.out]; rfl) HN.out).below hp3
        have HPA : Hid (Past w6 W3) := (Past.grown (hbr.alloc _) HO.out hgrow3 (Nat.le_refl _)).trans hp3
        rw [← hW3]
        clear hW3 hp3 nx rr xx qq0 qq1 qq2 qq3 qq4 d0 d1 d2 d3 d4 r0 b1r hown' hgrow3 HF HO
        go_quiet (with_reducible exact rfl)
        go_wp2
        go_roundw
        case rel => exact ⟨j + 1, by omega, by go_num, HRS.out.drewN _, HPA.out.drewN _⟩
        case measure => simp [intOf]; omega
      · obtain rfl : l = j := by omega
        rw [List.take_of_length_le (by rw [HX.out]; exact Nat.le_refl _)] at hv
        have hol : (ownC xs).length = l := by rw [ownC, List.length_map, HX.out]
        obtain ⟨P, cp, rfl, hpP, _⟩ := hv.form
        rw [hol]
        have hzn : zs = costed xs ys := HZV.out
        have hcN : cnetN m zs (ownC xs) = m := by rw [hzn, cnetN, own_metric HMM.out, if_pos rfl]
        have hcL : cnetL m zs (ownC xs) = xs := by rw [hzn, cnetL, own_metric HMM.out, if_pos rfl, costed_own HLN.out]
        have hcM : metricB m zs (ownC xs) = true := by rw [hzn, own_metric HMM.out]
        have hcK : netB m zs = true := by rw [hzn, costed_ok HMM.out]
        have x0r := cell_in hbr x0
        have b0r := cell_in hbr b0
        go_wp2_with fail
        refine (implCostNet_all m E l ce zs P l cp (ownC xs) _ hkk HR.out (hz6.below hbr) hzform hkk hol hpP).mono ?_
        rintro e w7 ⟨Q, cq, rfl, hq7, _, hb7⟩
        rw [hcL] at hq7 ⊢
        rw [hcN, hcM, HX.out]
        have b0 := cell_in hb7 b0r
        have b1 := cell_in hb7 b1r
        have x0 := cell_in hb7 x0r
        have x1 := cell_in hb7 x1r
        have hbq := hbr.trans hb7
        have hx8 := hx6.below hbq
        have hz8 := hz6.below hbq
        have hp8 := hp6.trans hbq
        obtain ⟨W8, hW8⟩ : ∃ W8, W8 = w7.alloc (.cells #[.int .i64 m, .slice Q l cq] 29) := ⟨_, rfl⟩
        have hp9 : Past w7 W8 := by rw [hW8]; exact (Past.refl _).alloc _
        have y0 : W8.cell? ⟨w7.heap.size, 0, none⟩ = some (.int .i64 m) := by rw [hW8]; go_simp
        have y1 : W8.cell? ⟨w7.heap.size, 1, none⟩ = some (.slice Q l cq) := by rw [hW8]; go_simp
        have x0o := fun (o : Obj) => cell_in ((Past.refl w7).alloc o) x0
        have x1o := fun (o : Obj) => cell_in ((Past.refl w7).alloc o) x1
        have b0 := cell_in hp9 b0
        have b1 := cell_in hp9 b1
        have hx9 := hx8.below hp9
        have hz9 := hz8.below hp9
        have hq9 := hq7.below hp9
        have hpA := hp8.trans hp9
        have HW8 := Lib.hid hW8
        have HCK := Lib.hid hcK
        clear hW8 hcN hcL hcM hcK hzn hv hpP hb7 hbq hx8 hz8 hp8 hp9 x0r x1r b0r b1r hq7
        go_wp2_with fail
        rw [← HW8.out]
        clear HW8 x0o x1o
        refine (implNetOk_any m E l ce zs _ hkk HR.out hz9).mono ?_
        rintro e wa ⟨rfl, hba⟩
        rw [HCK.out]
        have b0 := cell_in hba b0
        have b1 := cell_in hba b1
        have y0 := cell_in hba y0
        have y1 := cell_in hba y1
        go_wp2_with fail
        refine (wkNet_same m Q B l cq cap xs _ hkk HX.out (hq9.below hba) (hx9.below hba)).mono ?_
        rintro e wb ⟨rfl, hbb⟩
        go_wp2
        go_ret
        exact ⟨rfl, (hpA.trans hba).trans hbb⟩

set_option maxRecDepth 100000 in
theorem fnCostNet_lifted (os : Os) (started : os.Started) (H : Type) (enc : TypeId × Value → H) :
    ReturnsInHanded {} Try.checked os 10 .any (Rows.fnCostNetSpec.pre6 enc Try.prog Try.f10 Rows.fnCostNetRow.domain false) (Rows.fnCostNetSpec.post enc Try.prog Try.f10 false true false false) := by
  refine returnsInHanded_of_change (C := Try.checked) own started (by kernel_rfl) Try.func10
    (ChangeSpec.witness6 (enc := enc) (C := Try.checked) false ⟨#[], #[.slice none 0 0], []⟩ 8 (by kernel_rfl) (by kernel_rfl) (by kernel_rfl) (by kernel_rfl)) ?_
  intro W base args ds gs before hval0 hW hcnd _
  have hval : ∀ (j : Nat) t v, Try.f10.params[j]? = some t → args[j]? = some v → Value.okWide Try.prog W .any base t v := hval0
  have hW' := hW
  obtain ⟨p, q, hA0, hV, rfl, hfz, hnd⟩ := hW
  have hA : DataW.TrodAll enc Try.prog W 0 (fun _ => true) true Try.f10.params.toList args.toList ds p := hA0
  rw [Try.params10] at hA hval
  obtain ⟨v0, vs0, d0, ds0, p0, q0, hargs, rfl, rfl, h0, r0⟩ := trodAll_cons hA
  obtain ⟨rfl, rfl, rfl⟩ := trodAll_nil r0
  obtain rfl : args = #[v0] := by cases args; simp_all
  obtain ⟨rfl, rfl⟩ := trodVars_none hV
  have k0 := h0
  have lt0 := places_lt k0
  obtain ⟨A0, n0, c0, rfl, hn0, hc0, hb0⟩ := open_bytes (hval 0 48 v0 rfl rfl) h0
  clear hA0 hval0
  refine (fnCostNet_walk A0 n0 c0 W hn0 hc0 hb0).mono fun e W' ⟨he, bel⟩ => ?_
  subst he
  exact ⟨_, rfl, _, _, _, [], _, [], hW', trodAll_mk1 (shut_bool Try.underlying4 _), (trodAll_cons_mk (Below.trod laidOut (by kernel_rfl) (of_decide_eq_true (by kernel_rfl)) k0 bel lt0) trodAll_mk0), rfl, bel.frame _, fun h => by cases h⟩

/-- The given statement. -/
theorem fnCostNet_proved : Rows.FnCostNetSaid :=
  OpenClaim.holds_of_wide 10 Try.f10 rfl rfl rfl rfl rfl rfl rfl ⟨rfl, rfl, rfl, rfl, rfl⟩ rfl rfl rfl rfl rfl (by kernel_rfl) Try.func10 (by kernel_rfl)
    (of_decide_eq_true (by kernel_rfl)) (by unfold Func.isWrapper; first | (rw [if_pos (by decide +kernel)]; kernel_rfl) | (rw [if_neg (by decide +kernel)]; exact ⟨rfl, rfl⟩))
    (fun os started H enc _ => fnCostNet_lifted os started H enc)

end Go.Proofs.Ytkmognandkamoaa
