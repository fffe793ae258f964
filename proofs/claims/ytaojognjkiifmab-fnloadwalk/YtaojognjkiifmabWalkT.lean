/-
  The best way from a node to another one, as the specification goes: spec.l3Walk. No condition.
-/
import Derived.Maps.AppendAt
import Derived.Test.YtaojognjkiifmabSteps
import Derived.Test.YtaojognjkiifmabPTree2
namespace Go.Proofs.Ytaojognjkiifmab
open Go.RowKit

theorem goS_iff (d s : List Int) (v : Int) (a : ArcD) : goS d s v a = true ↔ a.f = v ∧ at_ d a.t < farI ∧ at_ d v = a.c + at_ d a.t ∧ at_ s v = at_ s a.t + 1 := by
  simp [goS, and_assoc]

set_option maxRecDepth 100000 in
set_option maxHeartbeats 4000000 in
theorem l3Walk_any (m : Nat) (fr to : Int) (A : Option Addr) (n c : Nat) (xs : List ArcD) (w : World) (hm : m ≤ 8) (hm1 : 1 ≤ m) (hnx : xs.length = n) (hn : n ≤ 16) (hx : ArcsAt w A xs) (hin : ArcsIn m xs) (hf : 0 ≤ fr ∧ fr < m) (ht : 0 ≤ to ∧ to < m) :
    Calls Try.prog 64 #[.agg #[.int .i64 (m : Int), .slice A n c], .int .i64 fr, .int .i64 to] w (GivesB w (wayM m xs fr to) (!(farB m xs to fr))) := by
  have HX := Lib.hid hnx
  have HIN := Lib.hid hin
  have HT := Lib.hid (treeL_of hin ht (by omega))
  clear hnx hin
  obtain ⟨hf0, hf1⟩ := hf
  obtain ⟨i0, hi, hz0, hz1, hz2⟩ := info_parts infoInt
  have hb0 : Past w (w.alloc (.cells #[.int .i64 (m : Int), .slice A n c] 25)) := (Past.refl _).alloc _
  go_enter Try.func64, Try.ntmps64
  go_wp2_with fail
  refine (l1Back_any (m : Int) A n c xs _ hn HX.out (hx.below hb0)).mono ?_
  rintro e w1 ⟨A1, c1, rfl, hx1, _, hb1⟩
  obtain ⟨N1, hN1⟩ : ∃ N1, (xs.map flip).length = N1 := ⟨_, rfl⟩
  have hN2 : N1 ≤ 1048576 := by rw [← hN1, List.length_map, HX.out]; omega
  rw [hN1]
  have HN1 := Lib.hid hN1
  clear hN1
  go_wp2_with fail
  refine (l3All_any m to A1 N1 c1 (xs.map flip) _ hm HN1.out hN2 hx1 (arcsIn_flip HIN.out) ht).mono ?_
  rintro e w2 ⟨v2, rfl, hv2, hb2⟩
  have b0 := cell_in hb2 (cell_in (p := ⟨w.heap.size, 0, none⟩) (v := .int .i64 (m : Int)) hb1 (by go_simp))
  have b1 := cell_in hb2 (cell_in (p := ⟨w.heap.size, 1, none⟩) (v := .slice A n c) hb1 (by go_simp))
  have hp2 : Past w w2 := (hb0.trans hb1).trans hb2
  obtain ⟨X, cX, rfl, hd2, _⟩ := hv2.form
  obtain ⟨ds, hds⟩ : ∃ ds, ds = nearL m (xs.map flip) to := ⟨_, rfl⟩
  have hdl : ds.length = m := by rw [hds, nearL_length]
  rw [← hds] at hd2 ⊢
  rw [hdl]
  clear hv2 hb2 hb1 hx1 hb0
  go_wp2_with fail
  refine (l3Steps_any m to A n c xs _ hm hm1 HX.out hn (hx.below hp2) HIN.out ht).mono ?_
  rintro e W ⟨v3, rfl, hv3, hb3⟩
  have b0 := cell_in hb3 b0
  have b1 := cell_in hb3 b1
  have hpW : Past w W := hp2.trans hb3
  have hxW := hx.below hpW
  have hdW := hd2.below hb3
  obtain ⟨Y, cY, rfl, hsW, _⟩ := hv3.form
  rw [← hds] at hsW ⊢
  obtain ⟨ss, hss⟩ : ∃ ss, ss = stepsL m xs ds to := ⟨_, rfl⟩
  have hsl : ss.length = m := by rw [hss, stepsL_length]
  rw [← hss] at hsW ⊢
  rw [hsl]
  obtain ⟨gX, oX, rfl, _⟩ := hdW.cell (v := to) ht.1 (by omega)
  obtain ⟨gY, oY, rfl, _⟩ := hsW.cell (v := to) ht.1 (by omega)
  have hdc : ∀ v : Int, 0 ≤ v → v < m → W.cell? ⟨gX, oX + v.toNat, none⟩ = some (.int .i64 (at_ ds v)) := fun v h0 h1 => by
    obtain ⟨g, o, e, h⟩ := hdW.cell (v := v) h0 (by omega)
    injection e with e
    injection e with e1 e2
    subst e1 e2
    exact h
  have hsc : ∀ v : Int, 0 ≤ v → v < m → W.cell? ⟨gY, oY + v.toNat, none⟩ = some (.int .i64 (at_ ss v)) := fun v h0 h1 => by
    obtain ⟨g, o, e, h⟩ := hsW.cell (v := v) h0 (by omega)
    injection e with e
    injection e with e1 e2
    subst e1 e2
    exact h
  have hdb : ∀ v : Int, 0 ≤ v → v < m → 0 ≤ at_ ds v ∧ at_ ds v ≤ 99999 := fun v h0 h1 => by rw [hds]; exact nearL_bound (arcsIn_flip HIN.out) ht ⟨h0, h1⟩
  have hsb : ∀ v : Int, 0 ≤ v → v < m → 0 ≤ at_ ss v ∧ at_ ss v ≤ 99999 := fun v h0 h1 => by
    have := ((SoundS.start m xs ds to ht).rounds HIN.out m).2 v h0 h1
    rw [hss]
    exact ⟨this.1, this.2.1⟩
  obtain ⟨L, hL⟩ : ∃ L, L = labsOf m xs to := ⟨_, rfl⟩
  have HTL : Hid (TreeL m xs to L) := by rw [Hid, hL]; exact HT.out
  have hfar : farB m xs to fr = decide (lab L fr = farL) := by rw [hL]; rfl
  have hway : wayM m xs fr to = if farB m xs to fr then [] else wayL xs L to fr := by rw [hL]; rfl
  have hff := HTL.out.far fr hf0 hf1
  rw [← hds] at hff
  have HGO : Hid (∀ (v : Int) (a : ArcD), 0 ≤ v → v < m → a ∈ xs → goS ds ss v a = goB L v a) := fun v a h0 h1 ha => by rw [hss, hds]; exact HTL.out.go v h0 h1 ha
  have HDC := Lib.hid hdc
  have HSC := Lib.hid hsc
  have HDB := Lib.hid hdb
  have HSB := Lib.hid hsb
  have dF := hdc fr hf0 hf1
  have hdF := hdb fr hf0 hf1
  obtain ⟨y, hy⟩ : ∃ y, y = at_ ds fr := ⟨_, rfl⟩
  rw [← hy] at dF hff hdF
  have HWAY := Lib.hid hway
  have HFAR := Lib.hid hfar
  have hres2 : Res (W.alloc (.cells #[] 3)) W.heap.size (.slice (some ⟨W.heap.size, 0, none⟩) 0 0) [] :=
    ⟨rfl, .inr ⟨W.heap.size, 0, #[], rfl, Nat.le_refl _, heap_alloc_new W _, Nat.le_refl _, by unfold maxLen; omega, rfl, rfl⟩⟩
  have hpa : Past W (W.alloc (.cells #[] 3)) := (Past.refl W).alloc _
  have dF' := cell_in hpa dF
  clear hdc hsc hdb hsb hdW hsW hd2 hv3 hb3 hL hway hfar hx hp2 hds hss hdl hsl hy dF
  by_cases hy9 : y < 99999
  · have hy9' : ¬ (99999 : Int) ≤ y := by omega
    have hfl : lab L fr ≠ farL := fun e => (hff.1 e) hy9
    have hB1 : farB m xs to fr = false := by rw [HFAR.out]; simpa using hfl
    have HB1 := Lib.hid hB1
    have HW2 : Hid (wayM m xs fr to = wayL xs L to fr) := by rw [Hid, HWAY.out, hB1]; rfl
    clear hB1
    go_wp2
    go_loopw [10, 11] (fun v a wr => ∃ (at' : Int) (zs : List Int), a = .int .i64 at' ∧ 0 ≤ at' ∧ at' < m ∧ lab L at' ≠ farL ∧ Res wr W.heap.size v zs ∧ wayL xs L to fr = zs ++ wayL xs L to at' ∧ Past W wr) (fun _ a _ => (lab L (intOf a)).x1.toNat)
    case atStart => exact ⟨fr, [], rfl, hf0, hf1, hfl, hres2, rfl, hpa⟩
    case round =>
      obtain ⟨at', zs, rfl, ha0, ha1, hal, hv, hzs, hbq⟩ := hrel
      clear hres2 hpa dF'
      have HZS := Lib.hid hzs
      have hzl : zs.length ≤ 7 := by
        have := HTL.out.way_few fr hf0 hf1 hfl
        rw [hzs, List.length_append] at this
        omega
      clear hzs
      by_cases hat : at' = to
      · subst hat
        go_wp2
        refine bodyPost_ret (v := .tuple #[u10, .bool true]) (by simp [results, Try.results64, go_sem]) rfl ?_
        refine ⟨_, by rw [HB1.out]; rfl, ?_, hpW.trans hbq⟩
        rw [HW2.out, HZS.out, HTL.out.wayL_to, List.append_nil]
        exact hv.lower hpW.size
      · obtain ⟨j, ⟨f1, t1, c1, l1, d1⟩, e1, e2, e3, e4, e5, _, e7, e8⟩ := HTL.out.some at' hat hal ha0 ha1
        have hne : (at' != to) = true := by simpa using hat
        have hjn : j < n := by rw [← HX.out]; exact (List.getElem?_eq_some_iff.1 e2).1
        have hstep := HTL.out.wayL_step hat e1 e2 e5
        have hbt := HIN.out _ (List.mem_of_getElem? e2)
        simp only at e4 e5 e7 hbt hstep
        have HE2 := Lib.hid e2
        have HE3 := Lib.hid e3
        have HE8 := Lib.hid e8
        have HST := Lib.hid hstep
        have dA := HDC.out at' ha0 ha1
        have sA := HSC.out at' ha0 ha1
        obtain ⟨q, hq⟩ : ∃ q, q = at_ ds at' := ⟨_, rfl⟩
        obtain ⟨u, hu⟩ : ∃ u, u = at_ ss at' := ⟨_, rfl⟩
        rw [← hq] at dA
        rw [← hu] at sA
        have HQ := Lib.hid hq
        have HU := Lib.hid hu
        obtain ⟨wo, hwo⟩ : ∃ wo, wo = wr := ⟨_, rfl⟩
        subst hwo
        obtain ⟨VS, rfl⟩ : ∃ VS, VS = u10 := ⟨_, rfl⟩
        clear e1 e2 e3 e8 hstep hq hu hat
        go_wp2
        go_loopw [10, 11, 12] (fun z a i wq => z = VS ∧ a = .int .i64 at' ∧ ∃ k : Nat, k ≤ j ∧ i = .int .i64 k ∧ Past wo wq) (fun _ _ i _ => n - (intOf i).toNat)
        case atStart => exact ⟨rfl, rfl, 0, by omega, rfl, Past.refl _⟩
        case round =>
          obtain ⟨rfl, rfl, k, hk, rfl, hbz⟩ := hrel
          have hbW := hbq.trans hbz
          have b1z := cell_in hbW b1
          have hkn : k < n := by omega
          obtain ⟨⟨f, t, c', l, e⟩, ha⟩ : ∃ a, xs[k]? = some a := ⟨_, List.getElem?_eq_getElem (by have := HX.out; omega)⟩
          obtain ⟨g, o, rfl, c0, c1', c2, c3, c4⟩ := (hxW.below hbW) k _ ha
          have hbd := HIN.out _ (List.mem_of_getElem? ha)
          simp only at hbd
          have hgo := HGO.out at' _ ha0 ha1 (List.mem_of_getElem? ha)
          obtain ⟨W1, hW1⟩ : ∃ W1, W1 = wr.alloc (.cells #[.int .i64 f, .int .i64 t, .int .i64 c', .int .i64 l, .int .i64 e] 34) := ⟨_, rfl⟩
          have e0 : W1.cell? ⟨wr.heap.size, 0, none⟩ = some (.int .i64 f) := by rw [hW1]; go_simp
          have e1 : W1.cell? ⟨wr.heap.size, 1, none⟩ = some (.int .i64 t) := by rw [hW1]; go_simp
          have e2 : W1.cell? ⟨wr.heap.size, 2, none⟩ = some (.int .i64 c') := by rw [hW1]; go_simp
          have hbW1 : Past wr W1 := by rw [hW1]; exact (Past.refl _).alloc _
          have hb1 := hbW.trans hbW1
          have dt := cell_in hb1 (HDC.out t (by omega) (by omega))
          have st := cell_in hb1 (HSC.out t (by omega) (by omega))
          have dA := cell_in hb1 dA
          have sA := cell_in hb1 sA
          have pb := HDB.out t (by omega) (by omega)
          have qb := HSB.out t (by omega) (by omega)
          have j0 : (0 : Int) ≤ at' := ha0
          have j1 : at' < (m : Int) := ha1
          have j2 : (0 : Int) ≤ t := by omega
          have j3 : t < (m : Int) := by omega
          have k0 : (0 : Int) ≤ (k : Int) := by omega
          have k1 : (k : Int) < (n : Int) := by omega
          obtain ⟨p, hp⟩ : ∃ p, p = at_ ds t := ⟨_, rfl⟩
          obtain ⟨v, hv'⟩ : ∃ v, v = at_ ss t := ⟨_, rfl⟩
          rw [← hp] at dt pb
          rw [← hv'] at st qb
          have hiff := goS_iff ds ss at' ⟨f, t, c', l, e⟩
          simp only [← hp, ← hv', ← HQ.out, ← HU.out, farI] at hiff
          rw [hgo] at hiff
          have HIFF := Lib.hid hiff
          have HW1 := Lib.hid hW1
          have s1 : IntKind.i64.wrap (c' + p) = c' + p := IntWalk.i64_in _ (by omega)
          have s2 : IntKind.i64.wrap (v + 1) = v + 1 := IntWalk.i64_in _ (by omega)
          by_cases hkj : k = j
          · subst hkj
            rw [HE2.out] at ha
            injection ha with ha
            injection ha with a1 a2 a3 a4 a5
            subst a1 a2 a3 a4 a5
            obtain ⟨h1, h2, h3, h4⟩ := HIFF.out.1 HE3.out
            have g1 : (f1 == at') = true := by simpa using h1
            have g2 : decide (p < 99999) = true := by simpa using h2
            have g3 : (q == c1 + p) = true := by simpa using h3
            have g4 : (u == v + 1) = true := by simpa using h4
            have hmeas : (lab L t1).x1.toNat < (lab L at').x1.toNat := by
              have := HTL.out.bound t1 (by omega) (by omega)
              omega
            have HMEAS := Lib.hid hmeas
            clear hW1 hbd hgo hp hv' hiff HIFF h1 h3 h4 hmeas e5 e7
            go_wp2_with fail
            rw [← HW1.out]
            go_quiet (fail)
            clear g1 g2 g3 g4
            obtain ⟨W2, hW2⟩ : ∃ W2, W2 = W1.drewN nq := ⟨_, rfl⟩
            have hb2 : Past wo W2 := by rw [hW2]; exact (hbz.trans hbW1).drewN nq
            have hv2 := hv.below hb2
            have hvb := fun b (e : u10.ownBlock = some b) => (World.ownsRow.lt hv b e).2
            have e1 : W2.cell? ⟨wr.heap.size, 1, none⟩ = some (.int .i64 t1) := by rw [hW2]; exact e1
            have hwz := hbz.size
            have hs2 : W.heap.size ≤ W2.heap.size := Nat.le_trans hbq.size hb2.size
            unfold Res at hv2
            obtain ⟨D, hD⟩ : ∃ D, D = zs.length := ⟨_, rfl⟩
            rw [← hD] at hv2 hzl
            have HDD := Lib.hid hD
            have hpa5 : Past W2 (W2.alloc (.cells #[.int .i64 (k : Int)] 3)) := (Past.refl W2).alloc _
            have hvA := hv2.alloc (.cells #[.int .i64 (k : Int)] 3)
            have hc1 : ∀ w3, (W2.alloc (.cells #[.int .i64 (k : Int)] 3)).grownBy w3 u10.ownBlock → w3.cell? ⟨wr.heap.size, 1, none⟩ = some (.int .i64 t1) := fun w3 hg => hg.cell (cell_in hpa5 e1) (fun e => by have := hvb _ e.symm; simp only at this; omega)
            have HC1 := Lib.hid hc1
            have hpW2 : Past W W2 := hbq.trans hb2
            rw [← hW2]
            clear hD hc1 hvb e0 e2 dt st s1 s2 e1 hW2
            go_wp2_with (first | (at_builtin; refine wpList_append_own _ rfl _ _ 28 rfl W.heap.size 3 i0 (.int .i64 0) 1 8 Try.underlying28 hi hz0 hz1 hz2 rfl (by decide) _ _ _ rfl hvA ⟨W2.heap.size, 0, none⟩ 1 1 [.int .i64 (k : Int)] rfl rfl (cell_one_new _ _ _) (one_cell _) (by unfold maxLen; omega) (by omega) (by simp; omega) ?_; intro v' w3 hown' hgrow3 hnil3; have e1 := HC1.out _ hgrow3))
            go_roundw
            case rel =>
              refine ⟨t1, zs ++ [(k : Int)], by go_num, by omega, by omega, e4, Res.push (by rw [← HDD.out]; exact hown'), ?_, Past.grown (hpW2.alloc _) hvA hgrow3 (Nat.le_refl _)⟩
              rw [HZS.out, HST.out, List.append_assoc]
              rfl
            case measure => simp only [intOf]; exact HMEAS.out
          · have hgb : goB L at' ⟨f, t, c', l, e⟩ = false := HE8.out k _ (by omega) ha
            have hno : ¬ (f = at' ∧ p < 99999 ∧ q = c' + p ∧ u = v + 1) := fun h => by rw [HIFF.out.2 h] at hgb; cases hgb
            have hbz' : ∀ nq, Past wo (W1.drewN nq) := fun nq => (hbz.trans hbW1).drewN nq
            clear hW1 ha hbd hgo hp hv' hiff HIFF hgb
            by_cases h1 : f = at'
            · have g1 : (f == at') = true := by simpa using h1
              by_cases h2 : p < 99999
              · have g2 : decide (p < 99999) = true := by simpa using h2
                by_cases h3 : q = c' + p
                · have g3 : (q == c' + p) = true := by simpa using h3
                  have g4 : (u == v + 1) = false := by simpa using fun e => hno ⟨h1, h2, h3, e⟩
                  clear h1 h3 hno
                  go_wp2_with fail
                  rw [← HW1.out]
                  go_quiet (fail)
                  clear g1 g2 g3 g4 s1 s2
                  go_wp2
                  go_roundw
                  case rel => exact ⟨rfl, rfl, k + 1, by omega, by go_num, hbz' _⟩
                  case measure => simp [intOf]; omega
                · have g3 : (q == c' + p) = false := by simpa using h3
                  clear h1 h3 hno
                  go_wp2_with fail
                  rw [← HW1.out]
                  go_quiet (fail)
                  clear g1 g2 g3 s1 s2
                  go_wp2
                  go_roundw
                  case rel => exact ⟨rfl, rfl, k + 1, by omega, by go_num, hbz' _⟩
                  case measure => simp [intOf]; omega
              · have g2 : decide (p < 99999) = false := by simpa using h2
                clear h1 hno
                go_wp2_with fail
                rw [← HW1.out]
                go_quiet (fail)
                clear g1 g2 s1 s2
                go_wp2
                go_roundw
                case rel => exact ⟨rfl, rfl, k + 1, by omega, by go_num, hbz' _⟩
                case measure => simp [intOf]; omega
            · have g1 : (f == at') = false := by simpa using h1
              clear h1 hno
              go_wp2_with fail
              rw [← HW1.out]
              go_quiet (fail)
              clear g1 s1 s2
              go_wp2
              go_roundw
              case rel => exact ⟨rfl, rfl, k + 1, by omega, by go_num, hbz' _⟩
              case measure => simp [intOf]; omega
  · have hy9' : (99999 : Int) ≤ y := by omega
    have hfl : lab L fr = farL := hff.2 hy9
    have hB1 : farB m xs to fr = true := by rw [HFAR.out]; simpa using hfl
    have HB1 := Lib.hid hB1
    clear hfl hB1
    go_wp2
    refine bodyPost_ret (v := .tuple #[.slice (some ⟨W.heap.size, 0, none⟩) 0 0, .bool false]) (by simp [results, Try.results64, go_sem]) rfl ?_
    refine ⟨_, by rw [HB1.out]; rfl, ?_, hpW.trans hpa⟩
    rw [HWAY.out, HB1.out]
    exact hres2.lower hpW.size

end Go.Proofs.Ytaojognjkiifmab
