/-
  FnNearTree answers true at every input: from each node one goes on along the best way. No condition.
-/
import Derived.Test.YtokljfeoignbcaaDrawNearTree
import Derived.Test.YtokljfeoignbcaaOpenB
import Derived.Test.YtokljfeoignbcaaTreeS
import Derived.Test.YtokljfeoignbcaaNWalkI
import Derived.Test.YtokljfeoignbcaaWkInts
namespace Go.Proofs.Ytokljfeoignbcaa
open Go.ChangeShapes Go.WideShapes Go.ChangeAt Go.RowKit

theorem TreeL.short {m : Nat} {xs : List ArcD} {s : Int} {L : List LenD} (h : TreeL m xs s L) (v : Int) (h0 : 0 ≤ v) (h1 : v < m) : (lab L v).x1.toNat ≤ m := by
  rcases h.labs.each v h0 h1 with e | ⟨l, q1, q2, q3⟩
  · rw [e]; simp [farL]
  · have := q1.way.few h.back h.node q3
    omega

set_option maxRecDepth 100000 in
set_option maxHeartbeats 2000000 in
theorem fnNearTree_walk (A : Option Addr) (n c : Nat) (w : World) (hn : n ≤ c) (hc : c ≤ maxLen) (hb : BytesAt w A n) :
    Calls Try.prog 12 #[.slice A n c] w fun e w' => e = .returned (.bool true) ∧ Below w.heap.size w w' := by
  by_cases h1 : 1048576 < n
  · have h1' : (1048576 : Int) < (n : Int) := by omega
    go_enter Try.func12, Try.ntmps12
    go_wp2
    go_ret
    exact ⟨rfl, Below.refl _ _⟩
  have h1' : ¬ (1048576 : Int) < (n : Int) := by omega
  obtain ⟨i0, hi, hz0, hz1, hz2⟩ := info_parts infoInt
  go_enter Try.func12, Try.ntmps12
  go_wp2_with fail
  refine (drawNearTree_any A n c w hn hc hb).mono ?_
  rintro e w1 ⟨m, B, k, cap, xs, nd, rfl, hxk, hk, hx1, ⟨_, hform⟩, hb1⟩
  have HX := Lib.hid hxk
  clear hxk hb hn hc
  have hkk : k ≤ 1048576 := by omega
  have hpW : Past w1 (w1.alloc (.cells #[.int .i64 m, .slice B k cap] 30)) := (Past.refl w1).alloc _
  go_wp2_with fail
  refine (implNearTree_all m B k cap xs nd _ hkk HX.out (hx1.below hpW) hform).mono ?_
  rintro e w2 ⟨v2, rfl, hv2, hb2⟩
  have b0 := cell_in (p := ⟨w1.heap.size, 0, none⟩) (v := .int .i64 m) hb2 (by go_simp)
  have b1 := cell_in (p := ⟨w1.heap.size, 1, none⟩) (v := .slice B k cap) hb2 (by go_simp)
  have hx2 := (hx1.below hpW).below hb2
  have hp2 : Past w w2 := Past.trans hb1 (hpW.trans hb2)
  obtain ⟨X, cx, rfl, hs2, _⟩ := hv2.form
  obtain ⟨ps, hps⟩ : ∃ ps, ps = treeTI m xs nd := ⟨_, rfl⟩
  rw [← hps] at hs2 ⊢
  obtain ⟨R, hR⟩ : ∃ R, R = ps.length := ⟨_, rfl⟩
  have hR1 : R ≤ 1048576 := by rw [hR, hps]; exact treeTI_len m xs nd
  rw [← hR]
  have HPS := Lib.hid hps
  have HR := Lib.hid hR.symm
  clear hps hR hv2 hx1 hb1 hb2 hpW
  go_wp2_with fail
  refine (specNearTree_any m B k cap xs nd _ hkk HX.out hx2).mono ?_
  rintro e w3 ⟨v3, rfl, hv3, hb3⟩
  obtain ⟨F, cf, rfl, hs3, _⟩ := hv3.form
  rw [← HPS.out] at hs3 ⊢
  rw [HR.out]
  have b0 := cell_in hb3 b0
  have b1 := cell_in hb3 b1
  have hx3 := hx2.below hb3
  have hs23 := hs2.below hb3
  have hp3 := Past.trans hp2 hb3
  clear hv3 hx2 hs2 hb3 hp2
  go_wp2_with fail
  refine (wkInts_same X F R cx cf ps _ hR1 HR.out hs23 hs3).mono ?_
  rintro e w4 ⟨rfl, hb4⟩
  have b0 := cell_in hb4 b0
  have b1 := cell_in hb4 b1
  have hx4 := hx3.below hb4
  have hs4 := hs23.below hb4
  have hp4 := Past.trans hp3 hb4
  clear hx3 hs23 hs3 hb4 hp3
  cases hO : hereB m xs nd with
  | false =>
    obtain rfl : R = 0 := by rw [← HR.out, HPS.out, treeTI, hO]; rfl
    clear hO
    go_wp2_with fail
    refine (specNearTree_any m B k cap xs nd _ hkk HX.out hx4).mono ?_
    rintro e w6 ⟨v6, rfl, hv6, hb6⟩
    obtain ⟨F, cf, rfl, hs6, _⟩ := hv6.form
    rw [← HPS.out] at hs6 ⊢
    rw [HR.out]
    go_wp2_with fail
    refine (wkInts_same X F 0 cx cf ps _ hR1 HR.out (hs4.below hb6) hs6).mono ?_
    rintro e w7 ⟨rfl, hb7⟩
    go_wp2
    go_ret
    exact ⟨rfl, (Past.trans hp4 hb6).trans hb7⟩
  | true =>
    obtain ⟨hN, hn0, hn1⟩ := (hereB_iff _ _ _).1 hO
    obtain ⟨M, rfl, hM1, hM8⟩ := here_nat hN
    have HN := Lib.hid hN
    have hps : ps = treeM M xs nd := by rw [HPS.out, treeTI, hO, if_pos rfl, Int.toNat_natCast]
    obtain rfl : M = R := by rw [← HR.out, hps, treeM_length]
    have hT := treeL_of (arcsIn_net hN) ⟨hn0, hn1⟩ hM8
    obtain ⟨L, hL⟩ : ∃ L, L = labsOf M xs nd := ⟨_, rfl⟩
    rw [← hL] at hT
    have hcell : ∀ v : Int, 0 ≤ v → v < M → ∃ g o, X = some ⟨g, o, none⟩ ∧ w4.cell? ⟨g, o + v.toNat, none⟩ = some (.int .i64 (treeI xs L v)) := fun v h0 h1 => by
      obtain ⟨g, o, e, h⟩ := hs4 v.toNat _ (by rw [hps]; exact treeM_get M xs nd (v := v.toNat) (by omega))
      refine ⟨g, o, e, ?_⟩
      rw [h, show ((v.toNat : Nat) : Int) = v by omega, hL]
    obtain ⟨gZ, oZ, rfl, _⟩ := hcell nd hn0 hn1
    have hcell2 : ∀ v : Int, 0 ≤ v → v < M → w4.cell? ⟨gZ, oZ + v.toNat, none⟩ = some (.int .i64 (treeI xs L v)) := fun v h0 h1 => by
      obtain ⟨g, o, e, h⟩ := hcell v h0 h1
      injection e with e
      injection e with e1 e2
      subst e1 e2
      exact h
    have cT := hcell2 nd hn0 hn1
    rw [hT.none nd (.inl rfl)] at cT
    have HC := Lib.hid hcell2
    have HT := Lib.hid hT
    have HL := Lib.hid hL
    have hM0 : ¬ (M : Int) = 0 := by omega
    have hM0' : ¬ M = 0 := by omega
    have hMb : ((M : Int) == 0) = false := by simpa using hM0
    have h16 : k ≤ 16 := by omega
    clear hO hN hps hcell hcell2 hT hL hs4
    go_wp2
    go_loopw [6] (fun i wr => ∃ j : Nat, j ≤ M ∧ i = .int .i64 j ∧ Past w4 wr) (fun i _ => M - (intOf i).toNat)
    case atStart => exact ⟨0, by omega, rfl, Past.refl _⟩
    case round =>
      obtain ⟨v, hj, rfl, hbr⟩ := hrel
      by_cases hlt : v < M
      · have b0o := cell_in hbr b0
        have v0 : (0 : Int) ≤ (v : Int) := by omega
        have v1 : (v : Int) < (M : Int) := by omega
        obtain ⟨wo, hwo⟩ : ∃ wo, wo = wr := ⟨_, rfl⟩
        subst hwo
        have hres2 : Res (wo.alloc (.cells #[] 3)) wo.heap.size (.slice (some ⟨wo.heap.size, 0, none⟩) 0 0) [] :=
          ⟨rfl, .inr ⟨wo.heap.size, 0, #[], rfl, Nat.le_refl _, heap_alloc_new wo _, Nat.le_refl _, by unfold maxLen; omega, rfl, rfl⟩⟩
        have hpa : Past wo (wo.alloc (.cells #[] 3)) := (Past.refl wo).alloc _
        have hv2 : hereB2 (M : Int) xs (v : Int) nd = true := (hereB2_iff _ _ _ _).2 ⟨HN.out, ⟨v0, v1⟩, hn0, hn1⟩
        have hnB : nearWB (M : Int) xs (v : Int) nd = !decide (lab L (v : Int) = farL) := by rw [nearWB, hv2, Int.toNat_natCast, farB, HL.out]; rfl
        have hnI : nearWI (M : Int) xs (v : Int) nd = if lab L (v : Int) = farL then [] else wayL xs L nd (v : Int) := by
          rw [nearWI, hv2, if_pos rfl, Int.toNat_natCast, wayM, farB, HL.out]
          by_cases e : lab (labsOf M xs nd) (v : Int) = farL <;> simp [e]
        have HNB := Lib.hid hnB
        have HNI := Lib.hid hnI
        clear hv2 hnB hnI
        go_wp2
        go_loopw [7, 8] (fun z q wr => ∃ (at' : Int) (zs : List Int), q = .int .i64 at' ∧ 0 ≤ at' ∧ at' < M ∧ (lab L at' = farL ↔ lab L (v : Int) = farL) ∧ Res wr wo.heap.size z zs ∧ (lab L (v : Int) ≠ farL → wayL xs L nd (v : Int) = zs ++ wayL xs L nd at') ∧ zs.length + (lab L at').x1.toNat ≤ M ∧ Past wo wr) (fun _ q _ => (lab L (intOf q)).x1.toNat)
        case atStart => exact ⟨(v : Int), [], rfl, v0, v1, Iff.rfl, hres2, fun _ => rfl, by have := HT.out.short (v : Int) v0 v1; simp; omega, hpa⟩
        case round =>
          obtain ⟨at', zs, rfl, t0, t1, hiff, hv, hzs, hzl, hbz⟩ := hrel
          have hbq := hbr.trans hbz
          have b0' := cell_in hbq b0
          have b1' := cell_in hbq b1
          have hxr := hx4.below hbq
          clear hres2 hpa
          obtain ⟨Z, cz, rfl, hzi, _⟩ := hv.form
          obtain ⟨D, hD⟩ : ∃ D, D = zs.length := ⟨_, rfl⟩
          rw [← hD] at hzl ⊢
          have HDD := Lib.hid hD
          have hD1 : (D : Int) ≤ (M : Int) := by omega
          by_cases hat : at' = nd
          · subst hat
            have hfa : lab L (v : Int) ≠ farL := fun e => by
              have := hiff.2 e
              rw [HT.out.lab_to] at this
              unfold farL farI at this
              simp at this
            have hzs := hzs hfa
            rw [HT.out.wayL_to, List.append_nil] at hzs
            have hB2 : nearWB (M : Int) xs (v : Int) at' = true := by rw [HNB.out]; simpa using hfa
            have hI2 : nearWI (M : Int) xs (v : Int) at' = zs := by rw [HNI.out, if_neg hfa]; exact hzs
            have HB2 := Lib.hid hB2
            have HI2 := Lib.hid hI2
            clear hD hzs hB2 hI2 hiff
            go_wp2_with fail
            refine (implNearWalk_all (M : Int) B k cap xs (v : Int) at' _ hkk HX.out hxr hform).mono ?_
            rintro e w9 ⟨v9, rfl, hv9, hb9⟩
            obtain ⟨Y, cy, rfl, hy9, _⟩ := hv9.form
            rw [HI2.out] at hy9 ⊢
            rw [HB2.out, ← HDD.out]
            have hz9 := hzi.below hb9
            have hp9 := hbq.trans hb9
            clear hv9 hb9 hv hzi
            go_wp2_with fail
            refine (wkInts_same Y Z D cy cz zs _ (by omega) HDD.out.symm hy9 hz9).mono ?_
            rintro e w7 ⟨rfl, hb7⟩
            go_wp2
            go_roundw
            case rel => exact ⟨v + 1, by omega, by go_num, hp9.trans hb7⟩
            case measure => simp [intOf]; omega
          · have hne : (at' != nd) = true := by simpa using hat
            have hnee : (at' == nd) = false := by simpa using hat
            have cA := cell_in hbq (HC.out at' t0 t1)
            by_cases hf : lab L at' = farL
            · have hB2 : nearWB (M : Int) xs (v : Int) nd = false := by rw [HNB.out]; simpa using hiff.1 hf
              have HB2 := Lib.hid hB2
              rw [HT.out.none at' (.inr hf)] at cA
              clear hD hzs hB2 hiff hf
              go_wp2_with fail
              refine (implNearWalk_all (M : Int) B k cap xs (v : Int) nd _ hkk HX.out hxr hform).mono ?_
              rintro e w9 ⟨v9, rfl, hv9, hb9⟩
              rw [HB2.out]
              have hp9 := hbq.trans hb9
              go_wp2
              go_roundw
              case rel => exact ⟨v + 1, by omega, by go_num, hp9⟩
              case measure => simp [intOf]; omega
            · obtain ⟨j, ⟨f1, t1', c1, l1, d1⟩, e1, e2, e3, e4, e5, _, e7, e8⟩ := HT.out.some at' hat hf t0 t1
              have hstep := HT.out.wayL_step hat e1 e2 e5
              have hbt := arcsIn_net HN.out _ (List.mem_of_getElem? e2)
              simp only at e4 e5 hbt hstep
              rw [e1] at cA
              have hjn : j < k := by rw [← HX.out]; exact (List.getElem?_eq_some_iff.1 e2).1
              have hbT := HT.out.bound t1' (by omega) (by omega)
              have j0 : (0 : Int) ≤ (j : Int) := by omega
              have j1 : (j : Int) < (k : Int) := by omega
              obtain ⟨gx, ox, rfl, _, c1', _, _, _⟩ := hxr j _ e2
              have hgx : gx < w4.heap.size := by
                obtain ⟨g'', o'', e, hh⟩ := hx4 j _ e2
                injection e with e
                injection e with e1 e2
                subst e1
                exact hh.lt
              have hgZ : gZ < w4.heap.size := lt_of_cell cT
              have hw1 : w1.heap.size < w4.heap.size := lt_of_cell b1
              have hs2 := hbr.size
              have hs3 := hbz.size
              have hvA : (wr.alloc (.cells #[.int .i64 (j : Int)] 3)).ownsRow wo.heap.size 3 1 (.slice Z D cz) D (ints zs) := by
                have h := World.ownsRow.alloc hv (.cells #[.int .i64 (j : Int)] 3)
                rw [← HDD.out] at h
                exact h
              have hpa5 : Past wr (wr.alloc (.cells #[.int .i64 (j : Int)] 3)) := (Past.refl wr).alloc _
              have hb1' : ∀ w3, (wr.alloc (.cells #[.int .i64 (j : Int)] 3)).grownBy w3 (Value.slice Z D cz).ownBlock → w3.cell? ⟨w1.heap.size, 1, none⟩ = some (.slice (some ⟨gx, ox, none⟩) k cap) := fun w3 hg => hg.cell (cell_in hpa5 b1') (own_ne (g := w1.heap.size) hvA (by omega))
              have hc1' : ∀ w3, (wr.alloc (.cells #[.int .i64 (j : Int)] 3)).grownBy w3 (Value.slice Z D cz).ownBlock → w3.cell? ⟨gx, ox + j * 5 + 1, none⟩ = some (.int .i64 t1') := fun w3 hg => hg.cell (cell_in hpa5 c1') (own_ne (g := gx) hvA (by omega))
              have hcA' : ∀ w3, (wr.alloc (.cells #[.int .i64 (j : Int)] 3)).grownBy w3 (Value.slice Z D cz).ownBlock → w3.cell? ⟨gZ, oZ + at'.toNat, none⟩ = some (.int .i64 (j : Int)) := fun w3 hg => hg.cell (cell_in hpa5 cA) (own_ne (g := gZ) hvA (by omega))
              have HB1 := Lib.hid hb1'
              have HC1 := Lib.hid hc1'
              have HCA := Lib.hid hcA'
              have HSTEP := Lib.hid hstep
              have HZS := Lib.hid hzs
              have hfa : lab L (v : Int) ≠ farL := fun e => hf (hiff.2 e)
              have hzm : D + 1 + (lab L t1').x1.toNat ≤ M := by omega
              have ht0 : 0 ≤ t1' := by omega
              have ht1 : t1' < (M : Int) := by omega
              have hms : (lab L t1').x1.toNat < (lab L at').x1.toNat := by omega
              clear hb1' hc1' hcA' hstep hzs e1 e2 e3 e7 e8 c1' hiff hD hv hzi hbt
              go_wp2_with (first | (at_builtin; refine wpList_append_own _ rfl _ _ 26 rfl wo.heap.size 3 i0 (.int .i64 0) 1 8 Try.underlying26 hi hz0 hz1 hz2 rfl (by decide) _ _ _ rfl hvA ⟨wr.heap.size, 0, none⟩ 1 1 [.int .i64 (j : Int)] rfl rfl (cell_one_new _ _ _) (one_cell _) (by unfold maxLen; omega) (by omega) (by simp; omega) ?_; intro v' w3 hown' hgrow3 hnil3; have b1 := HB1.out _ hgrow3; have c1 := HC1.out _ hgrow3; have cA := HCA.out _ hgrow3))
              go_quiet (fail)
              go_wp2
              go_roundw
              case rel =>
                refine ⟨t1', zs ++ [(j : Int)], by go_num, ht0, ht1, ⟨fun e => absurd e e4, fun e => absurd e hfa⟩, Res.drewN (Res.push (by rw [← HDD.out]; exact hown')) _, fun _ => ?_, ?_, (Past.grown (hbz.alloc _) hvA hgrow3 (Nat.le_refl _)).drewN _⟩
                · rw [HZS.out hfa, HSTEP.out, List.append_assoc]; rfl
                · rw [List.length_append, ← HDD.out]; exact hzm
              case measure => simp only [intOf]; exact hms
      · obtain rfl : M = v := by omega
        have cT' := cell_in hbr cT
        have b0' := cell_in hbr b0
        go_wp2
        go_ret
        exact ⟨rfl, hp4.trans hbr⟩

set_option maxRecDepth 100000 in
theorem fnNearTree_lifted (os : Os) (started : os.Started) (H : Type) (enc : TypeId × Value → H) :
    ReturnsInHanded {} Try.checked os 12 .any (Rows.fnNearTreeSpec.pre6 enc Try.prog Try.f12 Rows.fnNearTreeRow.domain false) (Rows.fnNearTreeSpec.post enc Try.prog Try.f12 false true false false) := by
  refine returnsInHanded_of_change (C := Try.checked) own started (by kernel_rfl) Try.func12
    (ChangeSpec.witness6 (enc := enc) (C := Try.checked) false ⟨#[], #[.slice none 0 0], []⟩ 8 (by kernel_rfl) (by kernel_rfl) (by kernel_rfl) (by kernel_rfl)) ?_
  intro W base args ds gs before hval0 hW hcnd _
  have hval : ∀ (j : Nat) t v, Try.f12.params[j]? = some t → args[j]? = some v → Value.okWide Try.prog W .any base t v := hval0
  have hW' := hW
  obtain ⟨p, q, hA0, hV, rfl, hfz, hnd⟩ := hW
  have hA : DataW.TrodAll enc Try.prog W 0 (fun _ => true) true Try.f12.params.toList args.toList ds p := hA0
  rw [Try.params12] at hA hval
  obtain ⟨v0, vs0, d0, ds0, p0, q0, hargs, rfl, rfl, h0, r0⟩ := trodAll_cons hA
  obtain ⟨rfl, rfl, rfl⟩ := trodAll_nil r0
  obtain rfl : args = #[v0] := by cases args; simp_all
  obtain ⟨rfl, rfl⟩ := trodVars_none hV
  have k0 := h0
  have lt0 := places_lt k0
  obtain ⟨A0, n0, c0, rfl, hn0, hc0, hb0⟩ := open_bytes (hval 0 40 v0 rfl rfl) h0
  clear hA0 hval0
  refine (fnNearTree_walk A0 n0 c0 W hn0 hc0 hb0).mono fun e W' ⟨he, bel⟩ => ?_
  subst he
  exact ⟨_, rfl, _, _, _, [], _, [], hW', trodAll_mk1 (shut_bool Try.underlying4 _), (trodAll_cons_mk (Below.trod laidOut (by kernel_rfl) (of_decide_eq_true (by kernel_rfl)) k0 bel lt0) trodAll_mk0), rfl, bel.frame _, fun h => by cases h⟩

/-- The given statement. -/
theorem fnNearTree_proved : Rows.FnNearTreeSaid :=
  OpenClaim.holds_of_wide 12 Try.f12 rfl rfl rfl rfl rfl rfl rfl ⟨rfl, rfl, rfl, rfl, rfl⟩ rfl rfl rfl rfl rfl (by kernel_rfl) Try.func12 (by kernel_rfl)
    (of_decide_eq_true (by kernel_rfl)) (by unfold Func.isWrapper; first | (rw [if_pos (by decide +kernel)]; kernel_rfl) | (rw [if_neg (by decide +kernel)]; exact ⟨rfl, rfl⟩))
    (fun os started H enc _ => fnNearTree_lifted os started H enc)

end Go.Proofs.Ytokljfeoignbcaa
