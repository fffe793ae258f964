/-
  FnStairThree answers true at every input: three stairs come the same, whichever two are put together first. No condition.
-/
import Derived.Test.YthopenknfadciabDrawStairL
import Derived.Test.YthopenknfadciabStairLink
import Derived.Test.YthopenknfadciabPLink
import Derived.Test.YthopenknfadciabWkSteps
namespace Go.Proofs.Ythopenknfadciab
open Go.ChangeShapes Go.WideShapes Go.ChangeAt Go.RowKit

theorem linkI_three {a b c : List StepD} (ha : stairB a = true) (hb : stairB b = true) (hc : stairB c = true) : linkI (linkI a b) c = linkI a (linkI b c) := by
  have h1 : linkI a b = tidy (linkL a b) := by rw [linkI, ha, hb]; rfl
  have h2 : linkI b c = tidy (linkL b c) := by rw [linkI, hb, hc]; rfl
  rw [h1, h2, linkI, linkI, link_stair ha hb, link_stair hb hc, ha, hc]
  exact link_three ha hb hc

set_option maxRecDepth 100000 in
set_option maxHeartbeats 4000000 in
theorem fnStairThree_walk (A : Option Addr) (n c : Nat) (A2 : Option Addr) (n2 c2 : Nat) (w : World) (hn : n ≤ c) (hc : c ≤ maxLen) (hb : BytesAt w A n) (hn2 : n2 ≤ c2) (hc2 : c2 ≤ maxLen) (hby2 : BytesAt w A2 n2) :
    Calls Try.prog 4 #[.slice A n c, .slice A2 n2 c2] w fun e w' => e = .returned (.bool true) ∧ Below w.heap.size w w' := by
  by_cases h1 : 1048576 < n
  · have h1' : (1048576 : Int) < (n : Int) := by omega
    go_enter Try.func4, Try.ntmps4
    go_wp2
    go_ret
    exact ⟨rfl, Below.refl _ _⟩
  have h1' : ¬ (1048576 : Int) < (n : Int) := by omega
  by_cases h2 : 1048576 < n2
  · have h2' : (1048576 : Int) < (n2 : Int) := by omega
    go_enter Try.func4, Try.ntmps4
    go_wp2
    go_ret
    exact ⟨rfl, Below.refl _ _⟩
  have h2' : ¬ (1048576 : Int) < (n2 : Int) := by omega
  go_enter Try.func4, Try.ntmps4
  go_wp2_with fail
  refine (drawStairLink_any A n c w hn hc hb).mono ?_
  rintro e w1 ⟨va, za, vb, zb, rfl, hal, hbl, hva, hvb, _, _, hb1⟩
  obtain ⟨B1, ca, rfl, hxa, _⟩ := hva.form
  obtain ⟨B2, cb, rfl, hxb, _⟩ := hvb.form
  obtain ⟨La, hLa⟩ : ∃ L, L = za.length := ⟨_, rfl⟩
  obtain ⟨Lb, hLb⟩ : ∃ L, L = zb.length := ⟨_, rfl⟩
  rw [← hLa] at hal ⊢
  rw [← hLb] at hbl ⊢
  have HA := Lib.hid hLa.symm
  have HB := Lib.hid hLb.symm
  clear hLa hLb hva hvb hb hn hc
  go_wp2_with fail
  refine (drawStairLink_any A2 n2 c2 w1 hn2 hc2 (hby2.below hb1)).mono ?_
  rintro e w2 ⟨vc, zc, vd, zd, rfl, hcl, _, hvc, _, _, _, hb2⟩
  obtain ⟨B3, cc, rfl, hxc, _⟩ := hvc.form
  obtain ⟨Lc, hLc⟩ : ∃ L, L = zc.length := ⟨_, rfl⟩
  rw [← hLc] at hcl ⊢
  have HC := Lib.hid hLc.symm
  have hxa2 := hxa.below hb2
  have hxb2 := hxb.below hb2
  have hp2 := Past.trans hb1 hb2
  clear hLc hvc hxa hxb hb1 hb2 hby2 hn2 hc2
  go_wp2_with fail
  refine (implStairLink_any B1 La ca za B2 Lb cb zb _ (by omega) HA.out hxa2 (by omega) HB.out hxb2).mono ?_
  rintro e w3 ⟨v3, rfl, hv3, hb3⟩
  obtain ⟨E, ce, rfl, hs3, _⟩ := hv3.form
  obtain ⟨ss, hss⟩ : ∃ ss, ss = linkI za zb := ⟨_, rfl⟩
  rw [← hss] at hs3 ⊢
  obtain ⟨N, hN⟩ : ∃ N, N = ss.length := ⟨_, rfl⟩
  have hN1 : N ≤ 1048576 := by rw [hN, hss]; exact linkI_len za zb
  rw [← hN]
  have HSS := Lib.hid hss
  have HN := Lib.hid hN.symm
  have hxa3 := hxa2.below hb3
  have hxb3 := hxb2.below hb3
  have hxc3 := hxc.below hb3
  have hp3 := Past.trans hp2 hb3
  clear hss hN hv3 hxa2 hxb2 hxc hb3 hp2
  go_wp2_with fail
  refine (specStairLink_any B1 La ca za B2 Lb cb zb _ (by omega) HA.out hxa3 (by omega) HB.out hxb3).mono ?_
  rintro e w4 ⟨v4, rfl, hv4, hb4⟩
  obtain ⟨F, cf, rfl, hs4, _⟩ := hv4.form
  rw [← HSS.out] at hs4 ⊢
  rw [HN.out]
  go_wp2_with fail
  refine (wkSteps_same E F N ce cf ss _ hN1 HN.out (hs3.below hb4) hs4).mono ?_
  rintro e w5 ⟨rfl, hb5⟩
  have hb45 := Past.trans hb4 hb5
  go_wp2_with fail
  refine (implStairOk_any B1 La ca za _ (by omega) HA.out (hxa3.below hb45)).mono ?_
  rintro e w6 ⟨rfl, hb6⟩
  have hb46 := hb45.trans hb6
  have hxa6 := hxa3.below hb46
  have hxb6 := hxb3.below hb46
  have hxc6 := hxc3.below hb46
  have hs6 := hs3.below hb46
  have hp6 := hp3.trans hb46
  clear hv4 hs4 hb4 hb5 hb6 hb45 hb46 hxa3 hxb3 hxc3 hs3 hp3
  have again : ∀ (W : World), Past w6 W → Calls Try.prog 8 #[.slice B1 La ca, .slice B2 Lb cb] W (GivesStep W (linkI za zb)) := fun W h => specStairLink_any B1 La ca za B2 Lb cb zb W (by omega) HA.out (hxa6.below h) (by omega) HB.out (hxb6.below h)
  have AG := Lib.hid again
  clear again
  cases hsa : stairB za with
  | false =>
    clear hsa
    go_wp2_with fail
    refine (AG.out _ (Past.refl _)).mono ?_
    rintro e w7 ⟨v7, rfl, hv7, hb7⟩
    obtain ⟨F7, c7, rfl, hs7, _⟩ := hv7.form
    rw [← HSS.out] at hs7 ⊢
    rw [HN.out]
    go_wp2_with fail
    refine (wkSteps_same E F7 N ce c7 ss _ hN1 HN.out (hs6.below hb7) hs7).mono ?_
    rintro e w8 ⟨rfl, hb8⟩
    go_wp2
    go_ret
    exact ⟨rfl, hp6.trans (Past.trans hb7 hb8)⟩
  | true =>
    have HSA := Lib.hid hsa
    clear hsa
    go_wp2_with fail
    refine (implStairOk_any B2 Lb cb zb _ (by omega) HB.out hxb6).mono ?_
    rintro e w7 ⟨rfl, hb7⟩
    cases hsb : stairB zb with
    | false =>
      clear hsb
      go_wp2_with fail
      refine (AG.out _ hb7).mono ?_
      rintro e w8 ⟨v8, rfl, hv8, hb8⟩
      obtain ⟨F8, c8, rfl, hs8, _⟩ := hv8.form
      rw [← HSS.out] at hs8 ⊢
      rw [HN.out]
      go_wp2_with fail
      refine (wkSteps_same E F8 N ce c8 ss _ hN1 HN.out ((hs6.below hb7).below hb8) hs8).mono ?_
      rintro e w9 ⟨rfl, hb9⟩
      go_wp2
      go_ret
      exact ⟨rfl, hp6.trans (Past.trans hb7 (Past.trans hb8 hb9))⟩
    | true =>
      have HSB := Lib.hid hsb
      clear hsb
      go_wp2_with fail
      refine (implStairOk_any B3 Lc cc zc _ (by omega) HC.out (hxc6.below hb7)).mono ?_
      rintro e w8 ⟨rfl, hb8⟩
      have hb78 := Past.trans hb7 hb8
      cases hsc : stairB zc with
      | false =>
        clear hsc
        go_wp2_with fail
        refine (AG.out _ hb78).mono ?_
        rintro e w9 ⟨v9, rfl, hv9, hb9⟩
        obtain ⟨F9, c9, rfl, hs9, _⟩ := hv9.form
        rw [← HSS.out] at hs9 ⊢
        rw [HN.out]
        go_wp2_with fail
        refine (wkSteps_same E F9 N ce c9 ss _ hN1 HN.out ((hs6.below hb78).below hb9) hs9).mono ?_
        rintro e w10 ⟨rfl, hb10⟩
        go_wp2
        go_ret
        exact ⟨rfl, hp6.trans (Past.trans hb78 (Past.trans hb9 hb10))⟩
      | true =>
        have H3 := Lib.hid (linkI_three HSA.out HSB.out hsc)
        clear hsc
        have hxa8 := hxa6.below hb78
        have hxb8 := hxb6.below hb78
        have hxc8 := hxc6.below hb78
        have hs8 := hs6.below hb78
        have hp8 := hp6.trans hb78
        clear hxa6 hxb6 hxc6 hs6 hp6 hb7 hb8 hb78 AG
        go_wp2_with fail
        refine (implStairLink_any E N ce ss B3 Lc cc zc _ hN1 HN.out hs8 (by omega) HC.out hxc8).mono ?_
        rintro e w9 ⟨v9, rfl, hv9, hb9⟩
        obtain ⟨F9, c9, rfl, hs9, _⟩ := hv9.form
        obtain ⟨tt, htt⟩ : ∃ tt, tt = linkI ss zc := ⟨_, rfl⟩
        rw [← htt] at hs9 ⊢
        obtain ⟨K, hK⟩ : ∃ K, K = tt.length := ⟨_, rfl⟩
        have hK1 : K ≤ 1048576 := by rw [hK, htt]; exact linkI_len ss zc
        rw [← hK]
        have HTT := Lib.hid htt
        have HK := Lib.hid hK.symm
        clear htt hK hv9
        go_wp2_with fail
        refine (implStairLink_any B2 Lb cb zb B3 Lc cc zc _ (by omega) HB.out (hxb8.below hb9) (by omega) HC.out (hxc8.below hb9)).mono ?_
        rintro e w10 ⟨v10, rfl, hv10, hb10⟩
        obtain ⟨F10, c10, rfl, hs10, _⟩ := hv10.form
        obtain ⟨M, hM⟩ : ∃ M, M = (linkI zb zc).length := ⟨_, rfl⟩
        have hM1 : M ≤ 1048576 := by rw [hM]; exact linkI_len zb zc
        rw [← hM]
        have HM := Lib.hid hM.symm
        clear hM hv10
        have hb910 := Past.trans hb9 hb10
        go_wp2_with fail
        refine (implStairLink_any B1 La ca za F10 M c10 (linkI zb zc) _ (by omega) HA.out (hxa8.below hb910) hM1 HM.out hs10).mono ?_
        rintro e w11 ⟨v11, rfl, hv11, hb11⟩
        obtain ⟨F11, c11, rfl, hs11, _⟩ := hv11.form
        rw [← H3.out, ← HSS.out, ← HTT.out] at hs11 ⊢
        rw [HK.out]
        go_wp2_with fail
        refine (wkSteps_same F9 F11 K c9 c11 tt _ hK1 HK.out ((hs9.below hb10).below hb11) hs11).mono ?_
        rintro e w12 ⟨rfl, hb12⟩
        go_wp2
        go_ret
        exact ⟨rfl, hp8.trans (hb910.trans (Past.trans hb11 hb12))⟩

set_option maxRecDepth 100000 in
theorem fnStairThree_lifted (os : Os) (started : os.Started) (H : Type) (enc : TypeId × Value → H) :
    ReturnsInHanded {} Try.checked os 4 .any (Rows.fnStairThreeSpec.pre6 enc Try.prog Try.f4 Rows.fnStairThreeRow.domain false) (Rows.fnStairThreeSpec.post enc Try.prog Try.f4 false true false false) := by
  refine returnsInHanded_of_change (C := Try.checked) own started (by kernel_rfl) Try.func4
    (ChangeSpec.witness6 (enc := enc) (C := Try.checked) false ⟨#[], #[.slice none 0 0, .slice none 0 0], []⟩ 8 (by kernel_rfl) (by kernel_rfl) (by kernel_rfl) (by kernel_rfl)) ?_
  intro W base args ds gs before hval0 hW hcnd _
  have hval : ∀ (j : Nat) t v, Try.f4.params[j]? = some t → args[j]? = some v → Value.okWide Try.prog W .any base t v := hval0
  have hW' := hW
  obtain ⟨p, q, hA0, hV, rfl, hfz, hnd⟩ := hW
  have hA : DataW.TrodAll enc Try.prog W 0 (fun _ => true) true Try.f4.params.toList args.toList ds p := hA0
  rw [Try.params4] at hA hval
  obtain ⟨v0, vs0, d0, ds0, p0, q0, hargs, rfl, rfl, h0, r0⟩ := trodAll_cons hA
  obtain ⟨v1, vs1, d1, ds1, p1, q1, rfl, rfl, rfl, h1, r1⟩ := trodAll_cons r0
  obtain ⟨rfl, rfl, rfl⟩ := trodAll_nil r1
  obtain rfl : args = #[v0, v1] := by cases args; simp_all
  obtain ⟨rfl, rfl⟩ := trodVars_none hV
  have k0 := h0
  have lt0 := places_lt k0
  have k1 := h1
  have lt1 := places_lt k1
  obtain ⟨A0, n0, c0, rfl, hn0, hc0, hb0⟩ := open_bytes (hval 0 22 v0 rfl rfl) h0
  obtain ⟨A1, n1, c1, rfl, hn1, hc1, hb1⟩ := open_bytes (hval 1 22 v1 rfl rfl) h1
  clear hA0 hval0
  refine (fnStairThree_walk A0 n0 c0 A1 n1 c1 W hn0 hc0 hb0 hn1 hc1 hb1).mono fun e W' ⟨he, bel⟩ => ?_
  subst he
  exact ⟨_, rfl, _, _, _, [], _, [], hW', trodAll_mk1 (shut_bool Try.underlying4 _), (trodAll_cons_mk (Below.trod laidOut (by kernel_rfl) (of_decide_eq_true (by kernel_rfl)) k0 bel lt0) (trodAll_cons_mk (Below.trod laidOut (by kernel_rfl) (of_decide_eq_true (by kernel_rfl)) k1 bel lt1) trodAll_mk0)), rfl, bel.frame _, fun h => by cases h⟩

/-- The given statement. -/
theorem fnStairThree_proved : Rows.FnStairThreeSaid :=
  OpenClaim.holds_of_wide 4 Try.f4 rfl rfl rfl rfl rfl rfl rfl ⟨rfl, rfl, rfl, rfl, rfl⟩ rfl rfl rfl rfl rfl (by kernel_rfl) Try.func4 (by kernel_rfl)
    (of_decide_eq_true (by kernel_rfl)) (by unfold Func.isWrapper; first | (rw [if_pos (by decide +kernel)]; kernel_rfl) | (rw [if_neg (by decide +kernel)]; exact ⟨rfl, rfl⟩))
    (fun os started H enc _ => fnStairThree_lifted os started H enc)

end Go.Proofs.Ythopenknfadciab
