/-
  FnStairLink answers true at every input: one stair, and then another one, comes as one after the other. No condition.
-/
import Derived.Test.YthopenknfadciabDrawStairL
import Derived.Test.YthopenknfadciabStairAtI
import Derived.Test.YthopenknfadciabStairLink
import Derived.Test.YthopenknfadciabPLink
import Derived.Test.YthopenknfadciabWkSteps
namespace Go.Proofs.Ythopenknfadciab
open Go.ChangeShapes Go.WideShapes Go.ChangeAt Go.RowKit

set_option maxRecDepth 100000 in
set_option maxHeartbeats 4000000 in
theorem fnStairLink_walk (A : Option Addr) (n c : Nat) (w : World) (hn : n ≤ c) (hc : c ≤ maxLen) (hb : BytesAt w A n) :
    Calls Try.prog 3 #[.slice A n c] w fun e w' => e = .returned (.bool true) ∧ Below w.heap.size w w' := by
  by_cases h1 : 1048576 < n
  · have h1' : (1048576 : Int) < (n : Int) := by omega
    go_enter Try.func3, Try.ntmps3
    go_wp2
    go_ret
    exact ⟨rfl, Below.refl _ _⟩
  have h1' : ¬ (1048576 : Int) < (n : Int) := by omega
  go_enter Try.func3, Try.ntmps3
  go_wp2_with fail
  refine (drawStairLink_any A n c w hn hc hb).mono ?_
  rintro e w1 ⟨va, za, vb, zb, rfl, hal, hbl, hva, hvb, _, _, hb1⟩
  obtain ⟨B1, ca, rfl, hxa, _⟩ := hva.form
  obtain ⟨B2, cb, rfl, hxb, _⟩ := hvb.form
  obtain ⟨La, hLa⟩ : ∃ L, L = za.length := ⟨_, rfl⟩
  obtain ⟨Lb, hLb⟩ : ∃ L, L = zb.length := ⟨_, rfl⟩
  rw [← hLa] at hal ⊢
  rw [← hLb] at hbl ⊢
  have HA := Lib.hid hLa.symm
  have HB := Lib.hid hLb.symm
  clear hLa hLb hva hvb hb hn hc
  go_wp2_with fail
  refine (implStairLink_any B1 La ca za B2 Lb cb zb _ (by omega) HA.out hxa (by omega) HB.out hxb).mono ?_
  rintro e w2 ⟨v2, rfl, hv2, hb2⟩
  obtain ⟨E, ce, rfl, hs2, _⟩ := hv2.form
  obtain ⟨ss, hss⟩ : ∃ ss, ss = linkI za zb := ⟨_, rfl⟩
  rw [← hss] at hs2 ⊢
  obtain ⟨N, hN⟩ : ∃ N, N = ss.length := ⟨_, rfl⟩
  have hN1 : N ≤ 1048576 := by rw [hN, hss]; exact linkI_len za zb
  rw [← hN]
  have HSS := Lib.hid hss
  have HN := Lib.hid hN.symm
  have hxa2 := hxa.below hb2
  have hxb2 := hxb.below hb2
  have hp2 := Past.trans hb1 hb2
  clear hss hN hv2 hxa hxb hb1 hb2
  go_wp2_with fail
  refine (specStairLink_any B1 La ca za B2 Lb cb zb _ (by omega) HA.out hxa2 (by omega) HB.out hxb2).mono ?_
  rintro e w3 ⟨v3, rfl, hv3, hb3⟩
  obtain ⟨F, cf, rfl, hs3, _⟩ := hv3.form
  rw [← HSS.out] at hs3 ⊢
  rw [HN.out]
  have hs23 := hs2.below hb3
  go_wp2_with fail
  refine (wkSteps_same E F N ce cf ss _ hN1 HN.out hs23 hs3).mono ?_
  rintro e w4 ⟨rfl, hb4⟩
  have hb34 := Past.trans hb3 hb4
  have hxa4 := hxa2.below hb34
  have hxb4 := hxb2.below hb34
  have hs4 := hs2.below hb34
  have hp4 := hp2.trans hb34
  clear hv3 hxa2 hxb2 hs2 hs23 hs3 hb3 hb4 hb34 hp2
  go_wp2_with fail
  refine (implStairOk_any B1 La ca za _ (by omega) HA.out hxa4).mono ?_
  rintro e w5 ⟨rfl, hb5⟩
  have hxa5 := hxa4.below hb5
  have hxb5 := hxb4.below hb5
  have hs5 := hs4.below hb5
  have hp5 := Past.trans hp4 hb5
  clear hxa4 hxb4 hs4 hp4 hb5
  cases hsa : stairB za with
  | false =>
    clear hsa
    go_wp2_with fail
    refine (specStairLink_any B1 La ca za B2 Lb cb zb _ (by omega) HA.out hxa5 (by omega) HB.out hxb5).mono ?_
    rintro e w6 ⟨v6, rfl, hv6, hb6⟩
    obtain ⟨F6, c6, rfl, hs6, _⟩ := hv6.form
    rw [← HSS.out] at hs6 ⊢
    rw [HN.out]
    go_wp2_with fail
    refine (wkSteps_same E F6 N ce c6 ss _ hN1 HN.out (hs5.below hb6) hs6).mono ?_
    rintro e w7 ⟨rfl, hb7⟩
    go_wp2
    go_ret
    exact ⟨rfl, hp5.trans (Past.trans hb6 hb7)⟩
  | true =>
    have HSA := Lib.hid hsa
    clear hsa
    go_wp2_with fail
    refine (implStairOk_any B2 Lb cb zb _ (by omega) HB.out hxb5).mono ?_
    rintro e w6 ⟨rfl, hb6⟩
    have hxa6 := hxa5.below hb6
    have hxb6 := hxb5.below hb6
    have hs6 := hs5.below hb6
    have hp6 := Past.trans hp5 hb6
    clear hxa5 hxb5 hs5 hp5 hb6
    cases hsb : stairB zb with
    | false =>
      clear hsb
      go_wp2_with fail
      refine (specStairLink_any B1 La ca za B2 Lb cb zb _ (by omega) HA.out hxa6 (by omega) HB.out hxb6).mono ?_
      rintro e w7 ⟨v7, rfl, hv7, hb7⟩
      obtain ⟨F7, c7, rfl, hs7, _⟩ := hv7.form
      rw [← HSS.out] at hs7 ⊢
      rw [HN.out]
      go_wp2_with fail
      refine (wkSteps_same E F7 N ce c7 ss _ hN1 HN.out (hs6.below hb7) hs7).mono ?_
      rintro e w8 ⟨rfl, hb8⟩
      go_wp2
      go_ret
      exact ⟨rfl, hp6.trans (Past.trans hb7 hb8)⟩
    | true =>
      have hst : ss = tidy (linkL za zb) := by rw [HSS.out, linkI, HSA.out, hsb]; rfl
      have HAT : Hid (∀ a : Nat, a ≤ 200 → atB ss (a : Int) = afterI za zb (a : Int)) := fun a ha => by
        rw [atB, hst, link_stair HSA.out hsb]
        exact link_at HSA.out hsb a ha
      have HSB : Hid (stairB ss = true) := by rw [Hid, hst]; exact link_stair HSA.out hsb
      have HBA : Hid (∀ t, atB za t = atI za t) := fun t => by rw [atB, HSA.out]; rfl
      have HBB : Hid (∀ t, atB zb t = atI zb t) := fun t => by rw [atB, hsb]; rfl
      have HLE : Hid (∀ t, atI za t = far ∨ (0 ≤ t → 0 ≤ atI za t ∧ atI za t ≤ 199)) := fun t => by
        rcases atI_bound HSA.out t with h | h
        · exact .inl h
        · exact .inr fun _ => by omega
      clear hst hsb
      go_wp2
      go_loopw [6] (fun i wq => ∃ a : Nat, a ≤ 200 ∧ i = .int .i64 a ∧ Past w6 wq) (fun i _ => 200 - (intOf i).toNat)
      case atStart => exact ⟨0, by omega, rfl, Past.refl _⟩
      case round =>
        obtain ⟨a, ha, rfl, hbq⟩ := hrel
        have hxaq := hxa6.below hbq
        have hxbq := hxb6.below hbq
        have hsq := hs6.below hbq
        by_cases h200 : a ≤ 199
        · have h199 : (a : Int) ≤ 199 := by omega
          go_wp2_with fail
          refine (implStairAt_any B1 La ca za _ _ (by omega) HA.out hxaq).mono ?_
          rintro e w7 ⟨rfl, hb7⟩
          rw [HBA.out]
          obtain ⟨p, hp⟩ : ∃ p, p = atI za (a : Int) := ⟨_, rfl⟩
          rw [← hp]
          have hbd := HLE.out (a : Int)
          rw [← hp] at hbd
          have HP := Lib.hid hp
          clear hp
          by_cases hf : p = 99999
          · have hf' : ¬ p < 99999 := by omega
            have HR : Hid (atB ss (a : Int) = p) := by rw [Hid, HAT.out a (by omega), afterI, ← HP.out, if_pos (show p = far from hf)]; exact hf.symm
            clear hf hbd
            go_wp2_with fail
            refine (implStairAt_any E N ce ss _ _ hN1 HN.out (hsq.below hb7)).mono ?_
            rintro e w8 ⟨rfl, hb8⟩
            rw [HR.out]
            go_wp2
            go_roundw
            case rel => exact ⟨a + 1, by omega, by go_num, hbq.trans (Past.trans hb7 hb8)⟩
            case measure => simp [intOf]; omega
          · have hlt : p < 99999 := by have := (hbd.resolve_left hf) (by omega); omega
            have HR : Hid (atB ss (a : Int) = atI zb p) := by rw [Hid, HAT.out a (by omega), afterI, ← HP.out, if_neg (show ¬ p = far from hf)]
            clear hf hbd
            go_wp2_with fail
            refine (implStairAt_any B2 Lb cb zb _ _ (by omega) HB.out (hxbq.below hb7)).mono ?_
            rintro e w8 ⟨rfl, hb8⟩
            rw [HBB.out]
            go_wp2_with fail
            refine (implStairAt_any E N ce ss _ _ hN1 HN.out ((hsq.below hb7).below hb8)).mono ?_
            rintro e w9 ⟨rfl, hb9⟩
            rw [HR.out]
            go_wp2
            go_roundw
            case rel => exact ⟨a + 1, by omega, by go_num, hbq.trans (Past.trans hb7 (Past.trans hb8 hb9))⟩
            case measure => simp [intOf]; omega
        · obtain rfl : a = 200 := by omega
          go_wp2_with fail
          refine (implStairOk_any E N ce ss _ hN1 HN.out hsq).mono ?_
          rintro e w7 ⟨rfl, hb7⟩
          rw [HSB.out]
          go_wp2
          go_ret
          exact ⟨rfl, hp6.trans (Past.trans hbq hb7)⟩

set_option maxRecDepth 100000 in
theorem fnStairLink_lifted (os : Os) (started : os.Started) (H : Type) (enc : TypeId × Value → H) :
    ReturnsInHanded {} Try.checked os 3 .any (Rows.fnStairLinkSpec.pre6 enc Try.prog Try.f3 Rows.fnStairLinkRow.domain false) (Rows.fnStairLinkSpec.post enc Try.prog Try.f3 false true false false) := by
  refine returnsInHanded_of_change (C := Try.checked) own started (by kernel_rfl) Try.func3
    (ChangeSpec.witness6 (enc := enc) (C := Try.checked) false ⟨#[], #[.slice none 0 0], []⟩ 8 (by kernel_rfl) (by kernel_rfl) (by kernel_rfl) (by kernel_rfl)) ?_
  intro W base args ds gs before hval0 hW hcnd _
  have hval : ∀ (j : Nat) t v, Try.f3.params[j]? = some t → args[j]? = some v → Value.okWide Try.prog W .any base t v := hval0
  have hW' := hW
  obtain ⟨p, q, hA0, hV, rfl, hfz, hnd⟩ := hW
  have hA : DataW.TrodAll enc Try.prog W 0 (fun _ => true) true Try.f3.params.toList args.toList ds p := hA0
  rw [Try.params3] at hA hval
  obtain ⟨v0, vs0, d0, ds0, p0, q0, hargs, rfl, rfl, h0, r0⟩ := trodAll_cons hA
  obtain ⟨rfl, rfl, rfl⟩ := trodAll_nil r0
  obtain rfl : args = #[v0] := by cases args; simp_all
  obtain ⟨rfl, rfl⟩ := trodVars_none hV
  have k0 := h0
  have lt0 := places_lt k0
  obtain ⟨A0, n0, c0, rfl, hn0, hc0, hb0⟩ := open_bytes (hval 0 22 v0 rfl rfl) h0
  clear hA0 hval0
  refine (fnStairLink_walk A0 n0 c0 W hn0 hc0 hb0).mono fun e W' ⟨he, bel⟩ => ?_
  subst he
  exact ⟨_, rfl, _, _, _, [], _, [], hW', trodAll_mk1 (shut_bool Try.underlying4 _), (trodAll_cons_mk (Below.trod laidOut (by kernel_rfl) (of_decide_eq_true (by kernel_rfl)) k0 bel lt0) trodAll_mk0), rfl, bel.frame _, fun h => by cases h⟩

/-- The given statement. -/
theorem fnStairLink_proved : Rows.FnStairLinkSaid :=
  OpenClaim.holds_of_wide 3 Try.f3 rfl rfl rfl rfl rfl rfl rfl ⟨rfl, rfl, rfl, rfl, rfl⟩ rfl rfl rfl rfl rfl (by kernel_rfl) Try.func3 (by kernel_rfl)
    (of_decide_eq_true (by kernel_rfl)) (by unfold Func.isWrapper; first | (rw [if_pos (by decide +kernel)]; kernel_rfl) | (rw [if_neg (by decide +kernel)]; exact ⟨rfl, rfl⟩))
    (fun os started H enc _ => fnStairLink_lifted os started H enc)

end Go.Proofs.Ythopenknfadciab
