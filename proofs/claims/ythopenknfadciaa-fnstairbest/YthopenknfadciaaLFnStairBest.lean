/-
  FnStairBest answers true at every input: whichever comes earlier is no later than either. No condition.
-/
import Derived.Test.YthopenknfadciaaDrawStairL
import Derived.Test.YthopenknfadciaaStairAtI
import Derived.Test.YthopenknfadciaaStairBest
import Derived.Test.YthopenknfadciaaPStair2
import Derived.Test.YthopenknfadciaaWkSteps
namespace Go.Proofs.Ythopenknfadciaa
open Go.ChangeShapes Go.WideShapes Go.ChangeAt Go.RowKit

theorem drawStairBest_any (A : Option Addr) (n c : Nat) (w : World) (hn : n ≤ c) (hc : c ≤ maxLen) (hb : BytesAt w A n) :
    Calls Try.prog 39 #[.slice A n c] w (DrawTwoG w) := by
  go_enter Try.func39, Try.ntmps39
  go_wp2_with fail
  refine (drawStairLink_any A n c w hn hc hb).mono ?_
  rintro e w1 ⟨v, zs, v2, ys, rfl, h1, h2, h3, h4, h5, h6, h7⟩
  have H5 := Lib.hid h5
  have H6 := Lib.hid h6
  clear h5 h6
  go_wp2
  go_ret2
  exact ⟨v, zs, v2, ys, rfl, h1, h2, h3, h4, H5.out, H6.out, h7⟩

theorem best_swap {a b : List StepD} (h : bestB a b = true) : bestL b a = bestL a b ∧ bestB b a = true := by
  have hc : tidy (b ++ a) = tidy (a ++ b) := tidy_congr fun s => by simp [or_comm]
  have h2 : bestB b a = true := by
    unfold bestB ofB allOk at *
    rw [hc]
    simp only [Bool.and_eq_true, List.all_append] at *
    exact ⟨h.2.1, h.1, ⟨h.2.2.1.2, h.2.2.1.1⟩, h.2.2.2⟩
  exact ⟨by rw [bestL, bestL, h2, h, hc], h2⟩
def minI (p q : Int) : Int := if q < p then q else p

set_option maxRecDepth 100000 in
set_option maxHeartbeats 4000000 in
theorem fnStairBest_walk (A : Option Addr) (n c : Nat) (w : World) (hn : n ≤ c) (hc : c ≤ maxLen) (hb : BytesAt w A n) :
    Calls Try.prog 14 #[.slice A n c] w fun e w' => e = .returned (.bool true) ∧ Below w.heap.size w w' := by
  by_cases h1 : 1048576 < n
  · have h1' : (1048576 : Int) < (n : Int) := by omega
    go_enter Try.func14, Try.ntmps14
    go_wp2
    go_ret
    exact ⟨rfl, Below.refl _ _⟩
  have h1' : ¬ (1048576 : Int) < (n : Int) := by omega
  go_enter Try.func14, Try.ntmps14
  go_wp2_with fail
  refine (drawStairBest_any A n c w hn hc hb).mono ?_
  rintro e w1 ⟨va, za, vb, zb, rfl, hal, hbl, hva, hvb, hna, hnb, hb1⟩
  obtain ⟨aa, ca, rfl, hxa⟩ := hva.some_ hna
  obtain ⟨ab, cb, rfl, hxb⟩ := hvb.some_ hnb
  obtain ⟨La, hLa⟩ : ∃ L, L = za.length := ⟨_, rfl⟩
  obtain ⟨Lb, hLb⟩ : ∃ L, L = zb.length := ⟨_, rfl⟩
  rw [← hLa] at hal ⊢
  rw [← hLb] at hbl ⊢
  have HA := Lib.hid hLa.symm
  have HB := Lib.hid hLb.symm
  clear hLa hLb hva hvb hna hnb hb hn hc
  go_wp2_with fail
  refine (implStairBest_any aa La ca za ab Lb cb zb _ (by omega) HA.out hxa (by omega) HB.out hxb).mono ?_
  rintro e w2 ⟨v2, rfl, hv2, hb2⟩
  obtain ⟨ok, hok⟩ : ∃ ok, ok = bestB za zb := ⟨_, rfl⟩
  rw [← hok]
  have HK := Lib.hid hok
  clear hok
  obtain ⟨E, ce, rfl, hs2, _⟩ := hv2.form
  obtain ⟨ss, hss⟩ : ∃ ss, ss = bestL za zb := ⟨_, rfl⟩
  rw [← hss] at hs2 ⊢
  obtain ⟨N, hN⟩ : ∃ N, N = ss.length := ⟨_, rfl⟩
  have hN1 : N ≤ 1048576 := by rw [hN, hss]; exact bestL_len za zb
  rw [← hN]
  have HSS := Lib.hid hss
  have HN := Lib.hid hN.symm
  have hxa2 := hxa.below hb2
  have hxb2 := hxb.below hb2
  have hp2 := Past.trans hb1 hb2
  clear hss hN hv2 hxa hxb hb1 hb2
  go_wp2_with fail
  refine (specStairBest_any aa La ca za ab Lb cb zb _ (by omega) HA.out hxa2 (by omega) HB.out hxb2).mono ?_
  rintro e w3 ⟨v3, rfl, hv3, hb3⟩
  rw [← HK.out]
  obtain ⟨F, cf, rfl, hs3, _⟩ := hv3.form
  rw [← HSS.out] at hs3 ⊢
  rw [HN.out]
  have hxa3 := hxa2.below hb3
  have hxb3 := hxb2.below hb3
  have hs23 := hs2.below hb3
  have hp3 := Past.trans hp2 hb3
  clear hv3 hxa2 hxb2 hs2 hb3 hp2
  go_wp2_with fail
  refine (wkSteps_same E F N ce cf ss _ hN1 HN.out hs23 hs3).mono ?_
  rintro e w4 ⟨rfl, hb4⟩
  have hxa4 := hxa3.below hb4
  have hxb4 := hxb3.below hb4
  have hs4 := hs23.below hb4
  have ht4 := hs3.below hb4
  have hp4 := Past.trans hp3 hb4
  clear hxa3 hxb3 hs23 hs3 hb4 hp3
  cases ok with
  | false =>
    go_wp2_with fail
    refine (wkSteps_same E F N ce cf ss _ hN1 HN.out hs4 ht4).mono ?_
    rintro e w5 ⟨rfl, hb5⟩
    go_wp2
    go_ret
    exact ⟨rfl, Past.trans hp4 hb5⟩
  | true =>
    have hob := HK.out.symm
    have hst : ss = tidy (za ++ zb) := by rw [HSS.out, bestL, hob]; rfl
    have hparts : stairB za = true ∧ stairB zb = true ∧ ofB (za ++ zb) = true := by unfold bestB at hob; simpa using hob
    obtain ⟨hsa, hsb, hof⟩ := hparts
    have hall : ∀ s ∈ za ++ zb, stOk s = true := by
      intro s hs
      rcases List.mem_append.1 hs with h | h
      · exact stairB_ok hsa s h
      · exact stairB_ok hsb s h
    have h12 : (tidy (za ++ zb)).length ≤ 12 := by
      unfold ofB at hof
      simp only [Bool.and_eq_true, decide_eq_true_eq] at hof
      exact hof.2
    have hss : stairB ss = true := by rw [hst, tidy_stair hall]; simpa using h12
    have HAT : Hid (∀ a : Nat, a ≤ 200 → atB ss (a : Int) = minI (atB za (a : Int)) (atB zb (a : Int))) := fun a ha => by
      rw [atB, hss, atB, hsa, atB, hsb, hst]
      simp only [if_true]
      rw [tidy_at hall h12 a ha, bestOf_append, stair_best hsa, stair_best hsb]
      rfl
    have HX : Hid (bestL zb za = ss) := by rw [Hid, (best_swap hob).1, ← HSS.out]
    have HSB := Lib.hid hss
    clear hob hst hall h12 hss hsa hsb hof
    go_wp2
    go_loopw [9] (fun i wq => ∃ a : Nat, a ≤ 200 ∧ i = .int .i64 a ∧ Past w4 wq) (fun i _ => 200 - (intOf i).toNat)
    case atStart => exact ⟨0, by omega, rfl, Past.refl _⟩
    case round =>
      obtain ⟨a, ha, rfl, hbq⟩ := hrel
      have hxaq := hxa4.below hbq
      have hxbq := hxb4.below hbq
      have hsq := hs4.below hbq
      by_cases h200 : a ≤ 199
      · have h199 : (a : Int) ≤ 199 := by omega
        obtain ⟨p, hp⟩ : ∃ p, p = atB za (a : Int) := ⟨_, rfl⟩
        obtain ⟨q, hq⟩ : ∃ q, q = atB zb (a : Int) := ⟨_, rfl⟩
        have hr := HAT.out a (by omega)
        rw [← hp, ← hq] at hr
        have HP := Lib.hid hp
        have HQ := Lib.hid hq
        have HR := Lib.hid hr
        clear hp hq hr
        go_wp2_with fail
        refine (implStairAt_any _ La ca za _ _ (by omega) HA.out hxaq).mono ?_
        rintro e w5 ⟨rfl, hb5⟩
        rw [← HP.out]
        go_wp2_with fail
        refine (implStairAt_any _ Lb cb zb _ _ (by omega) HB.out (hxbq.below hb5)).mono ?_
        rintro e w6 ⟨rfl, hb6⟩
        rw [← HQ.out]
        have hb56 := Past.trans hb5 hb6
        by_cases hlt : q < p
        · have HM : Hid (minI p q = q) := by rw [Hid, minI, if_pos hlt]
          go_wp2_with fail
          refine (implStairAt_any _ Lb cb zb _ _ (by omega) HB.out (hxbq.below hb56)).mono ?_
          rintro e w7 ⟨rfl, hb7⟩
          rw [← HQ.out]
          go_wp2_with fail
          refine (implStairAt_any _ N ce ss _ _ hN1 HN.out ((hsq.below hb56).below hb7)).mono ?_
          rintro e w8 ⟨rfl, hb8⟩
          rw [HR.out, HM.out]
          go_wp2
          go_roundw
          case rel => exact ⟨a + 1, by omega, by go_num, hbq.trans (hb56.trans (Past.trans hb7 hb8))⟩
          case measure => simp [intOf]; omega
        · have HM : Hid (minI p q = p) := by rw [Hid, minI, if_neg hlt]
          go_wp2_with fail
          refine (implStairAt_any _ N ce ss _ _ hN1 HN.out (hsq.below hb56)).mono ?_
          rintro e w8 ⟨rfl, hb8⟩
          rw [HR.out, HM.out]
          go_wp2
          go_roundw
          case rel => exact ⟨a + 1, by omega, by go_num, hbq.trans (hb56.trans hb8)⟩
          case measure => simp [intOf]; omega
      · obtain rfl : a = 200 := by omega
        have hpq := hp4.trans hbq
        go_wp2_with fail
        refine (implStairBest_any ab Lb cb zb aa La ca za _ (by omega) HB.out hxbq (by omega) HA.out hxaq).mono ?_
        rintro e w6 ⟨v6, rfl, hv6, hb6⟩
        rw [HX.out] at hv6
        obtain ⟨A6, c6, rfl, hs6, _⟩ := hv6.form
        rw [HN.out]
        have hsq6 := hsq.below hb6
        clear hv6
        go_wp2_with fail
        refine (implStairOk_any E N ce ss _ hN1 HN.out hsq6).mono ?_
        rintro e w8 ⟨rfl, hb8⟩
        rw [HSB.out]
        go_wp2_with fail
        refine (wkSteps_same A6 E N c6 ce ss _ hN1 HN.out (hs6.below hb8) (hsq6.below hb8)).mono ?_
        rintro e w9 ⟨rfl, hb9⟩
        go_wp2
        go_ret
        exact ⟨rfl, hpq.trans (Past.trans hb6 (Past.trans hb8 hb9))⟩

set_option maxRecDepth 100000 in
theorem fnStairBest_lifted (os : Os) (started : os.Started) (H : Type) (enc : TypeId × Value → H) :
    ReturnsInHanded {} Try.checked os 14 .any (Rows.fnStairBestSpec.pre6 enc Try.prog Try.f14 Rows.fnStairBestRow.domain false) (Rows.fnStairBestSpec.post enc Try.prog Try.f14 false true false false) := by
  refine returnsInHanded_of_change (C := Try.checked) own started (by kernel_rfl) Try.func14
    (ChangeSpec.witness6 (enc := enc) (C := Try.checked) false ⟨#[], #[.slice none 0 0], []⟩ 8 (by kernel_rfl) (by kernel_rfl) (by kernel_rfl) (by kernel_rfl)) ?_
  intro W base args ds gs before hval0 hW hcnd _
  have hval : ∀ (j : Nat) t v, Try.f14.params[j]? = some t → args[j]? = some v → Value.okWide Try.prog W .any base t v := hval0
  have hW' := hW
  obtain ⟨p, q, hA0, hV, rfl, hfz, hnd⟩ := hW
  have hA : DataW.TrodAll enc Try.prog W 0 (fun _ => true) true Try.f14.params.toList args.toList ds p := hA0
  rw [Try.params14] at hA hval
  obtain ⟨v0, vs0, d0, ds0, p0, q0, hargs, rfl, rfl, h0, r0⟩ := trodAll_cons hA
  obtain ⟨rfl, rfl, rfl⟩ := trodAll_nil r0
  obtain rfl : args = #[v0] := by cases args; simp_all
  obtain ⟨rfl, rfl⟩ := trodVars_none hV
  have k0 := h0
  have lt0 := places_lt k0
  obtain ⟨A0, n0, c0, rfl, hn0, hc0, hb0⟩ := open_bytes (hval 0 38 v0 rfl rfl) h0
  clear hA0 hval0
  refine (fnStairBest_walk A0 n0 c0 W hn0 hc0 hb0).mono fun e W' ⟨he, bel⟩ => ?_
  subst he
  exact ⟨_, rfl, _, _, _, [], _, [], hW', trodAll_mk1 (shut_bool Try.underlying4 _), (trodAll_cons_mk (Below.trod laidOut (by kernel_rfl) (of_decide_eq_true (by kernel_rfl)) k0 bel lt0) trodAll_mk0), rfl, bel.frame _, fun h => by cases h⟩

/-- The given statement. -/
theorem fnStairBest_proved : Rows.FnStairBestSaid :=
  OpenClaim.holds_of_wide 14 Try.f14 rfl rfl rfl rfl rfl rfl rfl ⟨rfl, rfl, rfl, rfl, rfl⟩ rfl rfl rfl rfl rfl (by kernel_rfl) Try.func14 (by kernel_rfl)
    (of_decide_eq_true (by kernel_rfl)) (by unfold Func.isWrapper; first | (rw [if_pos (by decide +kernel)]; kernel_rfl) | (rw [if_neg (by decide +kernel)]; exact ⟨rfl, rfl⟩))
    (fun os started H enc _ => fnStairBest_lifted os started H enc)

end Go.Proofs.Ythopenknfadciaa
