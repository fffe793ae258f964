/-
  FnWalkJoin answers true at every input: two walks, one behind the other, cost what both cost. No condition.
-/
import Derived.Test.YtokljfeoignbcaaDrawWalkJoin
import Derived.Test.YtokljfeoignbcaaOpenB
import Derived.Test.YtokljfeoignbcaaCut2
import Derived.Test.YtokljfeoignbcaaCost
import Derived.Test.YtokljfeoignbcaaJoin2
import Derived.Test.YtokljfeoignbcaaWkInts
import Derived.Test.YtokljfeoignbcaaQPast
import Derived.Test.YtokljfeoignbcaaForm2
namespace Go.Proofs.Ytokljfeoignbcaa
open Go.ChangeShapes Go.WideShapes Go.ChangeAt Go.RowKit

set_option maxRecDepth 100000 in
set_option maxHeartbeats 4000000 in
theorem fnWalkJoin_walk (A : Option Addr) (n c : Nat) (w : World) (hn : n ≤ c) (hc : c ≤ maxLen) (hb : BytesAt w A n) :
    Calls Try.prog 13 #[.slice A n c] w fun e w' => e = .returned (.bool true) ∧ Below w.heap.size w w' := by
  by_cases h1 : 1048576 < n
  · have h1' : (1048576 : Int) < (n : Int) := by omega
    go_enter Try.func13, Try.ntmps13
    go_wp2
    go_ret
    exact ⟨rfl, Below.refl _ _⟩
  have h1' : ¬ (1048576 : Int) < (n : Int) := by omega
  go_enter Try.func13, Try.ntmps13
  go_wp2_with fail
  refine (drawWalkJoin_any A n c w hn hc hb).mono ?_
  rintro e w1 ⟨m, B, k, cap, xs, va, za, vb, zb, rfl, hxk, hk, hx1, hal, hva, hna, hbl, hvb, hnb, hb1⟩
  obtain ⟨ga, ca, rfl, ha1, hac, hcma⟩ := hna.form hva
  obtain ⟨gb, cb, rfl, hb1', hbc, hcmb⟩ := hnb.form hvb
  obtain ⟨la, hla⟩ : ∃ L, L = za.length := ⟨_, rfl⟩
  obtain ⟨lb, hlb⟩ : ∃ L, L = zb.length := ⟨_, rfl⟩
  rw [← hla] at hal hac ⊢
  rw [← hlb] at hbl hbc ⊢
  have HA := Lib.hid hla.symm
  have HB := Lib.hid hlb.symm
  have HX := Lib.hid hxk
  have hkk : k ≤ 1048576 := by omega
  have hlaa : la ≤ 1048576 := by omega
  have hlbb : lb ≤ 1048576 := by omega
  clear hla hlb hxk hva hvb hna hnb hb hn hc hcma hcmb
  have hpW : Past w1 (w1.alloc (.cells #[.int .i64 m, .slice B k cap] 30)) := (Past.refl w1).alloc _
  go_wp2_with fail
  refine (implWalkJoin_any m B k cap ga gb la lb ca cb xs za zb _ hkk hlaa hlbb HX.out HA.out HB.out (hx1.below hpW) (ha1.below hpW) (hb1'.below hpW)).mono ?_
  rintro e w2 ⟨v2, rfl, hv2, hb2⟩
  have b0 := cell_in (p := ⟨w1.heap.size, 0, none⟩) (v := .int .i64 m) hb2 (by go_simp)
  have b1 := cell_in (p := ⟨w1.heap.size, 1, none⟩) (v := .slice B k cap) hb2 (by go_simp)
  have hx2 := (hx1.below hpW).below hb2
  have ha2 := (ha1.below hpW).below hb2
  have hbb2 := (hb1'.below hpW).below hb2
  have hp2 : Past w w2 := Past.trans hb1 (hpW.trans hb2)
  obtain ⟨X, cx, rfl, hs2, hRc, hcm, hXX⟩ := hv2.form2
  obtain ⟨ps, hps⟩ : ∃ ps, ps = joinI m xs za zb := ⟨_, rfl⟩
  rw [← hps] at hs2 hRc hXX ⊢
  obtain ⟨R, hR⟩ : ∃ R, R = ps.length := ⟨_, rfl⟩
  have hR1 : R ≤ 1048576 := by rw [hR, hps]; exact joinI_len m xs za zb
  rw [← hR] at hRc hXX ⊢
  have HPS := Lib.hid hps
  have HR := Lib.hid hR.symm
  clear hps hR hv2 hx1 ha1 hb1' hb1 hb2 hpW hcm
  go_wp2_with fail
  refine (specWalkJoin_any m B k cap ga gb la lb ca cb xs za zb _ hkk hlaa hlbb HX.out HA.out HB.out hx2 ha2 hbb2).mono ?_
  rintro e w3 ⟨v3, rfl, hv3, hb3⟩
  obtain ⟨F, cf, rfl, hs3, _⟩ := hv3.form
  rw [← HPS.out] at hs3 ⊢
  rw [HR.out]
  have b0 := cell_in hb3 b0
  have b1 := cell_in hb3 b1
  have hx3 := hx2.below hb3
  have ha3 := ha2.below hb3
  have hbb3 := hbb2.below hb3
  have hs23 := hs2.below hb3
  have hp3 := Past.trans hp2 hb3
  clear hv3 hx2 ha2 hbb2 hs2 hb3 hp2
  obtain ⟨O, hO⟩ : ∃ O, O = okB m xs (za ++ zb) := ⟨_, rfl⟩
  rw [← hO]
  have HO := Lib.hid hO
  clear hO
  cases O with
  | false =>
    go_wp2_with fail
    refine (wkInts_same X F R cx cf ps _ hR1 HR.out hs23 hs3).mono ?_
    rintro e w4 ⟨rfl, hb4⟩
    go_wp2_with fail
    refine (wkInts_same X F R cx cf ps _ hR1 HR.out (hs23.below hb4) (hs3.below hb4)).mono ?_
    rintro e w5 ⟨rfl, hb5⟩
    go_wp2
    go_ret
    exact ⟨rfl, (Past.trans hp3 hb4).trans hb5⟩
  | true =>
    have hjo : ps = za ++ zb := by rw [HPS.out, joinI, ← HO.out]; simp
    have hRL : R = la + lb := by rw [← HR.out, hjo, List.length_append, HA.out, HB.out]
    have hta : ps.take la = za := by rw [hjo, ← HA.out]; simp
    have htb : ps.drop la = zb := by rw [hjo, ← HA.out]; simp
    have hok : okB m xs ps = true := by rw [hjo, ← HO.out]
    have hcut := cost_cut hok (K := la) (by rw [HR.out]; omega)
    have hbd := cost_bd hok
    rw [hta, htb] at hcut
    obtain ⟨CA, hCA⟩ : ∃ C, C = costI m xs za := ⟨_, rfl⟩
    obtain ⟨CB, hCB⟩ : ∃ C, C = costI m xs zb := ⟨_, rfl⟩
    obtain ⟨CP, hCP⟩ : ∃ C, C = costI m xs ps := ⟨_, rfl⟩
    rw [← hCA, ← hCB, ← hCP] at hcut
    rw [← hCP] at hbd
    have hww : IntKind.i64.wrap (CA + CB) = CP := by rw [IntWalk.i64_in _ (by omega)]; exact hcut
    have hwl : IntKind.i64.wrap ((la : Int) + (lb : Int)) = (R : Int) := by rw [IntWalk.i64_in _ (by omega)]; omega
    have HCA := Lib.hid hCA
    have HCB := Lib.hid hCB
    have HCP := Lib.hid hCP
    have HOK := Lib.hid hok
    have HRL := Lib.hid hRL
    have HTA := Lib.hid hta
    have HTB := Lib.hid htb
    clear hjo hta htb hok hcut hCA hCB hCP
    have u0 : (0 : Int) ≤ (la : Int) := by omega
    have u1 : (la : Int) ≤ (cx : Int) := by omega
    have u2 : (la : Int) ≤ (R : Int) := by omega
    have u3 : (R : Int) ≤ (cx : Int) := by omega
    clear hbd hRL
    go_wp2_with fail
    refine (wkInts_same X F R cx cf ps _ hR1 HR.out hs23 hs3).mono ?_
    rintro e w4 ⟨rfl, hb4⟩
    have b0 := cell_in hb4 b0
    have b1 := cell_in hb4 b1
    have hx4 := hx3.below hb4
    have ha4 := ha3.below hb4
    have hbb4 := hbb3.below hb4
    have hs4 := hs23.below hb4
    have hp4 := Past.trans hp3 hb4
    clear hx3 ha3 hbb3 hs23 hs3 hb4 hp3
    have C0 := Lib.hid (fun q : PastOf w4 => (implWalkOk_any m B X k cap R cx xs ps q.W hkk hR1 HX.out HR.out (hx4.below q.h) (hs4.below q.h)))
    rw [HOK.out] at C0
    have C3 := Lib.hid (fun q : PastOf w4 => (implWalkCost_any m B X k cap R cx xs ps q.W hkk hR1 HX.out HR.out (hx4.below q.h) (hs4.below q.h)))
    have C4 := Lib.hid (fun q : PastOf w4 => (implWalkCost_any m B (some ⟨ga, 0, none⟩) k cap la ca xs za q.W hkk hlaa HX.out HA.out (hx4.below q.h) (ha4.below q.h)))
    have C5 := Lib.hid (fun q : PastOf w4 => (implWalkCost_any m B (some ⟨gb, 0, none⟩) k cap lb cb xs zb q.W hkk hlbb HX.out HB.out (hx4.below q.h) (hbb4.below q.h)))
    rw [← HCP.out] at C3
    rw [← HCA.out] at C4
    rw [← HCB.out] at C5
    have B0 := past_cell b0
    have B1 := past_cell b1
    rcases hXX with ⟨rfl, hL0, hc0⟩ | ⟨g, rfl⟩
    · obtain rfl : la = 0 := by have := HRL.out; omega
      obtain rfl : lb = 0 := by have := HRL.out; omega
      subst hc0
      subst hL0
      have hza : za = [] := List.eq_nil_of_length_eq_zero HA.out
      have hzb : zb = [] := List.eq_nil_of_length_eq_zero HB.out
      have C1 := Lib.hid (fun q : PastOf w4 => (wkInts_same none (some ⟨ga, 0, none⟩) 0 0 ca za q.W (by omega) HA.out (fun j x hj => by rw [hza] at hj; simp at hj) (ha4.below q.h)))
      have C2 := Lib.hid (fun q : PastOf w4 => (wkInts_same none (some ⟨gb, 0, none⟩) 0 0 cb zb q.W (by omega) HB.out (fun j x hj => by rw [hzb] at hj; simp at hj) (hbb4.below q.h)))
      clear hza hzb
      go_wp2_with fail
      refine wp_region_past (by kernel_rfl) (by kernel_rfl) ?_
      repeat (quiet_step (with_reducible exact rfl))
      quiet_step ((go_at_call 42; exact past_call (C0.out _)))
      repeat (quiet_step (with_reducible exact rfl))
      quiet_step ((go_at_call 31; exact past_call (C1.out _)))
      repeat (quiet_step (with_reducible exact rfl))
      quiet_step ((go_at_call 31; exact past_call (C2.out _)))
      repeat (quiet_step (with_reducible exact rfl))
      quiet_step ((go_at_call 36; exact past_call (C3.out _)))
      repeat (quiet_step (with_reducible exact rfl))
      quiet_step ((go_at_call 36; exact past_call (C4.out _)))
      repeat (quiet_step (with_reducible exact rfl))
      quiet_step ((go_at_call 36; exact past_call (C5.out _)))
      repeat (quiet_step (with_reducible exact rfl))
      refine wpQuiet_nil ?_
      rintro _ ⟨⟨W8, hW8⟩, rfl⟩
      go_wp2
      go_ret
      exact ⟨rfl, hp4.trans hW8⟩
    · have it : IntsAt w4 (some ⟨g, 0, none⟩) za := fun j x hj => hs4 j x (by rw [← HTA.out, List.getElem?_take] at hj; split at hj; exact hj; cases hj)
      have C1 := Lib.hid (fun (q : PastOf w4) (cc : Nat) => (wkInts_same (some ⟨g, 0, none⟩) (some ⟨ga, 0, none⟩) la cc ca za q.W hlaa HA.out (it.below q.h) (ha4.below q.h)))
      by_cases hcK : cx = la
      · obtain rfl : lb = 0 := by have := HRL.out; omega
        obtain rfl : R = la := by have := HRL.out; omega
        have hzb : zb = [] := List.eq_nil_of_length_eq_zero HB.out
        have C2 := Lib.hid (fun (q : PastOf w4) (cc : Nat) => (wkInts_same (some ⟨g, 0, none⟩) (some ⟨gb, 0, none⟩) 0 cc cb zb q.W (by omega) HB.out (fun j x hj => by rw [hzb] at hj; simp at hj) (hbb4.below q.h)))
        subst hcK
        have hwl0 : IntKind.i64.wrap (cx : Int) = (cx : Int) := IntWalk.i64_in _ (by omega)
        clear hzb it
        go_wp2_with fail
        refine wp_region_past (by kernel_rfl) (by kernel_rfl) ?_
        repeat (quiet_step (with_reducible exact rfl))
        quiet_step ((go_at_call 42; exact past_call (C0.out _)))
        repeat (quiet_step (with_reducible exact rfl))
        quiet_step ((go_at_call 31; exact past_call (C1.out _ _)))
        repeat (quiet_step (with_reducible exact rfl))
        quiet_step ((go_at_call 31; exact past_call (C2.out _ _)))
        repeat (quiet_step (with_reducible exact rfl))
        quiet_step ((go_at_call 36; exact past_call (C3.out _)))
        repeat (quiet_step (with_reducible exact rfl))
        quiet_step ((go_at_call 36; exact past_call (C4.out _)))
        repeat (quiet_step (with_reducible exact rfl))
        quiet_step ((go_at_call 36; exact past_call (C5.out _)))
        repeat (quiet_step (with_reducible exact rfl))
        refine wpQuiet_nil ?_
        rintro _ ⟨⟨W8, hW8⟩, rfl⟩
        go_wp2
        go_ret
        exact ⟨rfl, hp4.trans hW8⟩
      · have id : IntsAt w4 (some ⟨g, la, none⟩) zb := fun j x hj => by
          rw [← HTB.out, List.getElem?_drop] at hj
          obtain ⟨g', o', e, hcell⟩ := hs4 (la + j) x hj
          injection e with e
          injection e with e1 e2
          subst e1 e2
          exact ⟨g, la, rfl, by rw [Nat.zero_add] at hcell; exact hcell⟩
        have hsub : R - la = lb := by have := HRL.out; omega
        have C2 := Lib.hid (fun (q : PastOf w4) (cc : Nat) => (wkInts_same (some ⟨g, la, none⟩) (some ⟨gb, 0, none⟩) lb cc cb zb q.W hlbb HB.out (id.below q.h) (hbb4.below q.h)))
        clear id it
        go_wp2_with fail
        refine wp_region_past (by kernel_rfl) (by kernel_rfl) ?_
        repeat (quiet_step (with_reducible exact rfl))
        quiet_step ((go_at_call 42; exact past_call (C0.out _)))
        repeat (quiet_step (with_reducible exact rfl))
        quiet_step ((go_at_call 31; exact past_call (C1.out _ _)))
        repeat (quiet_step (with_reducible exact rfl))
        quiet_step ((go_at_call 31; exact past_call (C2.out _ _)))
        repeat (quiet_step (with_reducible exact rfl))
        quiet_step ((go_at_call 36; exact past_call (C3.out _)))
        repeat (quiet_step (with_reducible exact rfl))
        quiet_step ((go_at_call 36; exact past_call (C4.out _)))
        repeat (quiet_step (with_reducible exact rfl))
        quiet_step ((go_at_call 36; exact past_call (C5.out _)))
        repeat (quiet_step (with_reducible exact rfl))
        refine wpQuiet_nil ?_
        rintro _ ⟨⟨W8, hW8⟩, rfl⟩
        go_wp2
        go_ret
        exact ⟨rfl, hp4.trans hW8⟩

set_option maxRecDepth 100000 in
theorem fnWalkJoin_lifted (os : Os) (started : os.Started) (H : Type) (enc : TypeId × Value → H) :
    ReturnsInHanded {} Try.checked os 13 .any (Rows.fnWalkJoinSpec.pre6 enc Try.prog Try.f13 Rows.fnWalkJoinRow.domain false) (Rows.fnWalkJoinSpec.post enc Try.prog Try.f13 false true false false) := by
  refine returnsInHanded_of_change (C := Try.checked) own started (by kernel_rfl) Try.func13
    (ChangeSpec.witness6 (enc := enc) (C := Try.checked) false ⟨#[], #[.slice none 0 0], []⟩ 8 (by kernel_rfl) (by kernel_rfl) (by kernel_rfl) (by kernel_rfl)) ?_
  intro W base args ds gs before hval0 hW hcnd _
  have hval : ∀ (j : Nat) t v, Try.f13.params[j]? = some t → args[j]? = some v → Value.okWide Try.prog W .any base t v := hval0
  have hW' := hW
  obtain ⟨p, q, hA0, hV, rfl, hfz, hnd⟩ := hW
  have hA : DataW.TrodAll enc Try.prog W 0 (fun _ => true) true Try.f13.params.toList args.toList ds p := hA0
  rw [Try.params13] at hA hval
  obtain ⟨v0, vs0, d0, ds0, p0, q0, hargs, rfl, rfl, h0, r0⟩ := trodAll_cons hA
  obtain ⟨rfl, rfl, rfl⟩ := trodAll_nil r0
  obtain rfl : args = #[v0] := by cases args; simp_all
  obtain ⟨rfl, rfl⟩ := trodVars_none hV
  have k0 := h0
  have lt0 := places_lt k0
  obtain ⟨A0, n0, c0, rfl, hn0, hc0, hb0⟩ := open_bytes (hval 0 40 v0 rfl rfl) h0
  clear hA0 hval0
  refine (fnWalkJoin_walk A0 n0 c0 W hn0 hc0 hb0).mono fun e W' ⟨he, bel⟩ => ?_
  subst he
  exact ⟨_, rfl, _, _, _, [], _, [], hW', trodAll_mk1 (shut_bool Try.underlying4 _), (trodAll_cons_mk (Below.trod laidOut (by kernel_rfl) (of_decide_eq_true (by kernel_rfl)) k0 bel lt0) trodAll_mk0), rfl, bel.frame _, fun h => by cases h⟩

/-- The given statement. -/
theorem fnWalkJoin_proved : Rows.FnWalkJoinSaid :=
  OpenClaim.holds_of_wide 13 Try.f13 rfl rfl rfl rfl rfl rfl rfl ⟨rfl, rfl, rfl, rfl, rfl⟩ rfl rfl rfl rfl rfl (by kernel_rfl) Try.func13 (by kernel_rfl)
    (of_decide_eq_true (by kernel_rfl)) (by unfold Func.isWrapper; first | (rw [if_pos (by decide +kernel)]; kernel_rfl) | (rw [if_neg (by decide +kernel)]; exact ⟨rfl, rfl⟩))
    (fun os started H enc _ => fnWalkJoin_lifted os started H enc)

end Go.Proofs.Ytokljfeoignbcaa
