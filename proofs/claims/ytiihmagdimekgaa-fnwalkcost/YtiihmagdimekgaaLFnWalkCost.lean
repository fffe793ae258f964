/-
  FnWalkCost answers true at every input: what a walk costs is what its pieces cost. No condition.
-/
import Derived.Test.YtiihmagdimekgaaDrawWalkCost
import Derived.Test.YtiihmagdimekgaaOpenB
import Derived.Test.YtiihmagdimekgaaCut2
import Derived.Test.YtiihmagdimekgaaQPast
import Derived.Test.YtiihmagdimekgaaForm2
namespace Go.Proofs.Ytiihmagdimekgaa
open Go.ChangeShapes Go.WideShapes Go.ChangeAt Go.RowKit

set_option maxRecDepth 100000 in
set_option maxHeartbeats 2000000 in
theorem fnWalkCost_walk (A : Option Addr) (n c : Nat) (A2 : Option Addr) (n2 c2 : Nat) (w : World) (hn : n ≤ c) (hc : c ≤ maxLen) (hb : BytesAt w A n) (_hn2 : n2 ≤ c2) (_hc2 : c2 ≤ maxLen) (_hb2 : BytesAt w A2 n2) :
    Calls Try.prog 12 #[.slice A n c, .slice A2 n2 c2] w fun e w' => e = .returned (.bool true) ∧ Below w.heap.size w w' := by
  by_cases h1 : 1048576 < n
  · have h1' : (1048576 : Int) < (n : Int) := by omega
    go_enter Try.func12, Try.ntmps12
    go_wp2
    go_ret
    exact ⟨rfl, Below.refl _ _⟩
  have h1' : ¬ (1048576 : Int) < (n : Int) := by omega
  by_cases h2 : 1048576 < n2
  · have h2' : (1048576 : Int) < (n2 : Int) := by omega
    go_enter Try.func12, Try.ntmps12
    go_wp2
    go_ret
    exact ⟨rfl, Below.refl _ _⟩
  have h2' : ¬ (1048576 : Int) < (n2 : Int) := by omega
  go_enter Try.func12, Try.ntmps12
  go_wp2_with fail
  refine (drawWalkCost_any A n c w hn hc hb).mono ?_
  rintro e w1 ⟨m, B, k, cap, xs, v, zs, rfl, hxk, hk, hx1, _, hzl, hv, hb1⟩
  obtain ⟨D, cd, rfl, hi1, hLc, hcm, hD⟩ := hv.form2
  obtain ⟨L, hL⟩ : ∃ L, L = zs.length := ⟨_, rfl⟩
  rw [← hL] at hzl hLc hD ⊢
  have HL := Lib.hid hL
  have HX := Lib.hid hxk
  clear hL hxk hv
  have hpW : Past w1 (w1.alloc (.cells #[.int .i64 m, .slice B k cap] 29)) := (Past.refl w1).alloc _
  go_wp2_with fail
  refine (implWalkCost_any m B D k cap L cd xs zs _ (by omega) (by omega) HX.out HL.out.symm (hx1.below hpW) (hi1.below hpW)).mono ?_
  rintro e w2 ⟨rfl, hb2⟩
  have b0 := cell_in (p := ⟨w1.heap.size, 0, none⟩) (v := .int .i64 m) hb2 (by go_simp)
  have b1 := cell_in (p := ⟨w1.heap.size, 1, none⟩) (v := .slice B k cap) hb2 (by go_simp)
  have hx2 := (hx1.below hpW).below hb2
  have hi2 := (hi1.below hpW).below hb2
  have hbw2 : Past w w2 := Past.trans hb1 (hpW.trans hb2)
  obtain ⟨C, hC⟩ : ∃ C, C = costI m xs zs := ⟨_, rfl⟩
  rw [← hC]
  have HC := Lib.hid hC
  clear hb1 hpW hb2 hx1 hi1 hC
  cases hO : okB m xs zs with
  | false =>
    have HO := Lib.hid hO
    have hneg : C < 0 := by rw [HC.out, costI, hO]; simp
    clear hO
    go_wp2_with fail
    refine (specWalkCost_any m B D k cap L cd xs zs _ (by omega) (by omega) HX.out HL.out.symm hx2 hi2).mono ?_
    rintro e w3 ⟨rfl, hb3⟩
    have b0 := cell_in hb3 b0
    have b1 := cell_in hb3 b1
    rw [← HC.out]
    go_wp2_with fail
    refine (specWalkCost_any m B D k cap L cd xs zs _ (by omega) (by omega) HX.out HL.out.symm (hx2.below hb3) (hi2.below hb3)).mono ?_
    rintro e w4 ⟨rfl, hb4⟩
    rw [← HC.out]
    have b0 := cell_in hb4 b0
    have b1 := cell_in hb4 b1
    go_wp2_with fail
    refine (implWalkOk_any m B D k cap L cd xs zs _ (by omega) (by omega) HX.out HL.out.symm ((hx2.below hb3).below hb4) ((hi2.below hb3).below hb4)).mono ?_
    rintro e w5 ⟨rfl, hb5⟩
    rw [HO.out]
    go_wp2
    go_ret
    exact ⟨rfl, (hbw2.trans (Past.trans hb3 hb4)).trans hb5⟩
  | true =>
    have HO := Lib.hid hO
    have hneg : ¬ C < 0 := by have := cost_bd hO; rw [HC.out]; omega
    clear hO
    go_wp2_with fail
    refine (specWalkCost_any m B D k cap L cd xs zs _ (by omega) (by omega) HX.out HL.out.symm hx2 hi2).mono ?_
    rintro e w3 ⟨rfl, hb3⟩
    have b0 := cell_in hb3 b0
    have b1 := cell_in hb3 b1
    rw [← HC.out]
    obtain ⟨K, hK⟩ : ∃ K, K = n2 % (L + 1) := ⟨_, rfl⟩
    have hKL : K ≤ L := by rw [hK]; have := Nat.mod_lt n2 (show 0 < L + 1 by omega); omega
    have t0 : IntKind.i64.wrap ((L : Int) + 1) = (L : Int) + 1 := IntWalk.i64_in _ (by omega)
    have t1 : ((n2 : Int)).tmod ((L : Int) + 1) = (K : Int) := by rw [hK]; exact_mod_cast (Int.ofNat_tmod n2 (L + 1)).symm
    have t2 : ((n2 : Int)) % ((L : Int) + 1) = (K : Int) := by rw [hK]; norm_cast
    have t3 : ((L : Int) + 1) ≠ 0 := by omega
    have HK := Lib.hid hK
    have t5 : ¬ ((L : Int) + 1 = 0) := by omega
    have t4 : (((L : Int) + 1) == 0) = false := by simp; omega
    have t6 : (0 : Int) < (L : Int) + 1 := by omega
    clear hK hcm _hc2 hc hn _hn2 hb
    have hx3 := hx2.below hb3
    have hi3 := hi2.below hb3
    have hbw3 := hbw2.trans hb3
    have u0 : (0 : Int) ≤ (K : Int) := by omega
    have u1 : (K : Int) ≤ (cd : Int) := by omega
    have u2 : (K : Int) ≤ (L : Int) := by omega
    have u3 : (L : Int) ≤ (cd : Int) := by omega
    obtain ⟨S, hS⟩ : ∃ S, S = costI m xs (zs.take K) := ⟨_, rfl⟩
    obtain ⟨T, hT⟩ : ∃ T, T = costI m xs (zs.drop K) := ⟨_, rfl⟩
    have hST : IntKind.i64.wrap (S + T) = C := by
      have h1 := cost_cut HO.out (K := K) (by rw [← HL.out]; exact hKL)
      have h2 := cost_bd HO.out
      rw [← hS, ← hT, ← HC.out] at h1
      rw [← HC.out] at h2
      rw [IntWalk.i64_in _ (by omega)]
      exact h1
    have OT := Lib.hid hS
    have OD := Lib.hid hT
    clear hS hT
    have LT : Hid ((zs.take K).length = K) := by rw [Hid, List.length_take, ← HL.out]; omega
    have LD : Hid ((zs.drop K).length = L - K) := by rw [Hid, List.length_drop, ← HL.out]
    have C0 := Lib.hid (fun q : PastOf w3 => (implWalkOk_any m B D k cap L cd xs zs q.W (by omega) (by omega) HX.out HL.out.symm (hx3.below q.h) (hi3.below q.h)))
    rw [HO.out] at C0
    have B0 := past_cell b0
    have B1 := past_cell b1
    rcases hD with ⟨rfl, hL0, hc0⟩ | ⟨g, rfl⟩
    · obtain rfl : K = 0 := by omega
      subst hc0
      have hzs : zs = [] := List.eq_nil_of_length_eq_zero (by rw [← HL.out]; exact hL0)
      subst hL0
      have it : IntsAt w3 none (zs.take 0) := fun j x hj => by simp at hj
      have id : IntsAt w3 none (zs.drop 0) := fun j x hj => by rw [hzs] at hj; simp at hj
      have LD0 : Hid ((zs.drop 0).length = 0) := by rw [Hid, hzs]; rfl
      have C1 := Lib.hid (fun q : PastOf w3 => (implWalkCost_any m B none k cap 0 0 xs (zs.take 0) q.W (by omega) (by omega) HX.out LT.out (hx3.below q.h) (it.below q.h)))
      have C2 := Lib.hid (fun q : PastOf w3 => (implWalkCost_any m B none k cap 0 0 xs (zs.drop 0) q.W (by omega) (by omega) HX.out LD0.out (hx3.below q.h) (id.below q.h)))
      rw [← OT.out] at C1
      rw [← OD.out] at C2
      clear hzs it id
      go_wp2_with fail
      refine wp_region_past (by kernel_rfl) (by kernel_rfl) ?_
      repeat (quiet_step (with_reducible exact rfl))
      quiet_step ((go_at_call 31; exact past_call (C0.out _)))
      repeat (quiet_step (with_reducible exact rfl))
      quiet_step ((go_at_call 33; exact past_call (C1.out _)))
      repeat (quiet_step (with_reducible exact rfl))
      quiet_step ((go_at_call 33; exact past_call (C2.out _)))
      repeat (quiet_step (with_reducible exact rfl))
      refine wpQuiet_nil ?_
      rintro _ ⟨⟨W8, hW8⟩, rfl⟩
      go_wp2
      go_ret
      exact ⟨rfl, hbw3.trans hW8⟩
    · have it : IntsAt w3 (some ⟨g, 0, none⟩) (zs.take K) := fun j x hj => hi3 j x (by rw [List.getElem?_take] at hj; split at hj; exact hj; cases hj)
      have C1 := Lib.hid (fun q : PastOf w3 => (implWalkCost_any m B (some ⟨g, 0, none⟩) k cap K cd xs (zs.take K) q.W (by omega) (by omega) HX.out LT.out (hx3.below q.h) (it.below q.h)))
      rw [← OT.out] at C1
      by_cases hcK : cd = K
      · have hLK : L - K = 0 := by omega
        have id : IntsAt w3 (some ⟨g, 0, none⟩) (zs.drop K) := fun j x hj => by
          rw [List.getElem?_drop] at hj
          have hlt := (List.getElem?_eq_some_iff.1 hj).1
          rw [← HL.out] at hlt
          omega
        have LDz : Hid ((zs.drop K).length = 0) := by rw [Hid, LD.out, hLK]
        have C2 := Lib.hid (fun (q : PastOf w3) (cc : Nat) => (implWalkCost_any m B (some ⟨g, 0, none⟩) k cap 0 cc xs (zs.drop K) q.W (by omega) (by omega) HX.out LDz.out (hx3.below q.h) (id.below q.h)))
        rw [← OD.out] at C2
        subst hcK
        clear hLK id it
        go_wp2_with fail
        refine wp_region_past (by kernel_rfl) (by kernel_rfl) ?_
        repeat (quiet_step (with_reducible exact rfl))
        quiet_step ((go_at_call 31; exact past_call (C0.out _)))
        repeat (quiet_step (with_reducible exact rfl))
        quiet_step ((go_at_call 33; exact past_call (C1.out _)))
        repeat (quiet_step (with_reducible exact rfl))
        quiet_step ((go_at_call 33; exact past_call (C2.out _ _)))
        repeat (quiet_step (with_reducible exact rfl))
        refine wpQuiet_nil ?_
        rintro _ ⟨⟨W8, hW8⟩, rfl⟩
        go_wp2
        go_ret
        exact ⟨rfl, hbw3.trans hW8⟩
      · have id : IntsAt w3 (some ⟨g, K, none⟩) (zs.drop K) := fun j x hj => by
          rw [List.getElem?_drop] at hj
          obtain ⟨g', o', e, hcell⟩ := hi3 (K + j) x hj
          injection e with e
          injection e with e1 e2
          subst e1 e2
          exact ⟨g, K, rfl, by rw [Nat.zero_add] at hcell; exact hcell⟩
        have C2 := Lib.hid (fun (q : PastOf w3) (cc : Nat) => (implWalkCost_any m B (some ⟨g, K, none⟩) k cap (L - K) cc xs (zs.drop K) q.W (by omega) (by omega) HX.out LD.out (hx3.below q.h) (id.below q.h)))
        rw [← OD.out] at C2
        clear id it
        go_wp2_with fail
        refine wp_region_past (by kernel_rfl) (by kernel_rfl) ?_
        repeat (quiet_step (with_reducible exact rfl))
        quiet_step ((go_at_call 31; exact past_call (C0.out _)))
        repeat (quiet_step (with_reducible exact rfl))
        quiet_step ((go_at_call 33; exact past_call (C1.out _)))
        repeat (quiet_step (with_reducible exact rfl))
        quiet_step ((go_at_call 33; exact past_call (C2.out _ _)))
        repeat (quiet_step (with_reducible exact rfl))
        refine wpQuiet_nil ?_
        rintro _ ⟨⟨W8, hW8⟩, rfl⟩
        go_wp2
        go_ret
        exact ⟨rfl, hbw3.trans hW8⟩

set_option maxRecDepth 100000 in
theorem fnWalkCost_lifted (os : Os) (started : os.Started) (H : Type) (enc : TypeId × Value → H) :
    ReturnsInHanded {} Try.checked os 12 .any (Rows.fnWalkCostSpec.pre6 enc Try.prog Try.f12 Rows.fnWalkCostRow.domain false) (Rows.fnWalkCostSpec.post enc Try.prog Try.f12 false true false false) := by
  refine returnsInHanded_of_change (C := Try.checked) own started (by kernel_rfl) Try.func12
    (ChangeSpec.witness6 (enc := enc) (C := Try.checked) false ⟨#[], #[.slice none 0 0, .slice none 0 0], []⟩ 8 (by kernel_rfl) (by kernel_rfl) (by kernel_rfl) (by kernel_rfl)) ?_
  intro W base args ds gs before hval0 hW hcnd _
  have hval : ∀ (j : Nat) t v, Try.f12.params[j]? = some t → args[j]? = some v → Value.okWide Try.prog W .any base t v := hval0
  have hW' := hW
  obtain ⟨p, q, hA0, hV, rfl, hfz, hnd⟩ := hW
  have hA : DataW.TrodAll enc Try.prog W 0 (fun _ => true) true Try.f12.params.toList args.toList ds p := hA0
  rw [Try.params12] at hA hval
  obtain ⟨v0, vs0, d0, ds0, p0, q0, hargs, rfl, rfl, h0, r0⟩ := trodAll_cons hA
  obtain ⟨v1, vs1, d1, ds1, p1, q1, rfl, rfl, rfl, h1, r1⟩ := trodAll_cons r0
  obtain ⟨rfl, rfl, rfl⟩ := trodAll_nil r1
  obtain rfl : args = #[v0, v1] := by cases args; simp_all
  obtain ⟨rfl, rfl⟩ := trodVars_none hV
  have k0 := h0
  have lt0 := places_lt k0
  have k1 := h1
  have lt1 := places_lt k1
  obtain ⟨A0, n0, c0, rfl, hn0, hc0, hb0⟩ := open_bytes (hval 0 48 v0 rfl rfl) h0
  obtain ⟨A1, n1, c1, rfl, hn1, hc1, hb1⟩ := open_bytes (hval 1 48 v1 rfl rfl) h1
  clear hA0 hval0
  refine (fnWalkCost_walk A0 n0 c0 A1 n1 c1 W hn0 hc0 hb0 hn1 hc1 hb1).mono fun e W' ⟨he, bel⟩ => ?_
  subst he
  exact ⟨_, rfl, _, _, _, [], _, [], hW', trodAll_mk1 (shut_bool Try.underlying4 _), (trodAll_cons_mk (Below.trod laidOut (by kernel_rfl) (of_decide_eq_true (by kernel_rfl)) k0 bel lt0) (trodAll_cons_mk (Below.trod laidOut (by kernel_rfl) (of_decide_eq_true (by kernel_rfl)) k1 bel lt1) trodAll_mk0)), rfl, bel.frame _, fun h => by cases h⟩

/-- The given statement. -/
theorem fnWalkCost_proved : Rows.FnWalkCostSaid :=
  OpenClaim.holds_of_wide 12 Try.f12 rfl rfl rfl rfl rfl rfl rfl ⟨rfl, rfl, rfl, rfl, rfl⟩ rfl rfl rfl rfl rfl (by kernel_rfl) Try.func12 (by kernel_rfl)
    (of_decide_eq_true (by kernel_rfl)) (by unfold Func.isWrapper; first | (rw [if_pos (by decide +kernel)]; kernel_rfl) | (rw [if_neg (by decide +kernel)]; exact ⟨rfl, rfl⟩))
    (fun os started H enc _ => fnWalkCost_lifted os started H enc)

end Go.Proofs.Ytiihmagdimekgaa
