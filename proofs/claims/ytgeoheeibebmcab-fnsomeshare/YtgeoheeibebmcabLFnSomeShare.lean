/-
  FnSomeShare answers true at every input: a walk shares with itself all of it, with none nothing, and as much as its pieces do. No condition.
-/
import Derived.Test.YtgeoheeibebmcabDrawSomeShare
import Derived.Test.YtgeoheeibebmcabOpenB
import Derived.Test.YtgeoheeibebmcabSShare
import Derived.Test.YtgeoheeibebmcabPShare2
import Derived.Test.YtgeoheeibebmcabQPast
namespace Go.Proofs.Ytgeoheeibebmcab
open Go.ChangeShapes Go.WideShapes Go.ChangeAt Go.RowKit

set_option maxRecDepth 100000 in
set_option maxHeartbeats 4000000 in
theorem fnSomeShare_walk (A : Option Addr) (n c : Nat) (A2 : Option Addr) (n2 c2 : Nat) (w : World) (hn : n ≤ c) (hc : c ≤ maxLen) (hb : BytesAt w A n) (_hn2 : n2 ≤ c2) (_hc2 : c2 ≤ maxLen) (_hb2 : BytesAt w A2 n2) :
    Calls Try.prog 11 #[.slice A n c, .slice A2 n2 c2] w fun e w' => e = .returned (.bool true) ∧ Below w.heap.size w w' := by
  by_cases h1 : 1048576 < n
  · have h1' : (1048576 : Int) < (n : Int) := by omega
    go_enter Try.func11, Try.ntmps11
    go_wp2
    go_ret
    exact ⟨rfl, Below.refl _ _⟩
  have h1' : ¬ (1048576 : Int) < (n : Int) := by omega
  by_cases h2 : 1048576 < n2
  · have h2' : (1048576 : Int) < (n2 : Int) := by omega
    go_enter Try.func11, Try.ntmps11
    go_wp2
    go_ret
    exact ⟨rfl, Below.refl _ _⟩
  have h2' : ¬ (1048576 : Int) < (n2 : Int) := by omega
  go_enter Try.func11, Try.ntmps11
  go_wp2_with fail
  refine (drawSomeShare_any A n c w hn hc hb).mono ?_
  rintro e w1 ⟨m, B, k, cap, xs, va, zs, vb, zb, rfl, hxk, hk, hx1, hzl, hva, hna, hbl, hvb, hnb, hb1⟩
  obtain ⟨g, cd, rfl, hi1, hLc, hcm⟩ := hna.form hva
  obtain ⟨gb, cb, rfl, hj1, _, _⟩ := hnb.form hvb
  obtain ⟨L, hL⟩ : ∃ L, L = zs.length := ⟨_, rfl⟩
  obtain ⟨J, hJ⟩ : ∃ J, J = zb.length := ⟨_, rfl⟩
  rw [← hL] at hzl hLc ⊢
  rw [← hJ] at hbl ⊢
  have HL := Lib.hid hL
  have HJ := Lib.hid hJ
  have HX := Lib.hid hxk
  clear hL hJ hxk hva hvb hna hnb
  have hpW : Past w1 (w1.alloc (.cells #[.int .i64 m, .slice B k cap] 25)) := (Past.refl w1).alloc _
  go_wp2_with fail
  refine (implSomeShare_any m B k cap xs _ L cd zs _ J cb zb _ (by omega) HX.out (hx1.below hpW) (by omega) HL.out.symm (hi1.below hpW) (by omega) HJ.out.symm (hj1.below hpW)).mono ?_
  rintro e w2 ⟨rfl, hb2⟩
  have b0 := cell_in (p := ⟨w1.heap.size, 0, none⟩) (v := .int .i64 m) hb2 (by go_simp)
  have b1 := cell_in (p := ⟨w1.heap.size, 1, none⟩) (v := .slice B k cap) hb2 (by go_simp)
  have hx2 := (hx1.below hpW).below hb2
  have hi2 := (hi1.below hpW).below hb2
  have hj2 := (hj1.below hpW).below hb2
  have hbw2 : Past w w2 := Past.trans hb1 (hpW.trans hb2)
  obtain ⟨C, hC⟩ : ∃ C, C = shareI m xs zs zb := ⟨_, rfl⟩
  rw [← hC]
  have HC := Lib.hid hC
  clear hb1 hpW hb2 hx1 hi1 hj1 hC
  go_wp2_with fail
  refine (specSomeShare_any m B k cap xs _ L cd zs _ J cb zb _ (by omega) HX.out hx2 (by omega) HL.out.symm hi2 (by omega) HJ.out.symm hj2).mono ?_
  rintro e w3 ⟨rfl, hb3⟩
  rw [← HC.out]
  have b0 := cell_in hb3 b0
  have b1 := cell_in hb3 b1
  have hx3 := hx2.below hb3
  have hi3 := hi2.below hb3
  have hj3 := hj2.below hb3
  have hbw3 := hbw2.trans hb3
  clear hx2 hi2 hj2 hb3 hbw2
  cases hO : (okB m xs zs && okB m xs zb) with
  | false =>
    obtain rfl : C = -1 := by rw [HC.out, shareI, hO]; rfl
    clear hO
    go_wp2_with fail
    refine (specSomeShare_any m B k cap xs _ L cd zs _ J cb zb _ (by omega) HX.out hx3 (by omega) HL.out.symm hi3 (by omega) HJ.out.symm hj3).mono ?_
    rintro e w4 ⟨rfl, hb4⟩
    rw [← HC.out]
    go_wp2
    go_ret
    exact ⟨rfl, hbw3.trans hb4⟩
  | true =>
    simp only [Bool.and_eq_true] at hO
    obtain ⟨hOa, hOb⟩ := hO
    have hcd := shareTo_bd (zs := zb) hOa zs.length (Nat.le_refl _)
    have hcl := shareTo_le (zs := zb) hOa zs.length (Nat.le_refl _)
    have hcs := sumTo_bd hOa zs.length (Nat.le_refl _)
    have hl20 := ok_len hOa
    have hCe : C = shareTo xs zs zb zs.length := by rw [HC.out, shareI, hOa, hOb]; rfl
    rw [← hCe] at hcd hcl
    obtain ⟨S0, hS0⟩ : ∃ S0, S0 = costI m xs zs := ⟨_, rfl⟩
    have hS0e : S0 = sumTo xs zs zs.length := by rw [hS0, costI, hOa, if_pos rfl]
    rw [← hS0e] at hcl hcs
    have hself : shareI m xs zs zs = S0 := by rw [hS0e, shareI, hOa, shareTo_self _ (Nat.le_refl _)]; rfl
    have hnil : shareI m xs zs [] = 0 := by rw [shareI, hOa, ok_nil hOa, shareTo_nil]; rfl
    have hneg : ¬ C < 0 := by omega
    have gle : decide (C ≤ S0) = true := decide_eq_true hcl
    obtain ⟨K, hK⟩ : ∃ K, K = n2 % (L + 1) := ⟨_, rfl⟩
    have hKL : K ≤ L := by rw [hK]; have := Nat.mod_lt n2 (show 0 < L + 1 by omega); omega
    have t0 : IntKind.i64.wrap ((L : Int) + 1) = (L : Int) + 1 := IntWalk.i64_in _ (by omega)
    have t1 : ((n2 : Int)).tmod ((L : Int) + 1) = (K : Int) := by rw [hK]; exact_mod_cast (Int.ofNat_tmod n2 (L + 1)).symm
    have t2 : ((n2 : Int)) % ((L : Int) + 1) = (K : Int) := by rw [hK]; norm_cast
    have t3 : ((L : Int) + 1) ≠ 0 := by omega
    have t5 : ¬ ((L : Int) + 1 = 0) := by omega
    have t4 : (((L : Int) + 1) == 0) = false := by simp; omega
    have t6 : (0 : Int) < (L : Int) + 1 := by omega
    have u0 : (0 : Int) ≤ (K : Int) := by omega
    have u1 : (K : Int) ≤ (cd : Int) := by omega
    have u2 : (K : Int) ≤ (L : Int) := by omega
    have u3 : (L : Int) ≤ (cd : Int) := by omega
    obtain ⟨S, hS⟩ : ∃ S, S = shareI m xs (zs.take K) zb := ⟨_, rfl⟩
    obtain ⟨T, hT⟩ : ∃ T, T = shareI m xs (zs.drop K) zb := ⟨_, rfl⟩
    have hST : IntKind.i64.wrap (S + T) = C := by
      have h1 := share_cut hOa hOb (K := K) (by rw [← HL.out]; exact hKL)
      rw [← hS, ← hT, ← HC.out] at h1
      rw [IntWalk.i64_in _ (by omega)]
      exact h1
    have OT := Lib.hid hS
    have OD := Lib.hid hT
    have LT : Hid ((zs.take K).length = K) := by rw [Hid, List.length_take, ← HL.out]; omega
    have LD : Hid ((zs.drop K).length = L - K) := by rw [Hid, List.length_drop, ← HL.out]
    have it : IntsAt w3 (some ⟨g, 0, none⟩) (zs.take K) := fun j x hj => hi3 j x (by rw [List.getElem?_take] at hj; split at hj; exact hj; cases hj)
    have C1 := Lib.hid (fun q : PastOf w3 => implWalkCost_any m B (some ⟨g, 0, none⟩) k cap L cd xs zs q.W (by omega) (by omega) HX.out HL.out.symm (hx3.below q.h) (hi3.below q.h))
    rw [← hS0] at C1
    have C2 := Lib.hid (fun q : PastOf w3 => implSomeShare_any m B k cap xs (some ⟨g, 0, none⟩) L cd zs (some ⟨g, 0, none⟩) L cd zs q.W (by omega) HX.out (hx3.below q.h) (by omega) HL.out.symm (hi3.below q.h) (by omega) HL.out.symm (hi3.below q.h))
    rw [hself] at C2
    have C3 := Lib.hid (fun q : PastOf w3 => implSomeShare_any m B k cap xs (some ⟨g, 0, none⟩) K cd (zs.take K) (some ⟨gb, 0, none⟩) J cb zb q.W (by omega) HX.out (hx3.below q.h) (by omega) LT.out (it.below q.h) (by omega) HJ.out.symm (hj3.below q.h))
    rw [← hS] at C3
    have C5 := Lib.hid (fun q : PastOf w3 => implSomeShare_any m B k cap xs (some ⟨g, 0, none⟩) L cd zs none 0 0 [] q.W (by omega) HX.out (hx3.below q.h) (by omega) HL.out.symm (hi3.below q.h) (by omega) rfl (fun j x hj => by simp at hj))
    rw [hnil] at C5
    have B0 := past_cell b0
    have B1 := past_cell b1
    by_cases hcK : cd = K
    · have hLK : L - K = 0 := by omega
      have id : IntsAt w3 (some ⟨g, 0, none⟩) (zs.drop K) := fun j x hj => by
        rw [List.getElem?_drop] at hj
        have hlt := (List.getElem?_eq_some_iff.1 hj).1
        rw [← HL.out] at hlt
        omega
      have LDz : Hid ((zs.drop K).length = 0) := by rw [Hid, LD.out, hLK]
      have C4 := Lib.hid (fun (q : PastOf w3) (cc : Nat) => implSomeShare_any m B k cap xs (some ⟨g, 0, none⟩) 0 cc (zs.drop K) (some ⟨gb, 0, none⟩) J cb zb q.W (by omega) HX.out (hx3.below q.h) (by omega) LDz.out (id.below q.h) (by omega) HJ.out.symm (hj3.below q.h))
      rw [← hT] at C4
      clear hK hcm _hc2 hc hn _hn2 hb hS hT hS0 hS0e hself hnil hCe hOa hOb hcd hcs hLK id it b0 b1 hx3 hi3 hj3
      subst hcK
      go_wp2_with fail
      refine wp_region_past (by kernel_rfl) (by kernel_rfl) ?_
      repeat (go_big_quiet_step (with_reducible exact rfl))
      go_big_quiet_step ((go_at_call 45; exact past_call (C1.out _)))
      repeat (go_big_quiet_step (with_reducible exact rfl))
      go_big_quiet_step ((go_at_call 43; exact past_call (C2.out _)))
      repeat (go_big_quiet_step (with_reducible exact rfl))
      go_big_quiet_step ((go_at_call 45; exact past_call (C1.out _)))
      repeat (go_big_quiet_step (with_reducible exact rfl))
      go_big_quiet_step ((go_at_call 43; exact past_call (C3.out _)))
      repeat (go_big_quiet_step (with_reducible exact rfl))
      go_big_quiet_step ((go_at_call 43; exact past_call (C4.out _ _)))
      repeat (go_big_quiet_step (with_reducible exact rfl))
      go_big_quiet_step ((go_at_call 43; exact past_call (C5.out _)))
      repeat (go_big_quiet_step (with_reducible exact rfl))
      refine wpQuiet_nil ?_
      rintro _ ⟨⟨W8, hW8⟩, rfl⟩
      go_wp2
      go_ret
      exact ⟨by simp, hbw3.trans hW8⟩
    · have id : IntsAt w3 (some ⟨g, K, none⟩) (zs.drop K) := fun j x hj => by
        rw [List.getElem?_drop] at hj
        obtain ⟨g', o', e, hcell⟩ := hi3 (K + j) x hj
        injection e with e
        injection e with e1 e2
        subst e1 e2
        exact ⟨g, K, rfl, by rw [Nat.zero_add] at hcell; exact hcell⟩
      have C4 := Lib.hid (fun (q : PastOf w3) (cc : Nat) => implSomeShare_any m B k cap xs (some ⟨g, K, none⟩) (L - K) cc (zs.drop K) (some ⟨gb, 0, none⟩) J cb zb q.W (by omega) HX.out (hx3.below q.h) (by omega) LD.out (id.below q.h) (by omega) HJ.out.symm (hj3.below q.h))
      rw [← hT] at C4
      clear hK hcm _hc2 hc hn _hn2 hb hS hT hS0 hS0e hself hnil hCe hOa hOb hcd hcs id it b0 b1 hx3 hi3 hj3
      go_wp2_with fail
      refine wp_region_past (by kernel_rfl) (by kernel_rfl) ?_
      repeat (go_big_quiet_step (with_reducible exact rfl))
      go_big_quiet_step ((go_at_call 45; exact past_call (C1.out _)))
      repeat (go_big_quiet_step (with_reducible exact rfl))
      go_big_quiet_step ((go_at_call 43; exact past_call (C2.out _)))
      repeat (go_big_quiet_step (with_reducible exact rfl))
      go_big_quiet_step ((go_at_call 45; exact past_call (C1.out _)))
      repeat (go_big_quiet_step (with_reducible exact rfl))
      go_big_quiet_step ((go_at_call 43; exact past_call (C3.out _)))
      repeat (go_big_quiet_step (with_reducible exact rfl))
      go_big_quiet_step ((go_at_call 43; exact past_call (C4.out _ _)))
      repeat (go_big_quiet_step (with_reducible exact rfl))
      go_big_quiet_step ((go_at_call 43; exact past_call (C5.out _)))
      repeat (go_big_quiet_step (with_reducible exact rfl))
      refine wpQuiet_nil ?_
      rintro _ ⟨⟨W8, hW8⟩, rfl⟩
      go_wp2
      go_ret
      exact ⟨by simp, hbw3.trans hW8⟩

set_option maxRecDepth 100000 in
theorem fnSomeShare_lifted (os : Os) (started : os.Started) (H : Type) (enc : TypeId × Value → H) :
    ReturnsInHanded {} Try.checked os 11 .any (Rows.fnSomeShareSpec.pre6 enc Try.prog Try.f11 Rows.fnSomeShareRow.domain false) (Rows.fnSomeShareSpec.post enc Try.prog Try.f11 false true false false) := by
  refine returnsInHanded_of_change (C := Try.checked) own started (by kernel_rfl) Try.func11
    (ChangeSpec.witness6 (enc := enc) (C := Try.checked) false ⟨#[], #[.slice none 0 0, .slice none 0 0], []⟩ 8 (by kernel_rfl) (by kernel_rfl) (by kernel_rfl) (by kernel_rfl)) ?_
  intro W base args ds gs before hval0 hW hcnd _
  have hval : ∀ (j : Nat) t v, Try.f11.params[j]? = some t → args[j]? = some v → Value.okWide Try.prog W .any base t v := hval0
  have hW' := hW
  obtain ⟨p, q, hA0, hV, rfl, hfz, hnd⟩ := hW
  have hA : DataW.TrodAll enc Try.prog W 0 (fun _ => true) true Try.f11.params.toList args.toList ds p := hA0
  rw [Try.params11] at hA hval
  obtain ⟨v0, vs0, d0, ds0, p0, q0, hargs, rfl, rfl, h0, r0⟩ := trodAll_cons hA
  obtain ⟨v1, vs1, d1, ds1, p1, q1, rfl, rfl, rfl, h1, r1⟩ := trodAll_cons r0
  obtain ⟨rfl, rfl, rfl⟩ := trodAll_nil r1
  obtain rfl : args = #[v0, v1] := by cases args; simp_all
  obtain ⟨rfl, rfl⟩ := trodVars_none hV
  have k0 := h0
  have lt0 := places_lt k0
  have k1 := h1
  have lt1 := places_lt k1
  obtain ⟨A0, n0, c0, rfl, hn0, hc0, hb0⟩ := open_bytes (hval 0 22 v0 rfl rfl) h0
  obtain ⟨A1, n1, c1, rfl, hn1, hc1, hb1⟩ := open_bytes (hval 1 22 v1 rfl rfl) h1
  clear hA0 hval0
  refine (fnSomeShare_walk A0 n0 c0 A1 n1 c1 W hn0 hc0 hb0 hn1 hc1 hb1).mono fun e W' ⟨he, bel⟩ => ?_
  subst he
  exact ⟨_, rfl, _, _, _, [], _, [], hW', trodAll_mk1 (shut_bool Try.underlying4 _), (trodAll_cons_mk (Below.trod laidOut (by kernel_rfl) (of_decide_eq_true (by kernel_rfl)) k0 bel lt0) (trodAll_cons_mk (Below.trod laidOut (by kernel_rfl) (of_decide_eq_true (by kernel_rfl)) k1 bel lt1) trodAll_mk0)), rfl, bel.frame _, fun h => by cases h⟩

/-- The given statement. -/
theorem fnSomeShare_proved : Rows.FnSomeShareSaid :=
  OpenClaim.holds_of_wide 11 Try.f11 rfl rfl rfl rfl rfl rfl rfl ⟨rfl, rfl, rfl, rfl, rfl⟩ rfl rfl rfl rfl rfl (by kernel_rfl) Try.func11 (by kernel_rfl)
    (of_decide_eq_true (by kernel_rfl)) (by unfold Func.isWrapper; first | (rw [if_pos (by decide +kernel)]; kernel_rfl) | (rw [if_neg (by decide +kernel)]; exact ⟨rfl, rfl⟩))
    (fun os started H enc _ => fnSomeShare_lifted os started H enc)

end Go.Proofs.Ytgeoheeibebmcab
