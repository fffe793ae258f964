/-
  FnCostOf answers true at every input: costs and tolls count as much as they are to count. No condition.
-/
import Derived.Test.YtkmognandkamoaaDrawCost
import Derived.Test.YtkmognandkamoaaOpenB
import Derived.Test.YtkmognandkamoaaCOf
import Derived.Test.YtkmognandkamoaaCNetI
import Derived.Test.YtkmognandkamoaaPCost2
import Derived.Test.YtkmognandkamoaaWkInts
namespace Go.Proofs.Ytkmognandkamoaa
open Go.ChangeShapes Go.WideShapes Go.ChangeAt Go.RowKit

set_option maxRecDepth 100000 in
set_option maxHeartbeats 4000000 in
theorem fnCostOf_walk (A : Option Addr) (n c : Nat) (w : World) (hn : n ≤ c) (hc : c ≤ maxLen) (hb : BytesAt w A n) :
    Calls Try.prog 11 #[.slice A n c] w fun e w' => e = .returned (.bool true) ∧ Below w.heap.size w w' := by
  by_cases h1 : 1048576 < n
  · have h1' : (1048576 : Int) < (n : Int) := by omega
    go_enter Try.func11, Try.ntmps11
    go_wp2
    go_ret
    exact ⟨rfl, Below.refl _ _⟩
  have h1' : ¬ (1048576 : Int) < (n : Int) := by omega
  go_enter Try.func11, Try.ntmps11
  go_wp2_with fail
  refine (drawCostOf_any A n c w hn hc hb).mono ?_
  rintro e w1 ⟨m, B, k, cap, xs, p, q, rfl, hxk, hk, hx1, hform, hpm, hqm, hb1⟩
  have hp : 0 ≤ p := by simp at hpm; omega
  have hq : q ≤ 100 := by simp at hqm; omega
  have HX := Lib.hid hxk
  clear hxk hb hn hc hpm hqm
  have hkk : k ≤ 1048576 := by omega
  have hpW : Past w1 (w1.alloc (.cells #[.int .i64 m, .slice B k cap] 29)) := (Past.refl w1).alloc _
  go_wp2_with fail
  refine (implCostOf_any m B k cap xs p q _ hkk HX.out (hx1.below hpW)).mono ?_
  rintro e w2 ⟨v2, rfl, hv2, hb2⟩
  have b0 := cell_in (p := ⟨w1.heap.size, 0, none⟩) (v := .int .i64 m) hb2 (by go_simp)
  have b1 := cell_in (p := ⟨w1.heap.size, 1, none⟩) (v := .slice B k cap) hb2 (by go_simp)
  have hx2 := (hx1.below hpW).below hb2
  have hp2 : Past w w2 := Past.trans hb1 (hpW.trans hb2)
  obtain ⟨X, cx, rfl, hs2, _⟩ := hv2.form
  obtain ⟨ps, hps⟩ : ∃ ps, ps = costOfI m xs p q := ⟨_, rfl⟩
  rw [← hps] at hs2 ⊢
  obtain ⟨R, hR⟩ : ∃ R, R = ps.length := ⟨_, rfl⟩
  have hR1 : R ≤ 1048576 := by rw [hR, hps]; exact costOfI_len m xs p q
  rw [← hR]
  have HPS := Lib.hid hps
  have HR := Lib.hid hR.symm
  clear hps hR hv2 hx1 hb1 hb2 hpW
  go_wp2_with fail
  refine (specCostOf_any m B k cap xs p q _ hkk HX.out hx2).mono ?_
  rintro e w3 ⟨v3, rfl, hv3, hb3⟩
  obtain ⟨F, cf, rfl, hs3, _⟩ := hv3.form
  rw [← HPS.out] at hs3 ⊢
  rw [HR.out]
  have b0 := cell_in hb3 b0
  have b1 := cell_in hb3 b1
  have hx3 := hx2.below hb3
  have hs23 := hs2.below hb3
  have hp3 := Past.trans hp2 hb3
  clear hv3 hx2 hs2 hb3 hp2
  go_wp2_with fail
  refine (wkInts_same X F R cx cf ps _ hR1 HR.out hs23 hs3).mono ?_
  rintro e w4 ⟨rfl, hb4⟩
  have b0 := cell_in hb4 b0
  have b1 := cell_in hb4 b1
  have hx4 := hx3.below hb4
  have hs4 := hs23.below hb4
  have hp4 := Past.trans hp3 hb4
  clear hx3 hs23 hs3 hb4 hp3
  go_wp2_with fail
  refine (implNetOk_any m B k cap xs _ hkk HX.out hx4).mono ?_
  rintro e w5 ⟨rfl, hb5⟩
  have b0 := cell_in hb5 b0
  have b1 := cell_in hb5 b1
  have hx5 := hx4.below hb5
  have hs5 := hs4.below hb5
  have hp5 := Past.trans hp4 hb5
  clear hx4 hs4 hb5 hp4
  by_cases hO : netB m xs = true ∧ p ≤ 100 ∧ 0 ≤ q
  rotate_left
  · have hend : ∀ (a : World), True := fun _ => trivial
    cases hN : netB m xs with
    | false =>
      clear hO hN
      go_wp2_with fail
      refine (specCostOf_any m B k cap xs p q _ hkk HX.out hx5).mono ?_
      rintro e w6 ⟨v6, rfl, hv6, hb6⟩
      obtain ⟨F, cf, rfl, hs6, _⟩ := hv6.form
      rw [← HPS.out] at hs6 ⊢
      rw [HR.out]
      go_wp2_with fail
      refine (wkInts_same X F R cx cf ps _ hR1 HR.out (hs5.below hb6) hs6).mono ?_
      rintro e w7 ⟨rfl, hb7⟩
      go_wp2
      go_ret
      exact ⟨rfl, (Past.trans hp5 hb6).trans hb7⟩
    | true =>
      by_cases hp1 : 100 < p
      · clear hO hN
        go_wp2_with fail
        refine (specCostOf_any m B k cap xs p q _ hkk HX.out hx5).mono ?_
        rintro e w6 ⟨v6, rfl, hv6, hb6⟩
        obtain ⟨F, cf, rfl, hs6, _⟩ := hv6.form
        rw [← HPS.out] at hs6 ⊢
        rw [HR.out]
        go_wp2_with fail
        refine (wkInts_same X F R cx cf ps _ hR1 HR.out (hs5.below hb6) hs6).mono ?_
        rintro e w7 ⟨rfl, hb7⟩
        go_wp2
        go_ret
        exact ⟨rfl, (Past.trans hp5 hb6).trans hb7⟩
      · have hq1 : q < 0 := by
          rcases Int.lt_or_le q 0 with h | h
          · exact h
          · exact absurd ⟨hN, by omega, h⟩ hO
        clear hO hN
        go_wp2_with fail
        refine (specCostOf_any m B k cap xs p q _ hkk HX.out hx5).mono ?_
        rintro e w6 ⟨v6, rfl, hv6, hb6⟩
        obtain ⟨F, cf, rfl, hs6, _⟩ := hv6.form
        rw [← HPS.out] at hs6 ⊢
        rw [HR.out]
        go_wp2_with fail
        refine (wkInts_same X F R cx cf ps _ hR1 HR.out (hs5.below hb6) hs6).mono ?_
        rintro e w7 ⟨rfl, hb7⟩
        go_wp2
        go_ret
        exact ⟨rfl, (Past.trans hp5 hb6).trans hb7⟩
  obtain ⟨hN, hp1, hq1⟩ := hO
  have np : ¬ 100 < p := by omega
  have nq' : ¬ q < 0 := by omega
  have hI : ∀ u v : Int, 0 ≤ u → u ≤ 100 → 0 ≤ v → v ≤ 100 → costOfI m xs u v = costsOf u v xs := fun u v h1 h2 h3 h4 => by
    rw [costOfI, (ofOkB_iff _ _ _ _).2 ⟨hN, (inB_iff _ _ _).2 ⟨h1, h2⟩, (inB_iff _ _ _).2 ⟨h3, h4⟩⟩, if_pos rfl]
  have hlen : ∀ u v : Int, (costsOf u v xs).length = k := fun u v => by rw [costsOf, List.length_map, HX.out]
  have hps : ps = costsOf p q xs := by rw [HPS.out, hI p q hp hp1 hq1 hq]
  obtain rfl : k = R := by rw [← HR.out, hps, hlen]
  have HP2 := Lib.hid hps
  have HI := Lib.hid hI
  have HLE := Lib.hid hlen
  have HN := Lib.hid hN
  rw [hN]
  clear hN hI hlen hps HPS
  go_wp2_with fail
  refine (implCostOf_any m B k cap xs 100 0 _ hkk HX.out hx5).mono ?_
  rintro e w6 ⟨v6, rfl, hv6, hb6⟩
  rw [HI.out 100 0 (by omega) (by omega) (by omega) (by omega)] at hv6
  obtain ⟨Y1, c1, rfl, ha6, _⟩ := hv6.form
  rw [HLE.out]
  have b0 := cell_in hb6 b0
  have b1 := cell_in hb6 b1
  have hx6 := hx5.below hb6
  have hs6 := hs5.below hb6
  have hp6 := Past.trans hp5 hb6
  clear hv6 hx5 hs5 hb6 hp5
  go_wp2_with fail
  refine (implCostOf_any m B k cap xs 0 100 _ hkk HX.out hx6).mono ?_
  rintro e w7 ⟨v7, rfl, hv7, hb7⟩
  rw [HI.out 0 100 (by omega) (by omega) (by omega) (by omega)] at hv7
  obtain ⟨Y2, c2, rfl, ht7, _⟩ := hv7.form
  rw [HLE.out]
  have b0 := cell_in hb7 b0
  have b1 := cell_in hb7 b1
  have hx7 := hx6.below hb7
  have hs7 := hs6.below hb7
  have ha7 := ha6.below hb7
  have hp7 := Past.trans hp6 hb7
  clear hv7 hx6 hs6 ha6 hb7 hp6
  go_wp2_with fail
  refine (implCostOf_any m B k cap xs 100 100 _ hkk HX.out hx7).mono ?_
  rintro e w8 ⟨v8, rfl, hv8, hb8⟩
  rw [HI.out 100 100 (by omega) (by omega) (by omega) (by omega)] at hv8
  obtain ⟨Y3, c3, rfl, hh8, _⟩ := hv8.form
  rw [HLE.out]
  have b0 := cell_in hb8 b0
  have b1 := cell_in hb8 b1
  have hx8 := hx7.below hb8
  have hs8 := hs7.below hb8
  have ha8 := ha7.below hb8
  have ht8 := ht7.below hb8
  have hp8 := Past.trans hp7 hb8
  clear hv8 hx7 hs7 ha7 ht7 hb8 hp7
  go_wp2
  go_loopw [10] (fun i wr => ∃ j : Nat, j ≤ k ∧ i = .int .i64 j ∧ Past w8 wr) (fun i _ => k - (intOf i).toNat)
  case atStart => exact ⟨0, by omega, rfl, Past.refl _⟩
  case round =>
    obtain ⟨j, hj, rfl, hbr⟩ := hrel
    have b0 := cell_in hbr b0
    have b1 := cell_in hbr b1
    by_cases hlt : j < k
    · obtain ⟨⟨f, t, c', l', d⟩, ha⟩ : ∃ a, xs[j]? = some a := ⟨_, List.getElem?_eq_getElem (by have := HX.out; omega)⟩
      obtain ⟨g, o, rfl, d0, d1, d2, d3, d4⟩ := (hx8.below hbr) j _ ha
      have hab := net_arc HN.out ha
      have hget : ∀ u v : Int, (costsOf u v xs)[j]? = some (costOne u v ⟨f, t, c', l', d⟩) := fun u v => by rw [costsOf, List.getElem?_map, ha]; rfl
      have e1 : costOne 100 0 ⟨f, t, c', l', d⟩ = c' := costOne_cost ⟨hab.1, hab.2.1⟩
      have e2 : costOne 0 100 ⟨f, t, c', l', d⟩ = l' := costOne_toll ⟨hab.2.2.1, hab.2.2.2⟩
      have e3 := costOne_le hab ⟨hp, hp1⟩ ⟨hq1, hq⟩
      have e4 := costOne_in hab ⟨hp, hp1⟩ ⟨hq1, hq⟩
      obtain ⟨g1, o1, rfl, y1⟩ := (ha8.below hbr) j c' (by rw [hget, e1])
      obtain ⟨g2, o2, rfl, y2⟩ := (ht8.below hbr) j l' (by rw [hget, e2])
      obtain ⟨g3, o3, rfl, y3⟩ := (hh8.below hbr) j _ (hget 100 100)
      obtain ⟨g4, o4, rfl, y4⟩ := (hs8.below hbr) j _ (by rw [HP2.out]; exact hget p q)
      obtain ⟨z3, hz3⟩ : ∃ z, z = costOne 100 100 ⟨f, t, c', l', d⟩ := ⟨_, rfl⟩
      obtain ⟨z4, hz4⟩ : ∃ z, z = costOne p q ⟨f, t, c', l', d⟩ := ⟨_, rfl⟩
      rw [← hz3] at y3 e3
      rw [← hz4] at y4 e3 e4
      have n3 : ¬ z3 < z4 := by omega
      have n4 : ¬ z4 < 0 := by omega
      clear ha hab hget e1 e2 e3 e4 hz3 hz4 d0 d1 d4
      have i0 : (0 : Int) ≤ (j : Int) := by omega
      have i1 : (j : Int) < (k : Int) := by omega
      have q1 : (c' != c') = false := by simp
      have q2 : (l' != l') = false := by simp
      go_wp2_with fail
      go_quiet (fail)
      go_wp2
      go_roundw
      case rel => exact ⟨j + 1, by omega, by go_num, hbr.drewN _⟩
      case measure => simp [intOf]; omega
    · obtain rfl : k = j := by omega
      have hs9 := hs8.below hbr
      rw [HP2.out] at hs9
      have hM := metric_of (p := p) (q := q) HN.out ⟨hp, hp1⟩ ⟨hq1, hq⟩
      go_wp2_with fail
      refine (implCostNet_all m B k cap xs X k cx (costsOf p q xs) _ hkk HX.out (hx8.below hbr) hform hkk (HLE.out p q) hs9).mono ?_
      rintro e w9 ⟨A9, c9, rfl, _, _, hb9⟩
      rw [hM]
      have b1 := cell_in hb9 b1
      have b1o := fun (o : Obj) => cell_in ((Past.refl w9).alloc o) b1
      have hpf := (hp8.trans hbr).trans hb9
      have q1 : ((k : Int) == (k : Int)) = true := by simp
      clear hM hb9 hs9
      go_wp2
      go_ret
      exact ⟨rfl, by first | exact hpf | exact hpf.alloc _⟩

set_option maxRecDepth 100000 in
theorem fnCostOf_lifted (os : Os) (started : os.Started) (H : Type) (enc : TypeId × Value → H) :
    ReturnsInHanded {} Try.checked os 11 .any (Rows.fnCostOfSpec.pre6 enc Try.prog Try.f11 Rows.fnCostOfRow.domain false) (Rows.fnCostOfSpec.post enc Try.prog Try.f11 false true false false) := by
  refine returnsInHanded_of_change (C := Try.checked) own started (by kernel_rfl) Try.func11
    (ChangeSpec.witness6 (enc := enc) (C := Try.checked) false ⟨#[], #[.slice none 0 0], []⟩ 8 (by kernel_rfl) (by kernel_rfl) (by kernel_rfl) (by kernel_rfl)) ?_
  intro W base args ds gs before hval0 hW hcnd _
  have hval : ∀ (j : Nat) t v, Try.f11.params[j]? = some t → args[j]? = some v → Value.okWide Try.prog W .any base t v := hval0
  have hW' := hW
  obtain ⟨p, q, hA0, hV, rfl, hfz, hnd⟩ := hW
  have hA : DataW.TrodAll enc Try.prog W 0 (fun _ => true) true Try.f11.params.toList args.toList ds p := hA0
  rw [Try.params11] at hA hval
  obtain ⟨v0, vs0, d0, ds0, p0, q0, hargs, rfl, rfl, h0, r0⟩ := trodAll_cons hA
  obtain ⟨rfl, rfl, rfl⟩ := trodAll_nil r0
  obtain rfl : args = #[v0] := by cases args; simp_all
  obtain ⟨rfl, rfl⟩ := trodVars_none hV
  have k0 := h0
  have lt0 := places_lt k0
  obtain ⟨A0, n0, c0, rfl, hn0, hc0, hb0⟩ := open_bytes (hval 0 48 v0 rfl rfl) h0
  clear hA0 hval0
  refine (fnCostOf_walk A0 n0 c0 W hn0 hc0 hb0).mono fun e W' ⟨he, bel⟩ => ?_
  subst he
  exact ⟨_, rfl, _, _, _, [], _, [], hW', trodAll_mk1 (shut_bool Try.underlying4 _), (trodAll_cons_mk (Below.trod laidOut (by kernel_rfl) (of_decide_eq_true (by kernel_rfl)) k0 bel lt0) trodAll_mk0), rfl, bel.frame _, fun h => by cases h⟩

/-- The given statement. -/
theorem fnCostOf_proved : Rows.FnCostOfSaid :=
  OpenClaim.holds_of_wide 11 Try.f11 rfl rfl rfl rfl rfl rfl rfl ⟨rfl, rfl, rfl, rfl, rfl⟩ rfl rfl rfl rfl rfl (by kernel_rfl) Try.func11 (by kernel_rfl)
    (of_decide_eq_true (by kernel_rfl)) (by unfold Func.isWrapper; first | (rw [if_pos (by decide +kernel)]; kernel_rfl) | (rw [if_neg (by decide +kernel)]; exact ⟨rfl, rfl⟩))
    (fun os started H enc _ => fnCostOf_lifted os started H enc)

end Go.Proofs.Ytkmognandkamoaa
