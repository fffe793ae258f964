/-
  FnNearWay answers true at every input: over a third node it is no nearer. No condition.
-/
import Derived.Test.YtokljfeoignbcaaDrawNearAll
import Derived.Test.YtokljfeoignbcaaOpenB
import Derived.Test.YtokljfeoignbcaaNAll
import Derived.Test.YtokljfeoignbcaaPWay
import Derived.Test.YtokljfeoignbcaaWkInts
namespace Go.Proofs.Ytokljfeoignbcaa
open Go.ChangeShapes Go.WideShapes Go.ChangeAt Go.RowKit

set_option maxRecDepth 100000 in
set_option maxHeartbeats 2000000 in
theorem fnNearWay_walk (A : Option Addr) (n c : Nat) (A' : Option Addr) (n' c' : Nat) (w : World) (hn : n ≤ c) (hc : c ≤ maxLen) (hb : BytesAt w A n) (_hn' : n' ≤ c') (_hc' : c' ≤ maxLen) (_hb' : BytesAt w A' n') :
    Calls Try.prog 8 #[.slice A n c, .slice A' n' c'] w fun e w' => e = .returned (.bool true) ∧ Below w.heap.size w w' := by
  by_cases h1 : 1048576 < n
  · have h1' : (1048576 : Int) < (n : Int) := by omega
    go_enter Try.func8, Try.ntmps8
    go_wp2
    go_ret
    exact ⟨rfl, Below.refl _ _⟩
  have h1' : ¬ (1048576 : Int) < (n : Int) := by omega
  by_cases h2 : 1048576 < n'
  · have h2' : (1048576 : Int) < (n' : Int) := by omega
    go_enter Try.func8, Try.ntmps8
    go_wp2
    go_ret
    exact ⟨rfl, Below.refl _ _⟩
  have h2' : ¬ (1048576 : Int) < (n' : Int) := by omega
  go_enter Try.func8, Try.ntmps8
  go_wp2_with fail
  refine (drawNearAll_any A n c w hn hc hb).mono ?_
  rintro e w1 ⟨m, B, k, cap, xs, nd, rfl, hxk, hk, hx1, _, hb1⟩
  have HX := Lib.hid hxk
  clear hxk hb hn hc _hb' _hn' _hc'
  have hkk : k ≤ 1048576 := by omega
  have hpW : Past w1 (w1.alloc (.cells #[.int .i64 m, .slice B k cap] 30)) := (Past.refl w1).alloc _
  go_wp2_with fail
  refine (implNearAll_any m B k cap xs nd _ hkk HX.out (hx1.below hpW)).mono ?_
  rintro e w2 ⟨v2, rfl, hv2, hb2⟩
  have b0 := cell_in (p := ⟨w1.heap.size, 0, none⟩) (v := .int .i64 m) hb2 (by go_simp)
  have b1 := cell_in (p := ⟨w1.heap.size, 1, none⟩) (v := .slice B k cap) hb2 (by go_simp)
  have hx2 := (hx1.below hpW).below hb2
  have hp2 : Past w w2 := Past.trans hb1 (hpW.trans hb2)
  obtain ⟨X, cx, rfl, hs2, _⟩ := hv2.form
  obtain ⟨ps, hps⟩ : ∃ ps, ps = nearI m xs nd := ⟨_, rfl⟩
  rw [← hps] at hs2 ⊢
  obtain ⟨R, hR⟩ : ∃ R, R = ps.length := ⟨_, rfl⟩
  have hR1 : R ≤ 1048576 := by rw [hR, hps]; exact nearI_len m xs nd
  rw [← hR]
  have HPS := Lib.hid hps
  have HR := Lib.hid hR.symm
  clear hps hR hv2 hx1 hb1 hb2 hpW
  go_wp2_with fail
  refine (specNearAll_any m B k cap xs nd _ hkk HX.out hx2).mono ?_
  rintro e w3 ⟨v3, rfl, hv3, hb3⟩
  obtain ⟨F, cf, rfl, hs3, _⟩ := hv3.form
  rw [← HPS.out] at hs3 ⊢
  rw [HR.out]
  have b0 := cell_in hb3 b0
  have b1 := cell_in hb3 b1
  have hx3 := hx2.below hb3
  have hs23 := hs2.below hb3
  have hp3 := Past.trans hp2 hb3
  clear hv3 hx2 hs2 hb3 hp2
  go_wp2_with fail
  refine (wkInts_same X F R cx cf ps _ hR1 HR.out hs23 hs3).mono ?_
  rintro e w4 ⟨rfl, hb4⟩
  have b0 := cell_in hb4 b0
  have b1 := cell_in hb4 b1
  have hx4 := hx3.below hb4
  have hs4 := hs23.below hb4
  have hp4 := Past.trans hp3 hb4
  clear hx3 hs23 hs3 hb4 hp3
  cases hO : hereB m xs nd with
  | false =>
    obtain rfl : R = 0 := by rw [← HR.out, HPS.out, nearI, hO]; rfl
    clear hO
    go_wp2_with fail
    refine (specNearAll_any m B k cap xs nd _ hkk HX.out hx4).mono ?_
    rintro e w6 ⟨v6, rfl, hv6, hb6⟩
    obtain ⟨F, cf, rfl, hs6, _⟩ := hv6.form
    rw [← HPS.out] at hs6 ⊢
    rw [HR.out]
    go_wp2_with fail
    refine (wkInts_same X F 0 cx cf ps _ hR1 HR.out (hs4.below hb6) hs6).mono ?_
    rintro e w7 ⟨rfl, hb7⟩
    go_wp2
    go_ret
    exact ⟨rfl, (Past.trans hp4 hb6).trans hb7⟩
  | true =>
    obtain ⟨hN, hn0, hn1⟩ := (hereB_iff _ _ _).1 hO
    obtain ⟨M, rfl, hM1, hM8⟩ := here_nat hN
    have HN := Lib.hid hN
    have hps : ps = nearL M xs nd := by rw [HPS.out, nearI, hO, if_pos rfl, Int.toNat_natCast]
    obtain rfl : M = R := by rw [← HR.out, hps, nearL_length]
    have HP2 := Lib.hid hps
    clear hO hN hps
    have hM0 : ¬ (M : Int) = 0 := by omega
    have hM0' : ¬ M = 0 := by omega
    obtain ⟨O, hO⟩ : ∃ O : Nat, O = n' % M := ⟨_, rfl⟩
    have hOM : O < M := by rw [hO]; exact Nat.mod_lt _ (by omega)
    have hO' : (n' : Int) % (M : Int) = (O : Int) := by rw [hO]; rfl
    have hOh : hereB (M : Int) xs (O : Int) = true := (hereB_iff _ _ _).2 ⟨HN.out, by omega, by omega⟩
    have HOH := Lib.hid hOh
    clear hO hOh
    go_wp2_with fail
    rw [hO']
    refine (implNearAll_any (M : Int) B k cap xs (O : Int) _ hkk HX.out hx4).mono ?_
    rintro e w5 ⟨v5, rfl, hv5, hb5⟩
    obtain ⟨Y, cy, rfl, hs5, _⟩ := hv5.form
    obtain ⟨es, hes⟩ : ∃ es, es = nearI (M : Int) xs (O : Int) := ⟨_, rfl⟩
    rw [← hes] at hs5 ⊢
    have he2 : es = nearL M xs (O : Int) := by rw [hes, nearI, HOH.out, if_pos rfl, Int.toNat_natCast]
    have hel : es.length = M := by rw [he2, nearL_length]
    rw [hel]
    have HE := Lib.hid he2
    have HEL := Lib.hid hel
    have b0 := cell_in hb5 b0
    have b1 := cell_in hb5 b1
    have hsd := hs4.below hb5
    have hp5 := Past.trans hp4 hb5
    clear hes hv5 hx4 hs4 hb5 hp4 he2 hel
    have hin := Lib.hid (arcsIn_net HN.out)
    have hnb := Lib.hid (show 0 ≤ nd ∧ nd < (M : Int) from ⟨hn0, hn1⟩)
    have hOb : 0 ≤ (O : Int) ∧ (O : Int) < (M : Int) := by omega
    obtain ⟨x, hxo⟩ : ∃ x, x = at_ ps (O : Int) := ⟨_, rfl⟩
    obtain ⟨gx, ox, rfl, cO⟩ := hsd O x (by rw [hxo]; exact getElem_at ps O (by rw [HR.out]; exact hOM))
    have hxb : 0 ≤ x ∧ x ≤ 99999 := by rw [hxo, HP2.out]; exact nearL_bound hin.out hnb.out hOb
    have HXO := Lib.hid hxo
    clear hxo
    have q0 := b0
    have o0 : (0 : Int) ≤ (O : Int) := by omega
    have o1 : (O : Int) < (M : Int) := by omega
    go_wp2
    go_loopw [10] (fun i wr => ∃ j : Nat, j ≤ M ∧ i = .int .i64 j ∧ Past w5 wr) (fun i _ => M - (intOf i).toNat)
    case atStart => exact ⟨0, by omega, rfl, Past.refl _⟩
    case round =>
      obtain ⟨j, hj, rfl, hbr⟩ := hrel
      have b0 := cell_in hbr q0
      have cO := cell_in hbr cO
      by_cases hlt : j < M
      · have j0 : (0 : Int) ≤ (j : Int) := by omega
        have j1 : (j : Int) < (M : Int) := by omega
        have hjb : 0 ≤ (j : Int) ∧ (j : Int) < (M : Int) := by omega
        obtain ⟨z, hz⟩ : ∃ z, z = at_ ps (j : Int) := ⟨_, rfl⟩
        obtain ⟨y, hy⟩ : ∃ y, y = at_ es (j : Int) := ⟨_, rfl⟩
        obtain ⟨_, _, e1, cz⟩ := (hsd.below hbr) j z (by rw [hz]; exact getElem_at ps j (by rw [HR.out]; exact hlt))
        injection e1 with e1
        injection e1 with e1 e2
        subst e1 e2
        obtain ⟨gy, oy, rfl, cy⟩ := (hs5.below hbr) j y (by rw [hy]; exact getElem_at es j (by rw [HEL.out]; exact hlt))
        have hyb : 0 ≤ y ∧ y ≤ 99999 := by rw [hy, HE.out]; exact nearL_bound hin.out hOb hjb
        have hle : x < 99999 → y < 99999 → z ≤ x + y := fun h1 h2 => by
          rw [HXO.out, HP2.out] at h1 ⊢
          rw [hy, HE.out] at h2 ⊢
          rw [hz, HP2.out]
          exact near_over hM8 hin.out hnb.out hOb hjb h1 h2
        have hw : IntKind.i64.wrap (x + y) = x + y := IntWalk.i64_in _ (by omega)
        have hbr' : ∀ q, Past w5 (wr.drewN q) := fun q => hbr.drewN q
        clear hz hy
        by_cases c1 : x < 99999
        · by_cases c2 : y < 99999
          · have hle := hle c1 c2
            have hle' : ¬ (x + y < z) := by omega
            go_wp2_with fail
            go_quiet (with_reducible exact rfl)
            go_wp2
            go_roundw
            case rel => exact ⟨j + 1, by omega, by go_num, hbr' _⟩
            case measure => simp [intOf]; omega
          · obtain rfl : y = 99999 := by omega
            clear hle hw
            go_wp2_with fail
            go_quiet (with_reducible exact rfl)
            go_wp2
            go_roundw
            case rel => exact ⟨j + 1, by omega, by go_num, hbr' _⟩
            case measure => simp [intOf]; omega
        · obtain rfl : x = 99999 := by omega
          clear hle hw
          go_wp2_with fail
          go_quiet (with_reducible exact rfl)
          go_wp2
          go_roundw
          case rel => exact ⟨j + 1, by omega, by go_num, hbr' _⟩
          case measure => simp [intOf]; omega
      · obtain rfl : M = j := by omega
        go_wp2
        go_ret
        exact ⟨rfl, hp5.trans hbr⟩

set_option maxRecDepth 100000 in
theorem fnNearWay_lifted (os : Os) (started : os.Started) (H : Type) (enc : TypeId × Value → H) :
    ReturnsInHanded {} Try.checked os 8 .any (Rows.fnNearWaySpec.pre6 enc Try.prog Try.f8 Rows.fnNearWayRow.domain false) (Rows.fnNearWaySpec.post enc Try.prog Try.f8 false true false false) := by
  refine returnsInHanded_of_change (C := Try.checked) own started (by kernel_rfl) Try.func8
    (ChangeSpec.witness6 (enc := enc) (C := Try.checked) false ⟨#[], #[.slice none 0 0, .slice none 0 0], []⟩ 8 (by kernel_rfl) (by kernel_rfl) (by kernel_rfl) (by kernel_rfl)) ?_
  intro W base args ds gs before hval0 hW hcnd _
  have hval : ∀ (j : Nat) t v, Try.f8.params[j]? = some t → args[j]? = some v → Value.okWide Try.prog W .any base t v := hval0
  have hW' := hW
  obtain ⟨p, q, hA0, hV, rfl, hfz, hnd⟩ := hW
  have hA : DataW.TrodAll enc Try.prog W 0 (fun _ => true) true Try.f8.params.toList args.toList ds p := hA0
  rw [Try.params8] at hA hval
  obtain ⟨v0, vs0, d0, ds0, p0, q0, hargs, rfl, rfl, h0, r0⟩ := trodAll_cons hA
  obtain ⟨v1, vs1, d1, ds1, p1, q1, rfl, rfl, rfl, h1, r1⟩ := trodAll_cons r0
  obtain ⟨rfl, rfl, rfl⟩ := trodAll_nil r1
  obtain rfl : args = #[v0, v1] := by cases args; simp_all
  obtain ⟨rfl, rfl⟩ := trodVars_none hV
  have k0 := h0
  have lt0 := places_lt k0
  have k1 := h1
  have lt1 := places_lt k1
  obtain ⟨A0, n0, c0, rfl, hn0, hc0, hb0⟩ := open_bytes (hval 0 40 v0 rfl rfl) h0
  obtain ⟨A1, n1, c1, rfl, hn1, hc1, hb1⟩ := open_bytes (hval 1 40 v1 rfl rfl) h1
  clear hA0 hval0
  refine (fnNearWay_walk A0 n0 c0 A1 n1 c1 W hn0 hc0 hb0 hn1 hc1 hb1).mono fun e W' ⟨he, bel⟩ => ?_
  subst he
  exact ⟨_, rfl, _, _, _, [], _, [], hW', trodAll_mk1 (shut_bool Try.underlying4 _), (trodAll_cons_mk (Below.trod laidOut (by kernel_rfl) (of_decide_eq_true (by kernel_rfl)) k0 bel lt0) (trodAll_cons_mk (Below.trod laidOut (by kernel_rfl) (of_decide_eq_true (by kernel_rfl)) k1 bel lt1) trodAll_mk0)), rfl, bel.frame _, fun h => by cases h⟩

/-- The given statement. -/
theorem fnNearWay_proved : Rows.FnNearWaySaid :=
  OpenClaim.holds_of_wide 8 Try.f8 rfl rfl rfl rfl rfl rfl rfl ⟨rfl, rfl, rfl, rfl, rfl⟩ rfl rfl rfl rfl rfl (by kernel_rfl) Try.func8 (by kernel_rfl)
    (of_decide_eq_true (by kernel_rfl)) (by unfold Func.isWrapper; first | (rw [if_pos (by decide +kernel)]; kernel_rfl) | (rw [if_neg (by decide +kernel)]; exact ⟨rfl, rfl⟩))
    (fun os started H enc _ => fnNearWay_lifted os started H enc)

end Go.Proofs.Ytokljfeoignbcaa
