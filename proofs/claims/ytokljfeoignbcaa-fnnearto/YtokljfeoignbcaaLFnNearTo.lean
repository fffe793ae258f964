/-
  FnNearTo answers true at every input: from each to a node is from the node to each of the net turned round. No condition.
-/
import Derived.Test.YtokljfeoignbcaaDrawNearTo
import Derived.Test.YtokljfeoignbcaaOpenB
import Derived.Test.YtokljfeoignbcaaNTo
import Derived.Test.YtokljfeoignbcaaPBack
import Derived.Test.YtokljfeoignbcaaWkInts
import Derived.Deep.RegionWith
namespace Go.Proofs.Ytokljfeoignbcaa
open Go.ChangeShapes Go.WideShapes Go.ChangeAt Go.RowKit

/-- What is read in a round. -/
structure ToS (w0 W : World) (nb : Nat) (m : Int) (B : Option Addr) (k cap : Nat) (xs : List ArcD) (p : Addr) (z : Int) : Prop where
  past : Past w0 W
  arcs : ArcsAt W B xs
  n0 : W.cell? ⟨nb, 0, none⟩ = some (.int .i64 m)
  n1 : W.cell? ⟨nb, 1, none⟩ = some (.slice B k cap)
  cz : W.cell? p = some (.int .i64 z)
theorem ToS.below {w0 W W' : World} {nb : Nat} {m : Int} {B : Option Addr} {k cap : Nat} {xs : List ArcD} {p : Addr} {z : Int} (h : ToS w0 W nb m B k cap xs p z) (hb : Past W W') : ToS w0 W' nb m B k cap xs p z :=
  ⟨h.past.trans hb, h.arcs.below hb, cell_in hb h.n0, cell_in hb h.n1, cell_in hb h.cz⟩
theorem ToS.drew {w0 W : World} {nb : Nat} {m : Int} {B : Option Addr} {k cap : Nat} {xs : List ArcD} {p : Addr} {z : Int} (h : ToS w0 W nb m B k cap xs p z) : ToS w0 W.drew nb m B k cap xs p z := h.below (Past.refl W).drew

set_option maxRecDepth 100000 in
set_option maxHeartbeats 2000000 in
theorem fnNearTo_walk (A : Option Addr) (n c : Nat) (w : World) (hn : n ≤ c) (hc : c ≤ maxLen) (hb : BytesAt w A n) :
    Calls Try.prog 9 #[.slice A n c] w fun e w' => e = .returned (.bool true) ∧ Below w.heap.size w w' := by
  by_cases h1 : 1048576 < n
  · have h1' : (1048576 : Int) < (n : Int) := by omega
    go_enter Try.func9, Try.ntmps9
    go_wp2
    go_ret
    exact ⟨rfl, Below.refl _ _⟩
  have h1' : ¬ (1048576 : Int) < (n : Int) := by omega
  go_enter Try.func9, Try.ntmps9
  go_wp2_with fail
  refine (drawNearTo_any A n c w hn hc hb).mono ?_
  rintro e w1 ⟨m, B, k, cap, xs, nd, rfl, hxk, hk, hx1, ⟨_, hform⟩, hb1⟩
  have HX := Lib.hid hxk
  clear hxk hb hn hc
  have hkk : k ≤ 1048576 := by omega
  have hpW : Past w1 (w1.alloc (.cells #[.int .i64 m, .slice B k cap] 30)) := (Past.refl w1).alloc _
  go_wp2_with fail
  refine (implNearTo_all m B k cap xs nd _ hkk HX.out (hx1.below hpW) hform).mono ?_
  rintro e w2 ⟨v2, rfl, hv2, hb2⟩
  have b0 := cell_in (p := ⟨w1.heap.size, 0, none⟩) (v := .int .i64 m) hb2 (by go_simp)
  have b1 := cell_in (p := ⟨w1.heap.size, 1, none⟩) (v := .slice B k cap) hb2 (by go_simp)
  have hx2 := (hx1.below hpW).below hb2
  have hp2 : Past w w2 := Past.trans hb1 (hpW.trans hb2)
  obtain ⟨X, cx, rfl, hs2, _⟩ := hv2.form
  obtain ⟨ps, hps⟩ : ∃ ps, ps = nearTI m xs nd := ⟨_, rfl⟩
  rw [← hps] at hs2 ⊢
  obtain ⟨R, hR⟩ : ∃ R, R = ps.length := ⟨_, rfl⟩
  have hR1 : R ≤ 1048576 := by rw [hR, hps]; exact nearTI_len m xs nd
  rw [← hR]
  have HPS := Lib.hid hps
  have HR := Lib.hid hR.symm
  clear hps hR hv2 hx1 hb1 hb2 hpW
  go_wp2_with fail
  refine (specNearTo_any m B k cap xs nd _ hkk HX.out hx2).mono ?_
  rintro e w3 ⟨v3, rfl, hv3, hb3⟩
  obtain ⟨F, cf, rfl, hs3, _⟩ := hv3.form
  rw [← HPS.out] at hs3 ⊢
  rw [HR.out]
  have b0 := cell_in hb3 b0
  have b1 := cell_in hb3 b1
  have hx3 := hx2.below hb3
  have hs23 := hs2.below hb3
  have hp3 := Past.trans hp2 hb3
  clear hv3 hx2 hs2 hb3 hp2
  go_wp2_with fail
  refine (wkInts_same X F R cx cf ps _ hR1 HR.out hs23 hs3).mono ?_
  rintro e w4 ⟨rfl, hb4⟩
  have b0 := cell_in hb4 b0
  have b1 := cell_in hb4 b1
  have hx4 := hx3.below hb4
  have hs4 := hs23.below hb4
  have hp4 := Past.trans hp3 hb4
  clear hx3 hs23 hs3 hb4 hp3
  cases hO : hereB m xs nd with
  | false =>
    obtain rfl : R = 0 := by rw [← HR.out, HPS.out, nearTI, hO]; rfl
    clear hO
    go_wp2_with fail
    refine (specNearTo_any m B k cap xs nd _ hkk HX.out hx4).mono ?_
    rintro e w6 ⟨v6, rfl, hv6, hb6⟩
    obtain ⟨F, cf, rfl, hs6, _⟩ := hv6.form
    rw [← HPS.out] at hs6 ⊢
    rw [HR.out]
    go_wp2_with fail
    refine (wkInts_same X F 0 cx cf ps _ hR1 HR.out (hs4.below hb6) hs6).mono ?_
    rintro e w7 ⟨rfl, hb7⟩
    go_wp2
    go_ret
    exact ⟨rfl, (Past.trans hp4 hb6).trans hb7⟩
  | true =>
    obtain ⟨hN, hn0, hn1⟩ := (hereB_iff _ _ _).1 hO
    obtain ⟨M, rfl, hM1, hM8⟩ := here_nat hN
    have HN := Lib.hid hN
    have hps : ps = nearL M (xs.map flip) nd := by rw [HPS.out, nearTI, hO, if_pos rfl, Int.toNat_natCast]
    obtain rfl : M = R := by rw [← HR.out, hps, nearL_length]
    have HP2 := Lib.hid hps
    have HO := Lib.hid hO
    clear hO hN hps
    have hM0 : ¬ (M : Int) = 0 := by omega
    have hM0' : ¬ M = 0 := by omega
    have hin := Lib.hid (arcsIn_net HN.out)
    obtain ⟨T, rfl⟩ : ∃ T : Nat, nd = (T : Int) := ⟨nd.toNat, by omega⟩
    have hTM : T < M := by omega
    have t0 : (0 : Int) ≤ (T : Int) := by omega
    have t1 : (T : Int) < (M : Int) := hn1
    have hMb : ((M : Int) == 0) = false := by simpa using hM0
    go_wp2
    go_loopw [6] (fun i wr => ∃ j : Nat, j ≤ M ∧ i = .int .i64 j ∧ Past w4 wr) (fun i _ => M - (intOf i).toNat)
    case atStart => exact ⟨0, by omega, rfl, Past.refl _⟩
    case round =>
      obtain ⟨j, hj, rfl, hbr⟩ := hrel
      have b0 := cell_in hbr b0
      have b1 := cell_in hbr b1
      have hxr := hx4.below hbr
      have hsr := hs4.below hbr
      by_cases hlt : j < M
      · have j0 : (0 : Int) ≤ (j : Int) := by omega
        have j1 : (j : Int) < (M : Int) := by omega
        obtain ⟨z, hz⟩ : ∃ z, z = at_ ps (j : Int) := ⟨_, rfl⟩
        have hJh : hereB (M : Int) xs (j : Int) = true := (hereB_iff _ _ _).2 ⟨HN.out, by omega, by omega⟩
        have hJl : nearI (M : Int) xs (j : Int) = nearL M xs (j : Int) := by rw [nearI, hJh, if_pos rfl, Int.toNat_natCast]
        have hat : at_ (nearI (M : Int) xs (j : Int)) (T : Int) = z := by rw [hJl, hz, HP2.out]; exact near_back hM8 hin.out ⟨by omega, by omega⟩ ⟨by omega, by omega⟩
        have hlen : (nearI (M : Int) xs (j : Int)).length = M := by rw [hJl, nearL_length]
        have HAT := Lib.hid hat
        have HLEN := Lib.hid hlen
        obtain ⟨gz, oz, rfl, cz⟩ := hsr j z (by rw [hz]; exact getElem_at ps j (by rw [HR.out]; exact hlt))
        have hS : ToS w4 wr w1.heap.size (M : Int) B k cap xs ⟨gz, oz + j, none⟩ z := ⟨hbr, hxr, b0, b1, cz⟩
        have hS0 := hS
        clear hz hJh hJl hat hlen hsr hxr hbr
        go_upto_region 10 with (fail)
        have hS := hS.drew
        go_region_with (refine (implNearAll_any (M : Int) B k cap xs (j : Int) _ hkk HX.out hS.arcs).mono ?_; rintro e w9 ⟨v9, rfl, hv9, hb9⟩; obtain ⟨Y, cy, rfl, hy9, _⟩ := hv9.form; rw [HLEN.out]; obtain ⟨gy, oy, rfl, cT⟩ := hy9 T z (by rw [← HAT.out]; exact getElem_at _ T (by rw [HLEN.out]; exact hTM)); have hS := hS.below hb9; have b0 := hS.n0; have b1 := hS.n1; have cz := hS.cz)
        all_goals go_wp2
        all_goals go_roundw
        case' rel => exact ⟨j + 1, by omega, by go_num, hS.past⟩
        all_goals first | exact ⟨j + 1, by omega, by go_num, hS.past⟩ | (simp [intOf]; omega)
      · obtain rfl : M = j := by omega
        go_wp2_with fail
        refine (implNetBack_all (M : Int) B k cap xs _ hkk HX.out hxr hform).mono ?_
        rintro e w5 ⟨Z, cz, rfl, hz5, _, hb5⟩
        have hbN : backN (M : Int) xs = (M : Int) := by rw [backN, HN.out, if_pos rfl]
        rw [hbN]
        obtain ⟨K2, hK2⟩ : ∃ K2, (backL (M : Int) xs).length = K2 := ⟨_, rfl⟩
        have hK3 : K2 ≤ 1048576 := by have := backL_len (M : Int) xs; have := HX.out; omega
        rw [hK2]
        have HK2 := Lib.hid hK2
        have hs5 := hsr.below hb5
        have hp5 := (hp4.trans hbr).trans hb5
        clear hK2 hbN hxr hsr hb5
        go_wp2_with fail
        refine (implNearAll_any (M : Int) Z K2 cz (backL (M : Int) xs) (T : Int) _ hK3 HK2.out hz5).mono ?_
        rintro e w6 ⟨v6, rfl, hv6, hb6⟩
        have heq : nearI (M : Int) (backL (M : Int) xs) (T : Int) = ps := by
          have := nearTI_back (M : Int) xs (T : Int)
          rw [backN, HN.out, if_pos rfl] at this
          rw [this]
          exact HPS.out.symm
        rw [heq] at hv6
        obtain ⟨Y, cy, rfl, hy6, _⟩ := hv6.form
        rw [HR.out]
        clear heq hv6
        go_wp2_with fail
        refine (wkInts_same Y X M cy cx ps _ hR1 HR.out hy6 (hs5.below hb6)).mono ?_
        rintro e w7 ⟨rfl, hb7⟩
        go_wp2
        go_ret
        exact ⟨rfl, (hp5.trans hb6).trans hb7⟩

set_option maxRecDepth 100000 in
theorem fnNearTo_lifted (os : Os) (started : os.Started) (H : Type) (enc : TypeId × Value → H) :
    ReturnsInHanded {} Try.checked os 9 .any (Rows.fnNearToSpec.pre6 enc Try.prog Try.f9 Rows.fnNearToRow.domain false) (Rows.fnNearToSpec.post enc Try.prog Try.f9 false true false false) := by
  refine returnsInHanded_of_change (C := Try.checked) own started (by kernel_rfl) Try.func9
    (ChangeSpec.witness6 (enc := enc) (C := Try.checked) false ⟨#[], #[.slice none 0 0], []⟩ 8 (by kernel_rfl) (by kernel_rfl) (by kernel_rfl) (by kernel_rfl)) ?_
  intro W base args ds gs before hval0 hW hcnd _
  have hval : ∀ (j : Nat) t v, Try.f9.params[j]? = some t → args[j]? = some v → Value.okWide Try.prog W .any base t v := hval0
  have hW' := hW
  obtain ⟨p, q, hA0, hV, rfl, hfz, hnd⟩ := hW
  have hA : DataW.TrodAll enc Try.prog W 0 (fun _ => true) true Try.f9.params.toList args.toList ds p := hA0
  rw [Try.params9] at hA hval
  obtain ⟨v0, vs0, d0, ds0, p0, q0, hargs, rfl, rfl, h0, r0⟩ := trodAll_cons hA
  obtain ⟨rfl, rfl, rfl⟩ := trodAll_nil r0
  obtain rfl : args = #[v0] := by cases args; simp_all
  obtain ⟨rfl, rfl⟩ := trodVars_none hV
  have k0 := h0
  have lt0 := places_lt k0
  obtain ⟨A0, n0, c0, rfl, hn0, hc0, hb0⟩ := open_bytes (hval 0 40 v0 rfl rfl) h0
  clear hA0 hval0
  refine (fnNearTo_walk A0 n0 c0 W hn0 hc0 hb0).mono fun e W' ⟨he, bel⟩ => ?_
  subst he
  exact ⟨_, rfl, _, _, _, [], _, [], hW', trodAll_mk1 (shut_bool Try.underlying4 _), (trodAll_cons_mk (Below.trod laidOut (by kernel_rfl) (of_decide_eq_true (by kernel_rfl)) k0 bel lt0) trodAll_mk0), rfl, bel.frame _, fun h => by cases h⟩

/-- The given statement. -/
theorem fnNearTo_proved : Rows.FnNearToSaid :=
  OpenClaim.holds_of_wide 9 Try.f9 rfl rfl rfl rfl rfl rfl rfl ⟨rfl, rfl, rfl, rfl, rfl⟩ rfl rfl rfl rfl rfl (by kernel_rfl) Try.func9 (by kernel_rfl)
    (of_decide_eq_true (by kernel_rfl)) (by unfold Func.isWrapper; first | (rw [if_pos (by decide +kernel)]; kernel_rfl) | (rw [if_neg (by decide +kernel)]; exact ⟨rfl, rfl⟩))
    (fun os started H enc _ => fnNearTo_lifted os started H enc)

end Go.Proofs.Ytokljfeoignbcaa
