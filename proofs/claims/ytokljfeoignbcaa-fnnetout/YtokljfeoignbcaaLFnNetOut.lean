/-
  FnNetOut answers true at every input: each arc begins at one node. No condition.
-/
import Derived.Test.YtokljfeoignbcaaDrawNetOut
import Derived.Test.YtokljfeoignbcaaOpenB
import Derived.Test.YtokljfeoignbcaaPOut
import Derived.Test.YtokljfeoignbcaaWkInts
namespace Go.Proofs.Ytokljfeoignbcaa
open Go.ChangeShapes Go.WideShapes Go.ChangeAt Go.RowKit

theorem hit_arc {xs : List ArcD} {v : Int} {j : Nat} (h : hitB xs v j = true) : ∃ a, xs[j]? = some a ∧ a.f = v := by
  unfold hitB at h
  split at h
  · rename_i a ha
    exact ⟨a, ha, by simpa using h⟩
  · cases h

set_option maxRecDepth 100000 in
set_option maxHeartbeats 2000000 in
theorem fnNetOut_walk (A : Option Addr) (n c : Nat) (w : World) (hn : n ≤ c) (hc : c ≤ maxLen) (hb : BytesAt w A n) :
    Calls Try.prog 14 #[.slice A n c] w fun e w' => e = .returned (.bool true) ∧ Below w.heap.size w w' := by
  by_cases h1 : 1048576 < n
  · have h1' : (1048576 : Int) < (n : Int) := by omega
    go_enter Try.func14, Try.ntmps14
    go_wp2
    go_ret
    exact ⟨rfl, Below.refl _ _⟩
  have h1' : ¬ (1048576 : Int) < (n : Int) := by omega
  go_enter Try.func14, Try.ntmps14
  go_wp2_with fail
  refine (drawNetOut_any A n c w hn hc hb).mono ?_
  rintro e w1 ⟨m, B, k, cap, xs, nd, rfl, hxk, hk, hx1, _, hb1⟩
  have HX := Lib.hid hxk
  clear hxk hb hn hc
  have hkk : k ≤ 1048576 := by omega
  have hpW : Past w1 (w1.alloc (.cells #[.int .i64 m, .slice B k cap] 30)) := (Past.refl w1).alloc _
  go_wp2_with fail
  refine (implNetOut_any m nd B k cap xs _ hkk HX.out (hx1.below hpW)).mono ?_
  rintro e w2 ⟨v2, rfl, hv2, hb2⟩
  have b0 := cell_in (p := ⟨w1.heap.size, 0, none⟩) (v := .int .i64 m) hb2 (by go_simp)
  have b1 := cell_in (p := ⟨w1.heap.size, 1, none⟩) (v := .slice B k cap) hb2 (by go_simp)
  have hx2 := (hx1.below hpW).below hb2
  have hp2 : Past w w2 := Past.trans hb1 (hpW.trans hb2)
  obtain ⟨X, cx, rfl, hs2, _⟩ := hv2.form
  obtain ⟨ps, hps⟩ : ∃ ps, ps = outI m xs nd := ⟨_, rfl⟩
  rw [← hps] at hs2 ⊢
  obtain ⟨R, hR⟩ : ∃ R, R = ps.length := ⟨_, rfl⟩
  have hR1 : R ≤ 1048576 := by rw [hR, hps]; exact outI_len m xs nd
  rw [← hR]
  have HPS := Lib.hid hps
  have HR := Lib.hid hR.symm
  clear hps hR hv2 hx1 hb1 hb2 hpW
  go_wp2_with fail
  refine (specNetOut_any m nd B k cap xs _ hkk HX.out hx2).mono ?_
  rintro e w3 ⟨v3, rfl, hv3, hb3⟩
  obtain ⟨F, cf, rfl, hs3, _⟩ := hv3.form
  rw [← HPS.out] at hs3 ⊢
  rw [HR.out]
  have b0 := cell_in hb3 b0
  have b1 := cell_in hb3 b1
  have hx3 := hx2.below hb3
  have hs23 := hs2.below hb3
  have hp3 := Past.trans hp2 hb3
  clear hv3 hx2 hs2 hb3 hp2
  go_wp2_with fail
  refine (wkInts_same X F R cx cf ps _ hR1 HR.out hs23 hs3).mono ?_
  rintro e w4 ⟨rfl, hb4⟩
  have b0 := cell_in hb4 b0
  have b1 := cell_in hb4 b1
  have hx4 := hx3.below hb4
  have hs4 := hs23.below hb4
  have hp4 := Past.trans hp3 hb4
  clear hx3 hs23 hs3 hb4 hp3
  go_wp2_with fail
  refine (implNetOk_any m B k cap xs _ hkk HX.out hx4).mono ?_
  rintro e w5 ⟨rfl, hb5⟩
  have b0 := cell_in hb5 b0
  have b1 := cell_in hb5 b1
  have hx5 := hx4.below hb5
  have hs5 := hs4.below hb5
  have hp5 := Past.trans hp4 hb5
  clear hx4 hs4 hb5 hp4
  cases hO : netB m xs with
  | false =>
    clear hO
    go_wp2_with fail
    refine (specNetOut_any m nd B k cap xs _ hkk HX.out hx5).mono ?_
    rintro e w6 ⟨v6, rfl, hv6, hb6⟩
    obtain ⟨F, cf, rfl, hs6, _⟩ := hv6.form
    rw [← HPS.out] at hs6 ⊢
    rw [HR.out]
    go_wp2_with fail
    refine (wkInts_same X F R cx cf ps _ hR1 HR.out (hs5.below hb6) hs6).mono ?_
    rintro e w7 ⟨rfl, hb7⟩
    go_wp2
    go_ret
    exact ⟨rfl, (Past.trans hp5 hb6).trans hb7⟩
  | true =>
    obtain ⟨⟨hm1, hm8⟩, h16, harc⟩ := (netB_iff _ _).1 hO
    rw [HX.out] at h16
    have hout : ∀ v, outI m xs v = outTo xs v k := fun v => by rw [outI, if_pos hO, HX.out]
    obtain ⟨M, rfl⟩ : ∃ M : Nat, m = (M : Int) := ⟨m.toNat, by omega⟩
    have hall : sumOut xs k M = k := sumOut_all xs M (fun a ha => by
      have := harc a ha
      simp [arcB, inB_iff] at this
      omega) k (by rw [HX.out]; exact Nat.le_refl _)
    have HALL := Lib.hid hall
    have HOUT := Lib.hid hout
    have HSM : Hid (∀ v, v ≤ M → sumOut xs k v ≤ 16 * v) := by
      intro v _
      induction v with
      | zero => simp [sumOut]
      | succ v ih => have := outTo_len xs (v : Int) k; rw [sumOut]; have := ih (by omega); omega
    clear hO harc hall hout
    have q0 := b0
    have q1 := b1
    go_wp2
    go_loopw [6, 7] (fun s i wr => ∃ j : Nat, j ≤ M ∧ i = .int .i64 j ∧ s = .int .i64 (sumOut xs k j : Nat) ∧ Past w5 wr) (fun _ i _ => M - (intOf i).toNat)
    case atStart => exact ⟨0, by omega, rfl, rfl, Past.refl _⟩
    case round =>
      obtain ⟨j, hj, rfl, rfl, hbr⟩ := hrel
      have b0 := cell_in hbr b0
      have b1 := cell_in hbr b1
      have hsj := HSM.out j hj
      by_cases hlt : j < M
      · have i1 : (j : Int) < (M : Int) := by omega
        obtain ⟨S, hS⟩ : ∃ S, S = sumOut xs k j := ⟨_, rfl⟩
        rw [← hS] at hsj ⊢
        have HS := Lib.hid hS
        clear hS
        go_wp2_with fail
        refine (implNetOut_any (M : Int) (j : Int) B k cap xs _ hkk HX.out (hx5.below hbr)).mono ?_
        rintro e w6 ⟨v6, rfl, hv6, hb6⟩
        obtain ⟨Z, cz, rfl, _, _⟩ := hv6.form
        rw [HOUT.out]
        obtain ⟨T, hT⟩ : ∃ T, T = (outTo xs (j : Int) k).length := ⟨_, rfl⟩
        rw [← hT]
        have hT1 : T ≤ 16 := by have := outTo_len xs (j : Int) k; omega
        have hST : sumOut xs k (j + 1) = S + T := by rw [sumOut, ← HS.out, hT]
        have HST := Lib.hid hST
        have hw : IntKind.i64.wrap ((S : Int) + (T : Int)) = ((S + T : Nat) : Int) := by rw [IntWalk.i64_in _ (by omega)]; omega
        clear hv6 hT hST
        go_wp2
        go_roundw
        case rel => exact ⟨j + 1, by omega, by go_num, by rw [HST.out]; first | rfl | (congr 1; first | exact hw | omega), hbr.trans hb6⟩
        case measure => simp [intOf]; omega
      · obtain rfl : M = j := by omega
        rw [HALL.out] at hsj ⊢
        go_wp2
        go_loopw [8] (fun i wr => ∃ j : Nat, j ≤ R ∧ i = .int .i64 j ∧ Past w5 wr) (fun i _ => R - (intOf i).toNat)
        case atStart => exact ⟨0, by omega, rfl, hbr⟩
        case round =>
          obtain ⟨j, hj, rfl, hbq⟩ := hrel
          have b0 := cell_in hbq q0
          have b1 := cell_in hbq q1
          have hx6 := hx5.below hbq
          have hs6 := hs5.below hbq
          by_cases hlt2 : j < R
          · obtain ⟨y, ha⟩ : ∃ a, ps[j]? = some a := ⟨_, List.getElem?_eq_getElem (by have := HR.out; omega)⟩
            have ha' := ha
            rw [HPS.out, HOUT.out] at ha'
            obtain ⟨p, rfl, hpk, hh⟩ := outTo_mem xs nd k j y ha'
            obtain ⟨⟨f, t, c', l', d⟩, hp, hf⟩ := hit_arc hh
            simp only at hf
            subst hf
            obtain ⟨g, o, rfl, z0⟩ := hs6 j _ ha
            obtain ⟨g3, o3, rfl, d0, _, _, _, _⟩ := hx6 p _ hp
            have i0 : (0 : Int) ≤ (j : Int) := by omega
            have i1 : (j : Int) < (R : Int) := by omega
            have j0 : (0 : Int) ≤ (p : Int) := by omega
            have j1 : (p : Int) < (k : Int) := by omega
            by_cases hj0 : j = 0
            · subst hj0
              have i1' : 0 < R := hlt2
              rw [Nat.add_zero] at z0
              clear ha ha' hh hp
              go_wp2_with fail
              go_quiet (with_reducible exact rfl)
              go_wp2
              go_roundw
              case rel => exact ⟨0 + 1, by omega, by go_num, hbq.drewN _⟩
              case measure => simp [intOf]; omega
            · have hz : (0 : Int) < (j : Int) := by omega
              have hz' : 0 < j := by omega
              obtain ⟨q, hq⟩ : ∃ q, q = j - 1 := ⟨_, rfl⟩
              obtain ⟨y2, ha2⟩ : ∃ a, ps[q]? = some a := ⟨_, List.getElem?_eq_getElem (by have := HR.out; omega)⟩
              have ha2' := ha2
              rw [HPS.out, HOUT.out] at ha2'
              have hlt3 := outTo_inc xs _ k q y2 p ha2' (by rw [hq, show j - 1 + 1 = j by omega]; exact ha')
              obtain ⟨g4, o4, eE, z1⟩ := hs6 q _ ha2
              injection eE with eE
              injection eE with eE1 eE2
              subst eE1 eE2
              have hle : ¬ ((p : Int) ≤ y2) := by omega
              have hw : IntKind.i64.wrap ((j : Int) - 1) = (q : Int) := by rw [IntWalk.i64_in _ (by omega)]; omega
              have i2 : (0 : Int) ≤ (q : Int) := by omega
              have i3 : (q : Int) < (R : Int) := by omega
              clear ha ha' hh hp ha2 ha2' hq
              go_wp2_with fail
              go_quiet (with_reducible exact rfl)
              go_wp2
              go_roundw
              case rel => exact ⟨j + 1, by omega, by go_num, hbq.drewN _⟩
              case measure => simp [intOf]; omega
          · go_wp2
            go_ret
            exact ⟨rfl, hp5.trans hbq⟩

set_option maxRecDepth 100000 in
theorem fnNetOut_lifted (os : Os) (started : os.Started) (H : Type) (enc : TypeId × Value → H) :
    ReturnsInHanded {} Try.checked os 14 .any (Rows.fnNetOutSpec.pre6 enc Try.prog Try.f14 Rows.fnNetOutRow.domain false) (Rows.fnNetOutSpec.post enc Try.prog Try.f14 false true false false) := by
  refine returnsInHanded_of_change (C := Try.checked) own started (by kernel_rfl) Try.func14
    (ChangeSpec.witness6 (enc := enc) (C := Try.checked) false ⟨#[], #[.slice none 0 0], []⟩ 8 (by kernel_rfl) (by kernel_rfl) (by kernel_rfl) (by kernel_rfl)) ?_
  intro W base args ds gs before hval0 hW hcnd _
  have hval : ∀ (j : Nat) t v, Try.f14.params[j]? = some t → args[j]? = some v → Value.okWide Try.prog W .any base t v := hval0
  have hW' := hW
  obtain ⟨p, q, hA0, hV, rfl, hfz, hnd⟩ := hW
  have hA : DataW.TrodAll enc Try.prog W 0 (fun _ => true) true Try.f14.params.toList args.toList ds p := hA0
  rw [Try.params14] at hA hval
  obtain ⟨v0, vs0, d0, ds0, p0, q0, hargs, rfl, rfl, h0, r0⟩ := trodAll_cons hA
  obtain ⟨rfl, rfl, rfl⟩ := trodAll_nil r0
  obtain rfl : args = #[v0] := by cases args; simp_all
  obtain ⟨rfl, rfl⟩ := trodVars_none hV
  have k0 := h0
  have lt0 := places_lt k0
  obtain ⟨A0, n0, c0, rfl, hn0, hc0, hb0⟩ := open_bytes (hval 0 40 v0 rfl rfl) h0
  clear hA0 hval0
  refine (fnNetOut_walk A0 n0 c0 W hn0 hc0 hb0).mono fun e W' ⟨he, bel⟩ => ?_
  subst he
  exact ⟨_, rfl, _, _, _, [], _, [], hW', trodAll_mk1 (shut_bool Try.underlying4 _), (trodAll_cons_mk (Below.trod laidOut (by kernel_rfl) (of_decide_eq_true (by kernel_rfl)) k0 bel lt0) trodAll_mk0), rfl, bel.frame _, fun h => by cases h⟩

/-- The given statement. -/
theorem fnNetOut_proved : Rows.FnNetOutSaid :=
  OpenClaim.holds_of_wide 14 Try.f14 rfl rfl rfl rfl rfl rfl rfl ⟨rfl, rfl, rfl, rfl, rfl⟩ rfl rfl rfl rfl rfl (by kernel_rfl) Try.func14 (by kernel_rfl)
    (of_decide_eq_true (by kernel_rfl)) (by unfold Func.isWrapper; first | (rw [if_pos (by decide +kernel)]; kernel_rfl) | (rw [if_neg (by decide +kernel)]; exact ⟨rfl, rfl⟩))
    (fun os started H enc _ => fnNetOut_lifted os started H enc)

end Go.Proofs.Ytokljfeoignbcaa
