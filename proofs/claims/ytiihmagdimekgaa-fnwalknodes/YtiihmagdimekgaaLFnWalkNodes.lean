/-
  FnWalkNodes answers true at every input: a walk has a node more than arcs, each arc between two of them. No condition.
-/
import Derived.Test.YtiihmagdimekgaaDrawWalkNodes
import Derived.Test.YtiihmagdimekgaaOpenB
import Derived.Test.YtiihmagdimekgaaPlain
import Derived.Test.YtiihmagdimekgaaWkInts
namespace Go.Proofs.Ytiihmagdimekgaa
open Go.ChangeShapes Go.WideShapes Go.ChangeAt Go.RowKit

/-- Either there are no nodes, or the arcs are a walk with one arc at least. -/
theorem nodesI_two (m : Int) (xs : List ArcD) (zs : List Int) : nodesI m xs zs = [] ∨ (okB m xs zs = true ∧ (nodesI m xs zs).length = zs.length + 1 ∧ nodesI m xs zs = nodesW xs zs) := by
  unfold nodesI
  cases hO : okB m xs zs with
  | false => exact .inl rfl
  | true =>
    by_cases h0 : zs.length = 0
    · exact .inl (by simp [nodesW, h0])
    · exact .inr ⟨rfl, by simp [nodesW_length h0], rfl⟩

set_option maxRecDepth 100000 in
set_option maxHeartbeats 2000000 in
theorem fnWalkNodes_walk (A : Option Addr) (n c : Nat) (w : World) (hn : n ≤ c) (hc : c ≤ maxLen) (hb : BytesAt w A n) :
    Calls Try.prog 13 #[.slice A n c] w fun e w' => e = .returned (.bool true) ∧ Below w.heap.size w w' := by
  by_cases h1 : 1048576 < n
  · have h1' : (1048576 : Int) < (n : Int) := by omega
    go_enter Try.func13, Try.ntmps13
    go_wp2
    go_ret
    exact ⟨rfl, Below.refl _ _⟩
  have h1' : ¬ (1048576 : Int) < (n : Int) := by omega
  go_enter Try.func13, Try.ntmps13
  go_wp2_with fail
  refine (drawWalkNodes_any A n c w hn hc hb).mono ?_
  rintro e w1 ⟨m, B, k, cap, xs, v, zs, rfl, hxk, hk, hx1, _, hzl, hv, hb1⟩
  obtain ⟨D, cd, rfl, hi1, _⟩ := hv.form
  obtain ⟨L, hL⟩ : ∃ L, L = zs.length := ⟨_, rfl⟩
  rw [← hL] at hzl ⊢
  have HL := Lib.hid hL.symm
  have HX := Lib.hid hxk
  clear hL hxk hv hb hn hc
  have hpW : Past w1 (w1.alloc (.cells #[.int .i64 m, .slice B k cap] 29)) := (Past.refl w1).alloc _
  go_wp2_with fail
  refine (implWalkNodes_any m B D k cap L cd xs zs _ (by omega) (by omega) HX.out HL.out (hx1.below hpW) (hi1.below hpW)).mono ?_
  rintro e w2 ⟨v2, rfl, hv2, hb2⟩
  have b0 := cell_in (p := ⟨w1.heap.size, 0, none⟩) (v := .int .i64 m) hb2 (by go_simp)
  have b1 := cell_in (p := ⟨w1.heap.size, 1, none⟩) (v := .slice B k cap) hb2 (by go_simp)
  have hx2 := (hx1.below hpW).below hb2
  have hi2 := (hi1.below hpW).below hb2
  have hp2 : Past w w2 := Past.trans hb1 (hpW.trans hb2)
  obtain ⟨E, ce, rfl, hs2, _⟩ := hv2.form
  obtain ⟨ss, hss⟩ : ∃ ss, ss = nodesI m xs zs := ⟨_, rfl⟩
  rw [← hss] at hs2 ⊢
  obtain ⟨N, hN⟩ : ∃ N, N = ss.length := ⟨_, rfl⟩
  have hN1 : N ≤ 1048576 := by rw [hN, hss]; exact nodesI_len m xs zs
  rw [← hN]
  have HSS := Lib.hid hss
  have HN := Lib.hid hN.symm
  clear hss hN hv2 hx1 hi1 hb1 hb2 hpW
  go_wp2_with fail
  refine (specWalkNodes_any m B D k cap L cd xs zs _ (by omega) (by omega) HX.out HL.out hx2 hi2).mono ?_
  rintro e w3 ⟨v3, rfl, hv3, hb3⟩
  obtain ⟨F, cf, rfl, hs3, _⟩ := hv3.form
  rw [← HSS.out] at hs3 ⊢
  rw [HN.out]
  have b0 := cell_in hb3 b0
  have b1 := cell_in hb3 b1
  have hx3 := hx2.below hb3
  have hi3 := hi2.below hb3
  have hs23 := hs2.below hb3
  have hp3 := Past.trans hp2 hb3
  clear hv3 hx2 hi2 hs2 hb3 hp2
  go_wp2_with fail
  refine (wkInts_same E F N ce cf ss _ hN1 HN.out hs23 hs3).mono ?_
  rintro e w4 ⟨rfl, hb4⟩
  have b0 := cell_in hb4 b0
  have b1 := cell_in hb4 b1
  have hx4 := hx3.below hb4
  have hi4 := hi3.below hb4
  have hs4 := hs23.below hb4
  have hp4 := Past.trans hp3 hb4
  clear hx3 hi3 hs23 hs3 hb4 hp3
  rcases nodesI_two m xs zs with h0 | ⟨hO, hlen, hW⟩
  · obtain rfl : N = 0 := by rw [← HN.out, HSS.out, h0]; rfl
    clear h0
    go_wp2_with fail
    refine (specWalkNodes_any m B D k cap L cd xs zs _ (by omega) (by omega) HX.out HL.out hx4 hi4).mono ?_
    rintro e w5 ⟨v5, rfl, hv5, hb5⟩
    obtain ⟨F, cf, rfl, hs5, _⟩ := hv5.form
    rw [← HSS.out] at hs5 ⊢
    rw [HN.out]
    go_wp2_with fail
    refine (wkInts_same E F 0 ce cf ss _ hN1 HN.out (hs4.below hb5) hs5).mono ?_
    rintro e w6 ⟨rfl, hb6⟩
    go_wp2
    go_ret
    exact ⟨rfl, (Past.trans hp4 hb5).trans hb6⟩
  have hNL : N = L + 1 := by rw [← HN.out, HSS.out, hlen, HL.out]
  have hN0 : ¬ ((N : Int) = 0) := by omega
  have hN2 : ¬ (N = 0) := by omega
  have hN3 : ((N : Int) == 0) = false := by simpa using hN0
  have HO := Lib.hid hO
  have HW := Lib.hid (HSS.out.trans hW)
  clear hO hlen hW
  have HNL := Lib.hid hNL
  have hNi : (N : Int) = (L : Int) + 1 := by omega
  have HNi := Lib.hid hNi
  clear hNL hNi
  go_wp2
  go_loopw [6] (fun i wr => ∃ j : Nat, j ≤ L ∧ i = .int .i64 j ∧ Past w4 wr) (fun i _ => L - (intOf i).toNat)
  case atStart => exact ⟨0, by omega, rfl, Past.refl _⟩
  case round =>
    obtain ⟨j, hj, rfl, hbr⟩ := hrel
    have b0 := cell_in hbr b0
    have b1 := cell_in hbr b1
    by_cases hlt : j < L
    · obtain ⟨y, ha⟩ : ∃ a, zs[j]? = some a := ⟨_, List.getElem?_eq_getElem (by have := HL.out; omega)⟩
      obtain ⟨p, ⟨f, t, c', l', d⟩, rfl, hp, _, _, he⟩ := ok_arc HO.out ha
      have hf : ss[j]? = some f := by rw [HW.out, nodesW_from HO.out (by rw [HL.out]; exact hlt), he]
      have ht : ss[j + 1]? = some t := by rw [HW.out, nodesW_to (by rw [HL.out]; exact hlt), he]
      obtain ⟨j1, hj1⟩ : ∃ j1, j1 = j + 1 := ⟨_, rfl⟩
      rw [← hj1] at ht
      obtain ⟨g, o, rfl, c0⟩ := (hi4.below hbr) j _ ha
      obtain ⟨g', o', rfl, d0, d1, d2, d3, d4⟩ := (hx4.below hbr) p _ hp
      have hs5 := hs4.below hbr
      obtain ⟨g'', o'', rfl, e0⟩ := hs5 j _ hf
      obtain ⟨g3, o3, eE, e1⟩ := hs5 j1 _ ht
      injection eE with eE
      injection eE with eE1 eE2
      subst eE1 eE2
      have hpk : p < k := by rw [← HX.out]; exact (List.getElem?_eq_some_iff.1 hp).1
      have i0 : (0 : Int) ≤ (j : Int) := by omega
      have i1 : (j : Int) < (L : Int) := by omega
      have i2 : (j : Int) < (N : Int) := by have := HNi.out; omega
      have i3 : (j1 : Int) < (N : Int) := by have := HNi.out; omega
      have i4 : (0 : Int) ≤ (j1 : Int) := by omega
      have j0 : (0 : Int) ≤ (p : Int) := by omega
      have j2 : (p : Int) < (k : Int) := by omega
      have hw : IntKind.i64.wrap ((j : Int) + 1) = (j1 : Int) := by rw [IntWalk.i64_in _ (by omega)]; omega
      have HJ := Lib.hid hj1
      clear ha hp he hf ht hs5 d2 d3 d4 hj1
      go_wp2_with fail
      go_quiet (fail)
      go_wp2
      go_roundw
      case rel => exact ⟨j1, by have := HJ.out; omega, by first | rfl | go_num, hbr.drewN _⟩
      case measure => have := HJ.out; simp [intOf]; omega
    · obtain rfl : L = j := by omega
      have hw : IntKind.i64.wrap ((L : Int) + 1) = (N : Int) := by rw [HNi.out]; exact IntWalk.i64_in _ (by omega)
      go_wp2
      go_ret
      exact ⟨rfl, hp4.trans hbr⟩

set_option maxRecDepth 100000 in
theorem fnWalkNodes_lifted (os : Os) (started : os.Started) (H : Type) (enc : TypeId × Value → H) :
    ReturnsInHanded {} Try.checked os 13 .any (Rows.fnWalkNodesSpec.pre6 enc Try.prog Try.f13 Rows.fnWalkNodesRow.domain false) (Rows.fnWalkNodesSpec.post enc Try.prog Try.f13 false true false false) := by
  refine returnsInHanded_of_change (C := Try.checked) own started (by kernel_rfl) Try.func13
    (ChangeSpec.witness6 (enc := enc) (C := Try.checked) false ⟨#[], #[.slice none 0 0], []⟩ 8 (by kernel_rfl) (by kernel_rfl) (by kernel_rfl) (by kernel_rfl)) ?_
  intro W base args ds gs before hval0 hW hcnd _
  have hval : ∀ (j : Nat) t v, Try.f13.params[j]? = some t → args[j]? = some v → Value.okWide Try.prog W .any base t v := hval0
  have hW' := hW
  obtain ⟨p, q, hA0, hV, rfl, hfz, hnd⟩ := hW
  have hA : DataW.TrodAll enc Try.prog W 0 (fun _ => true) true Try.f13.params.toList args.toList ds p := hA0
  rw [Try.params13] at hA hval
  obtain ⟨v0, vs0, d0, ds0, p0, q0, hargs, rfl, rfl, h0, r0⟩ := trodAll_cons hA
  obtain ⟨rfl, rfl, rfl⟩ := trodAll_nil r0
  obtain rfl : args = #[v0] := by cases args; simp_all
  obtain ⟨rfl, rfl⟩ := trodVars_none hV
  have k0 := h0
  have lt0 := places_lt k0
  obtain ⟨A0, n0, c0, rfl, hn0, hc0, hb0⟩ := open_bytes (hval 0 48 v0 rfl rfl) h0
  clear hA0 hval0
  refine (fnWalkNodes_walk A0 n0 c0 W hn0 hc0 hb0).mono fun e W' ⟨he, bel⟩ => ?_
  subst he
  exact ⟨_, rfl, _, _, _, [], _, [], hW', trodAll_mk1 (shut_bool Try.underlying4 _), (trodAll_cons_mk (Below.trod laidOut (by kernel_rfl) (of_decide_eq_true (by kernel_rfl)) k0 bel lt0) trodAll_mk0), rfl, bel.frame _, fun h => by cases h⟩

/-- The given statement. -/
theorem fnWalkNodes_proved : Rows.FnWalkNodesSaid :=
  OpenClaim.holds_of_wide 13 Try.f13 rfl rfl rfl rfl rfl rfl rfl ⟨rfl, rfl, rfl, rfl, rfl⟩ rfl rfl rfl rfl rfl (by kernel_rfl) Try.func13 (by kernel_rfl)
    (of_decide_eq_true (by kernel_rfl)) (by unfold Func.isWrapper; first | (rw [if_pos (by decide +kernel)]; kernel_rfl) | (rw [if_neg (by decide +kernel)]; exact ⟨rfl, rfl⟩))
    (fun os started H enc _ => fnWalkNodes_lifted os started H enc)

end Go.Proofs.Ytiihmagdimekgaa
