/-
  FnNearWalk answers true at every input: the best way can be gone, and costs the least. No condition.
-/
import Derived.Test.YtokljfeoignbcaaDrawNearWalk
import Derived.Test.YtokljfeoignbcaaOpenB
import Derived.Test.YtokljfeoignbcaaNWalkI
import Derived.Test.YtokljfeoignbcaaPGone
import Derived.Test.YtokljfeoignbcaaWkEnds
import Derived.Test.YtokljfeoignbcaaPlain2
import Derived.Test.YtokljfeoignbcaaWkInts
import Derived.Deep.RegionWith
namespace Go.Proofs.Ytokljfeoignbcaa
open Go.ChangeShapes Go.WideShapes Go.ChangeAt Go.RowKit

/-- What is read behind the way. -/
structure WayS (w0 W : World) (b : Nat) (m : Int) (B : Option Addr) (k cap : Nat) (xs : List ArcD) (X : Option Addr) (ps : List Int) : Prop where
  past : Past w0 W
  arcs : ArcsAt W B xs
  n0 : W.cell? ⟨b, 0, none⟩ = some (.int .i64 m)
  n1 : W.cell? ⟨b, 1, none⟩ = some (.slice B k cap)
  way : IntsAt W X ps
theorem WayS.below {w0 W W' : World} {b : Nat} {m : Int} {B : Option Addr} {k cap : Nat} {xs : List ArcD} {X : Option Addr} {ps : List Int} (h : WayS w0 W b m B k cap xs X ps) (hb : Past W W') : WayS w0 W' b m B k cap xs X ps :=
  ⟨h.past.trans hb, h.arcs.below hb, cell_in hb h.n0, cell_in hb h.n1, h.way.below hb⟩
theorem WayS.drew {w0 W : World} {b : Nat} {m : Int} {B : Option Addr} {k cap : Nat} {xs : List ArcD} {X : Option Addr} {ps : List Int} (h : WayS w0 W b m B k cap xs X ps) : WayS w0 W.drew b m B k cap xs X ps := h.below (Past.refl W).drew

set_option maxRecDepth 100000 in
set_option maxHeartbeats 2000000 in
theorem fnNearWalk_walk (A : Option Addr) (n c : Nat) (w : World) (hn : n ≤ c) (hc : c ≤ maxLen) (hb : BytesAt w A n) :
    Calls Try.prog 10 #[.slice A n c] w fun e w' => e = .returned (.bool true) ∧ Below w.heap.size w w' := by
  by_cases h1 : 1048576 < n
  · have h1' : (1048576 : Int) < (n : Int) := by omega
    go_enter Try.func10, Try.ntmps10
    go_wp2
    go_ret
    exact ⟨rfl, Below.refl _ _⟩
  have h1' : ¬ (1048576 : Int) < (n : Int) := by omega
  go_enter Try.func10, Try.ntmps10
  go_wp2_with fail
  refine (drawNearWalk_any A n c w hn hc hb).mono ?_
  rintro e w1 ⟨m, B, k, cap, xs, na, nb, rfl, hxk, hk, hx1, ⟨_, hform⟩, hb1⟩
  have HX := Lib.hid hxk
  clear hxk hb hn hc
  have hkk : k ≤ 1048576 := by omega
  have hpW : Past w1 (w1.alloc (.cells #[.int .i64 m, .slice B k cap] 30)) := (Past.refl w1).alloc _
  go_wp2_with fail
  refine (implNearWalk_all m B k cap xs na nb _ hkk HX.out (hx1.below hpW) hform).mono ?_
  rintro e w2 ⟨v2, rfl, hv2, hb2⟩
  have b0 := cell_in (p := ⟨w1.heap.size, 0, none⟩) (v := .int .i64 m) hb2 (by go_simp)
  have b1 := cell_in (p := ⟨w1.heap.size, 1, none⟩) (v := .slice B k cap) hb2 (by go_simp)
  have hx2 := (hx1.below hpW).below hb2
  have hp2 : Past w w2 := Past.trans hb1 (hpW.trans hb2)
  obtain ⟨X, cx, rfl, hs2, hoX⟩ := hv2.form
  obtain ⟨ps, hps⟩ : ∃ ps, ps = nearWI m xs na nb := ⟨_, rfl⟩
  obtain ⟨bb, hbb⟩ : ∃ bb, bb = nearWB m xs na nb := ⟨_, rfl⟩
  rw [← hps] at hs2 ⊢
  rw [← hbb]
  obtain ⟨R, hR⟩ : ∃ R, R = ps.length := ⟨_, rfl⟩
  have hR1 : R ≤ 1048576 := by rw [hR, hps]; exact nearWI_len m xs na nb
  rw [← hR]
  have HPS := Lib.hid hps
  have HBB := Lib.hid hbb
  have HR := Lib.hid hR.symm
  clear hps hR hv2 hx1 hb1 hb2 hpW hbb hoX
  go_wp2_with fail
  refine (specNearWalk_any m B k cap xs na nb _ hkk HX.out hx2).mono ?_
  rintro e w3 ⟨v3, rfl, hv3, hb3⟩
  obtain ⟨F, cf, rfl, hs3, _⟩ := hv3.form
  rw [← HPS.out] at hs3 ⊢
  rw [← HBB.out, HR.out]
  have b0 := cell_in hb3 b0
  have b1 := cell_in hb3 b1
  have hx3 := hx2.below hb3
  have hs23 := hs2.below hb3
  have hp3 := Past.trans hp2 hb3
  clear hv3 hx2 hs2 hb3 hp2
  have hbe : (bb != bb) = false := by cases bb <;> rfl
  have hbe' : (bb == bb) = true := by cases bb <;> rfl
  go_wp2_with fail
  refine (wkInts_same X F R cx cf ps _ hR1 HR.out hs23 hs3).mono ?_
  rintro e w4 ⟨rfl, hb4⟩
  have b0 := cell_in hb4 b0
  have b1 := cell_in hb4 b1
  have hx4 := hx3.below hb4
  have hs4 := hs23.below hb4
  have hs34 := hs3.below hb4
  have hp4 := Past.trans hp3 hb4
  clear hx3 hs23 hs3 hb4 hp3
  cases hC : bb with
  | false =>
    subst hC
    clear hbe hbe'
    go_wp2_with fail
    refine (wkInts_same X F R cx cf ps _ hR1 HR.out hs4 hs34).mono ?_
    rintro e w7 ⟨rfl, hb7⟩
    go_wp2
    go_ret
    exact ⟨rfl, Past.trans hp4 hb7⟩
  | true =>
    subst hC
    obtain ⟨g1, g2, g3, g4, g5, g6, g7, g8, g9, M, rfl⟩ := near_gone HBB.out.symm
    rw [← HPS.out] at g1 g2 g3 g4 g5 g6
    rw [Int.toNat_natCast] at g7
    obtain ⟨T, rfl⟩ : ∃ T : Nat, nb = (T : Int) := ⟨nb.toNat, by omega⟩
    have hTM : T < M := by omega
    have t0 : (0 : Int) ≤ (T : Int) := by omega
    have t1 : (T : Int) < (M : Int) := g9
    obtain ⟨z, hz⟩ : ∃ z, z = costI (M : Int) xs ps := ⟨_, rfl⟩
    have hat : at_ (nearI (M : Int) xs na) (T : Int) = z := by rw [hz]; exact g2.symm
    have HZ := Lib.hid hz.symm
    have HAT := Lib.hid hat
    have HLEN := Lib.hid g7
    have G1 := Lib.hid g1
    have G3 := Lib.hid g3
    have G4 := Lib.hid g4
    have G5 := Lib.hid g5
    have hS0 : WayS w w4 w1.heap.size (M : Int) B k cap xs X ps := ⟨hp4, hx4, b0, b1, hs4⟩
    clear hbe hbe' hs34 g1 g2 g3 g4 g5 g6 g7 hz hat hp4 hx4 hs4
    go_upto_region 8 with (fail)
    have hS := hS0.drew
    go_region_with (first
      | (go_at_call 35; refine (wkEnds_true (M : Int) B X k cap R cx xs ps na (T : Int) _ hkk hR1 HX.out HR.out hS.arcs hS.way G1.out G4.out G5.out).mono ?_; rintro e w9 ⟨rfl, hb9⟩; have hS := hS.below hb9; have b0 := hS.n0; have b1 := hS.n1; clear hb9)
      | (go_at_call 36; refine (implWalkCost_any (M : Int) B X k cap R cx xs ps _ hkk hR1 HX.out HR.out hS.arcs hS.way).mono ?_; rintro e w9 ⟨rfl, hb9⟩; rw [HZ.out]; have hS := hS.below hb9; have b0 := hS.n0; have b1 := hS.n1; clear hb9)
      | (go_at_call 18; refine (implNearAll_any (M : Int) B k cap xs na _ hkk HX.out hS.arcs).mono ?_; rintro e w9 ⟨v9, rfl, hv9, hb9⟩; obtain ⟨Y, cy, rfl, hy9, _⟩ := hv9.form; rw [HLEN.out]; obtain ⟨gy, oy, rfl, cT⟩ := hy9 T z (by rw [← HAT.out]; exact getElem_at _ T (by rw [HLEN.out]; exact hTM)); have hS := hS.below hb9; have b0 := hS.n0; have b1 := hS.n1; clear hb9 hv9 hy9)
      | (go_at_call 37; refine (implWalkPlain_any (M : Int) B X k cap R cx xs ps _ hkk hR1 HX.out HR.out hS.arcs hS.way).mono ?_; rintro e w9 ⟨v9, rfl, hv9, hb9⟩; rw [G3.out] at hv9; obtain ⟨Y2, cy2, rfl, hy2, _⟩ := hv9.form; rw [HR.out]; have hS := hS.below hb9; have b0 := hS.n0; have b1 := hS.n1; clear hb9 hv9)
      | (go_at_call 31; refine (wkInts_same Y2 X R cy2 cx ps _ hR1 HR.out hy2 hS.way).mono ?_; rintro e w9 ⟨rfl, hb9⟩; have hS := hS.below hb9; clear hb9))
    all_goals go_wp2
    all_goals go_ret
    all_goals exact ⟨rfl, hS.past⟩

set_option maxRecDepth 100000 in
theorem fnNearWalk_lifted (os : Os) (started : os.Started) (H : Type) (enc : TypeId × Value → H) :
    ReturnsInHanded {} Try.checked os 10 .any (Rows.fnNearWalkSpec.pre6 enc Try.prog Try.f10 Rows.fnNearWalkRow.domain false) (Rows.fnNearWalkSpec.post enc Try.prog Try.f10 false true false false) := by
  refine returnsInHanded_of_change (C := Try.checked) own started (by kernel_rfl) Try.func10
    (ChangeSpec.witness6 (enc := enc) (C := Try.checked) false ⟨#[], #[.slice none 0 0], []⟩ 8 (by kernel_rfl) (by kernel_rfl) (by kernel_rfl) (by kernel_rfl)) ?_
  intro W base args ds gs before hval0 hW hcnd _
  have hval : ∀ (j : Nat) t v, Try.f10.params[j]? = some t → args[j]? = some v → Value.okWide Try.prog W .any base t v := hval0
  have hW' := hW
  obtain ⟨p, q, hA0, hV, rfl, hfz, hnd⟩ := hW
  have hA : DataW.TrodAll enc Try.prog W 0 (fun _ => true) true Try.f10.params.toList args.toList ds p := hA0
  rw [Try.params10] at hA hval
  obtain ⟨v0, vs0, d0, ds0, p0, q0, hargs, rfl, rfl, h0, r0⟩ := trodAll_cons hA
  obtain ⟨rfl, rfl, rfl⟩ := trodAll_nil r0
  obtain rfl : args = #[v0] := by cases args; simp_all
  obtain ⟨rfl, rfl⟩ := trodVars_none hV
  have k0 := h0
  have lt0 := places_lt k0
  obtain ⟨A0, n0, c0, rfl, hn0, hc0, hb0⟩ := open_bytes (hval 0 40 v0 rfl rfl) h0
  clear hA0 hval0
  refine (fnNearWalk_walk A0 n0 c0 W hn0 hc0 hb0).mono fun e W' ⟨he, bel⟩ => ?_
  subst he
  exact ⟨_, rfl, _, _, _, [], _, [], hW', trodAll_mk1 (shut_bool Try.underlying4 _), (trodAll_cons_mk (Below.trod laidOut (by kernel_rfl) (of_decide_eq_true (by kernel_rfl)) k0 bel lt0) trodAll_mk0), rfl, bel.frame _, fun h => by cases h⟩

/-- The given statement. -/
theorem fnNearWalk_proved : Rows.FnNearWalkSaid :=
  OpenClaim.holds_of_wide 10 Try.f10 rfl rfl rfl rfl rfl rfl rfl ⟨rfl, rfl, rfl, rfl, rfl⟩ rfl rfl rfl rfl rfl (by kernel_rfl) Try.func10 (by kernel_rfl)
    (of_decide_eq_true (by kernel_rfl)) (by unfold Func.isWrapper; first | (rw [if_pos (by decide +kernel)]; kernel_rfl) | (rw [if_neg (by decide +kernel)]; exact ⟨rfl, rfl⟩))
    (fun os started H enc _ => fnNearWalk_lifted os started H enc)

end Go.Proofs.Ytokljfeoignbcaa
