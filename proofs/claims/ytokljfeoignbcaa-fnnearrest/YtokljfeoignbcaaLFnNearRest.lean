/-
  FnNearRest answers true at every input: what is left of a best way is a best way. No condition.
-/
import Derived.Test.YtokljfeoignbcaaDrawNearWalk
import Derived.Test.YtokljfeoignbcaaOpenB
import Derived.Test.YtokljfeoignbcaaNWalkI
import Derived.Test.YtokljfeoignbcaaPRest
import Derived.Test.YtokljfeoignbcaaWkInts
import Derived.Deep.RegionHeld3
namespace Go.Proofs.Ytokljfeoignbcaa
open Go.ChangeShapes Go.WideShapes Go.ChangeAt Go.RowKit

theorem IntsAt.tail {w : World} {g o : Nat} {z : Int} {zs : List Int} (h : IntsAt w (some ⟨g, o, none⟩) (z :: zs)) : IntsAt w (some ⟨g, o + 1, none⟩) zs := fun k y hk => by
  obtain ⟨g', o', e, hc⟩ := h (k + 1) y (by simpa using hk)
  injection e with e
  injection e with e1 e2
  subst e1 e2
  exact ⟨g, o + 1, rfl, by rw [show o + 1 + k = o + (k + 1) by omega]; exact hc⟩

/-- What is read behind the first way. -/
structure RestS (w0 W : World) (b : Nat) (m : Int) (B : Option Addr) (k cap : Nat) (xs : List ArcD) (gX oX : Nat) (z : Int) (rest : List Int) (p : Addr) (t : Int) : Prop where
  past : Past w0 W
  arcs : ArcsAt W B xs
  n0 : W.cell? ⟨b, 0, none⟩ = some (.int .i64 m)
  n1 : W.cell? ⟨b, 1, none⟩ = some (.slice B k cap)
  z0 : W.cell? ⟨gX, oX, none⟩ = some (.int .i64 z)
  d1 : W.cell? p = some (.int .i64 t)
  rest : IntsAt W (some ⟨gX, oX + 1, none⟩) rest
theorem RestS.below {w0 W W' : World} {b : Nat} {m : Int} {B : Option Addr} {k cap : Nat} {xs : List ArcD} {gX oX : Nat} {z : Int} {rest : List Int} {p : Addr} {t : Int} (h : RestS w0 W b m B k cap xs gX oX z rest p t) (hb : Past W W') : RestS w0 W' b m B k cap xs gX oX z rest p t :=
  ⟨h.past.trans hb, h.arcs.below hb, cell_in hb h.n0, cell_in hb h.n1, cell_in hb h.z0, cell_in hb h.d1, h.rest.below hb⟩
theorem RestS.drew {w0 W : World} {b : Nat} {m : Int} {B : Option Addr} {k cap : Nat} {xs : List ArcD} {gX oX : Nat} {z : Int} {rest : List Int} {p : Addr} {t : Int} (h : RestS w0 W b m B k cap xs gX oX z rest p t) : RestS w0 W.drew b m B k cap xs gX oX z rest p t := h.below (Past.refl W).drew

set_option maxRecDepth 100000 in
set_option maxHeartbeats 2000000 in
theorem fnNearRest_walk (A : Option Addr) (n c : Nat) (w : World) (hn : n ≤ c) (hc : c ≤ maxLen) (hb : BytesAt w A n) :
    Calls Try.prog 11 #[.slice A n c] w fun e w' => e = .returned (.bool true) ∧ Below w.heap.size w w' := by
  by_cases h1 : 1048576 < n
  · have h1' : (1048576 : Int) < (n : Int) := by omega
    go_enter Try.func11, Try.ntmps11
    go_wp2
    go_ret
    exact ⟨rfl, Below.refl _ _⟩
  have h1' : ¬ (1048576 : Int) < (n : Int) := by omega
  go_enter Try.func11, Try.ntmps11
  go_wp2_with fail
  refine (drawNearWalk_any A n c w hn hc hb).mono ?_
  rintro e w1 ⟨m, B, k, cap, xs, na, nb, rfl, hxk, hk, hx1, ⟨_, hform⟩, hb1⟩
  have HX := Lib.hid hxk
  clear hxk hb hn hc
  have hkk : k ≤ 1048576 := by omega
  have hpW : Past w1 (w1.alloc (.cells #[.int .i64 m, .slice B k cap] 30)) := (Past.refl w1).alloc _
  go_wp2_with fail
  refine (implNearWalk_all m B k cap xs na nb _ hkk HX.out (hx1.below hpW) hform).mono ?_
  rintro e w2 ⟨v2, rfl, hv2, hb2⟩
  have b0 := cell_in (p := ⟨w1.heap.size, 0, none⟩) (v := .int .i64 m) hb2 (by go_simp)
  have b1 := cell_in (p := ⟨w1.heap.size, 1, none⟩) (v := .slice B k cap) hb2 (by go_simp)
  have hx2 := (hx1.below hpW).below hb2
  have hp2 : Past w w2 := Past.trans hb1 (hpW.trans hb2)
  obtain ⟨X, cx, rfl, hs2, hoX⟩ := hv2.form
  obtain ⟨ps, hps⟩ : ∃ ps, ps = nearWI m xs na nb := ⟨_, rfl⟩
  obtain ⟨bb, hbb⟩ : ∃ bb, bb = nearWB m xs na nb := ⟨_, rfl⟩
  rw [← hps] at hs2 ⊢
  rw [← hbb]
  obtain ⟨R, hR⟩ : ∃ R, R = ps.length := ⟨_, rfl⟩
  have hR1 : R ≤ 1048576 := by rw [hR, hps]; exact nearWI_len m xs na nb
  rw [← hR]
  have HPS := Lib.hid hps
  have HBB := Lib.hid hbb
  have HR := Lib.hid hR.symm
  have hcX : R ≤ cx := by
    have := hv2
    rw [← hps, ← hR] at this
    rcases this.2 with ⟨e, _⟩ | ⟨g', cap', cur, e, _, _, hc, _⟩
    · injection e with _ e1 e2; omega
    · injection e with _ _ e3; rw [e3, hR]; exact hc
  clear hps hR hv2 hx1 hb1 hb2 hpW hbb hoX
  go_wp2_with fail
  refine (specNearWalk_any m B k cap xs na nb _ hkk HX.out hx2).mono ?_
  rintro e w3 ⟨v3, rfl, hv3, hb3⟩
  obtain ⟨F, cf, rfl, hs3, _⟩ := hv3.form
  rw [← HPS.out] at hs3 ⊢
  rw [← HBB.out, HR.out]
  have b0 := cell_in hb3 b0
  have b1 := cell_in hb3 b1
  have hx3 := hx2.below hb3
  have hs23 := hs2.below hb3
  have hp3 := Past.trans hp2 hb3
  clear hv3 hx2 hs2 hb3 hp2
  have hbe : (bb != bb) = false := by cases bb <;> rfl
  have hbe' : (bb == bb) = true := by cases bb <;> rfl
  go_wp2_with fail
  refine (wkInts_same X F R cx cf ps _ hR1 HR.out hs23 hs3).mono ?_
  rintro e w4 ⟨rfl, hb4⟩
  have b0 := cell_in hb4 b0
  have b1 := cell_in hb4 b1
  have hx4 := hx3.below hb4
  have hs4 := hs23.below hb4
  have hs34 := hs3.below hb4
  have hp4 := Past.trans hp3 hb4
  clear hx3 hs23 hs3 hb4 hp3
  cases hC : ps with
  | nil =>
    obtain rfl : R = 0 := by rw [← HR.out, hC]; rfl
    clear hC
    go_wp2_with fail
    refine (wkInts_same X F 0 cx cf ps _ hR1 HR.out hs4 hs34).mono ?_
    rintro e w7 ⟨rfl, hb7⟩
    go_wp2
    go_ret
    exact ⟨rfl, Past.trans hp4 hb7⟩
  | cons z rest =>
    obtain ⟨j, ⟨f, t, c', l', d⟩, rfl, e2, _, e4, e5, e6⟩ := near_rest (HPS.out.symm.trans hC)
    simp only at e4 e5
    obtain rfl : bb = true := HBB.out.trans e6
    rw [hC] at hs4
    obtain ⟨gX, oX, rfl, z0⟩ := hs4 0 _ rfl
    rw [Nat.add_zero] at z0
    obtain ⟨g3, o3, rfl, d0, d1, _, _, _⟩ := hx4 j _ e2
    obtain ⟨Q, hQ⟩ : ∃ Q, Q = rest.length := ⟨_, rfl⟩
    obtain rfl : R = Q + 1 := by rw [← HR.out, hC, hQ]; rfl
    have q0 : ¬ ((Q : Int) + 1 = 0) := by omega
    have q1 : (0 : Int) < (Q : Int) + 1 := by omega
    have q1' : 0 < Q + 1 := by omega
    have hjk : j < k := by rw [← HX.out]; exact (List.getElem?_eq_some_iff.1 e2).1
    have j0 : (0 : Int) ≤ (j : Int) := by omega
    have j1 : (j : Int) < (k : Int) := by omega
    have HE4 := Lib.hid e4
    have HE5 := Lib.hid e5
    have HQ := Lib.hid hQ
    have htl := hs4.tail
    have hS0 : RestS w w4 w1.heap.size m (some ⟨g3, o3, none⟩) k cap xs gX oX (j : Int) rest ⟨g3, o3 + j * 5 + 1, none⟩ t := ⟨hp4, hx4, b0, b1, z0, d1, htl⟩
    have hS := hS0.drew
    have hlen : (nearWI m xs t nb).length = Q := by rw [HE4.out, HQ.out]
    have HLEN := Lib.hid hlen
    clear hC e2 e4 e5 e6 hs34 hbe hbe' hQ hlen htl hp4 hx4 hs4
    go_upto_region 8 with (fail)
    go_region_held3 (fun w' => w'.cell? ⟨w1.heap.size, 0, none⟩ = some (.int .i64 m) ∧ w'.cell? ⟨w1.heap.size, 1, none⟩ = some (.slice (some ⟨g3, o3, none⟩) k cap) ∧ w'.cell? ⟨gX, oX, none⟩ = some (.int .i64 (j : Int)) ∧ w'.cell? ⟨g3, o3 + j * 5 + 1, none⟩ = some (.int .i64 t))
      (go_keep)
      (first
        | (go_at_call 27; refine (implNearWalk_all m (some ⟨g3, o3, none⟩) k cap xs t nb _ hkk HX.out hS.arcs (.inr ⟨_, _, rfl⟩)).mono ?_; rintro e w9 ⟨v9, rfl, hv9, hb9⟩; obtain ⟨Y, cy, rfl, hy9, _⟩ := hv9.form; rw [HLEN.out, HE5.out]; rw [HE4.out] at hy9; have hS := hS.below hb9; have b0 := hS.n0; have b1 := hS.n1; have z0 := hS.z0; have d1 := hS.d1))
    have hQ1 : Q ≤ 1048576 := by omega
    by_cases hc1 : cx = 1
    · subst hc1
      obtain rfl : Q = 0 := by omega
      obtain rfl : rest = [] := List.eq_nil_of_length_eq_zero HQ.out.symm
      go_wp2_with fail
      refine (wkInts_same Y (some ⟨gX, oX, none⟩) 0 cy 0 [] _ (by omega) rfl hy9 (fun k y hk => by simp at hk)).mono ?_
      rintro e w7 ⟨rfl, hb7⟩
      go_wp2
      go_ret
      exact ⟨rfl, hS.past.trans hb7⟩
    · go_wp2_with fail
      refine (wkInts_same Y (some ⟨gX, oX + 1, none⟩) Q cy (cx - 1) rest _ hQ1 HQ.out.symm hy9 hS.rest).mono ?_
      rintro e w7 ⟨rfl, hb7⟩
      go_wp2
      go_ret
      exact ⟨rfl, hS.past.trans hb7⟩

set_option maxRecDepth 100000 in
theorem fnNearRest_lifted (os : Os) (started : os.Started) (H : Type) (enc : TypeId × Value → H) :
    ReturnsInHanded {} Try.checked os 11 .any (Rows.fnNearRestSpec.pre6 enc Try.prog Try.f11 Rows.fnNearRestRow.domain false) (Rows.fnNearRestSpec.post enc Try.prog Try.f11 false true false false) := by
  refine returnsInHanded_of_change (C := Try.checked) own started (by kernel_rfl) Try.func11
    (ChangeSpec.witness6 (enc := enc) (C := Try.checked) false ⟨#[], #[.slice none 0 0], []⟩ 8 (by kernel_rfl) (by kernel_rfl) (by kernel_rfl) (by kernel_rfl)) ?_
  intro W base args ds gs before hval0 hW hcnd _
  have hval : ∀ (j : Nat) t v, Try.f11.params[j]? = some t → args[j]? = some v → Value.okWide Try.prog W .any base t v := hval0
  have hW' := hW
  obtain ⟨p, q, hA0, hV, rfl, hfz, hnd⟩ := hW
  have hA : DataW.TrodAll enc Try.prog W 0 (fun _ => true) true Try.f11.params.toList args.toList ds p := hA0
  rw [Try.params11] at hA hval
  obtain ⟨v0, vs0, d0, ds0, p0, q0, hargs, rfl, rfl, h0, r0⟩ := trodAll_cons hA
  obtain ⟨rfl, rfl, rfl⟩ := trodAll_nil r0
  obtain rfl : args = #[v0] := by cases args; simp_all
  obtain ⟨rfl, rfl⟩ := trodVars_none hV
  have k0 := h0
  have lt0 := places_lt k0
  obtain ⟨A0, n0, c0, rfl, hn0, hc0, hb0⟩ := open_bytes (hval 0 40 v0 rfl rfl) h0
  clear hA0 hval0
  refine (fnNearRest_walk A0 n0 c0 W hn0 hc0 hb0).mono fun e W' ⟨he, bel⟩ => ?_
  subst he
  exact ⟨_, rfl, _, _, _, [], _, [], hW', trodAll_mk1 (shut_bool Try.underlying4 _), (trodAll_cons_mk (Below.trod laidOut (by kernel_rfl) (of_decide_eq_true (by kernel_rfl)) k0 bel lt0) trodAll_mk0), rfl, bel.frame _, fun h => by cases h⟩

/-- The given statement. -/
theorem fnNearRest_proved : Rows.FnNearRestSaid :=
  OpenClaim.holds_of_wide 11 Try.f11 rfl rfl rfl rfl rfl rfl rfl ⟨rfl, rfl, rfl, rfl, rfl⟩ rfl rfl rfl rfl rfl (by kernel_rfl) Try.func11 (by kernel_rfl)
    (of_decide_eq_true (by kernel_rfl)) (by unfold Func.isWrapper; first | (rw [if_pos (by decide +kernel)]; kernel_rfl) | (rw [if_neg (by decide +kernel)]; exact ⟨rfl, rfl⟩))
    (fun os started H enc _ => fnNearRest_lifted os started H enc)

end Go.Proofs.Ytokljfeoignbcaa
