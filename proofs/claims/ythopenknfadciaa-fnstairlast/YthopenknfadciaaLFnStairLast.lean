/-
  FnStairLast answers true at every input: who goes at the latest comes in time, and who goes later does not. No condition.
-/
import Derived.Test.YthopenknfadciaaDrawStairA
import Derived.Test.YthopenknfadciaaStairLast
import Derived.Test.YthopenknfadciaaStairAtI
import Derived.Test.YthopenknfadciaaPStair2
namespace Go.Proofs.Ythopenknfadciaa
open Go.ChangeShapes Go.WideShapes Go.ChangeAt Go.RowKit

set_option maxRecDepth 100000 in
set_option maxHeartbeats 2000000 in
theorem fnStairLast_walk (A : Option Addr) (n c : Nat) (w : World) (hn : n ≤ c) (hc : c ≤ maxLen) (hb : BytesAt w A n) :
    Calls Try.prog 11 #[.slice A n c] w fun e w' => e = .returned (.bool true) ∧ Below w.heap.size w w' := by
  by_cases h1 : 1048576 < n
  · have h1' : (1048576 : Int) < (n : Int) := by omega
    go_enter Try.func11, Try.ntmps11
    go_wp2
    go_ret
    exact ⟨rfl, Below.refl _ _⟩
  have h1' : ¬ (1048576 : Int) < (n : Int) := by omega
  go_enter Try.func11, Try.ntmps11
  go_wp2_with fail
  refine (drawStairLast_any A n c w hn hc hb).mono ?_
  rintro e w1 ⟨v, zs, t, rfl, hzl, ht0, ht1, hv, hb1⟩
  obtain ⟨D, cd, rfl, hx1, _⟩ := hv.form
  obtain ⟨L, hL⟩ : ∃ L, L = zs.length := ⟨_, rfl⟩
  rw [← hL] at hzl ⊢
  have HL := Lib.hid hL.symm
  clear hL hv hb hn hc
  go_wp2_with fail
  refine (implStairLast_any D L cd zs t _ (by omega) HL.out hx1).mono ?_
  rintro e w2 ⟨rfl, hb2⟩
  have hx2 := hx1.below hb2
  have hp2 := Past.trans hb1 hb2
  go_wp2_with fail
  refine (specStairLast_any D L cd zs t _ (by omega) HL.out hx2).mono ?_
  rintro e w3 ⟨rfl, hb3⟩
  have hx3 := hx2.below hb3
  have hp3 := Past.trans hp2 hb3
  go_wp2_with fail
  refine (implStairOk_any D L cd zs _ (by omega) HL.out hx3).mono ?_
  rintro e w4 ⟨rfl, hb4⟩
  have hx4 := hx3.below hb4
  have hp4 := Past.trans hp3 hb4
  clear hx1 hx2 hx3 hb1 hb2 hb3 hb4 hp2 hp3
  cases hs : stairB zs with
  | false =>
    clear hs
    go_wp2_with fail
    refine (specStairLast_any D L cd zs t _ (by omega) HL.out hx4).mono ?_
    rintro e w5 ⟨rfl, hb5⟩
    go_wp2
    go_ret
    exact ⟨rfl, Past.trans hp4 hb5⟩
  | true =>
    have HS := Lib.hid hs
    obtain ⟨q, hq⟩ : ∃ q, q = lastTo zs t zs.length := ⟨_, rfl⟩
    have hv : lastB zs t = q := by rw [lastB, hs, hq]; rfl
    have hla := last_late hs t (by unfold far; omega)
    have hti := last_time hs t
    rw [← hq] at hla hti
    have hq1 : -1 ≤ q ∧ q ≤ 199 := by
      rcases lastTo_cases zs t zs.length (Nat.le_refl _) with ⟨e, _⟩ | ⟨k, s, _, h4, _, h6, _⟩
      · rw [hq, e]; omega
      · have := (stOk_iff s).1 (stairB_ok hs s (List.mem_of_getElem? h4))
        rw [hq, h6]; omega
    rw [hv]
    have HTI := Lib.hid hti
    have HLA := Lib.hid hla
    clear hs hq hv hti hla
    obtain ⟨hq1, hq2⟩ := hq1
    by_cases hneg : q < 0
    · go_wp2_with fail
      refine (implStairAt_any D L cd zs _ _ (by omega) HL.out hx4).mono ?_
      rintro e w5 ⟨rfl, hb5⟩
      have hat : atB zs (q + 1) = atI zs (q + 1) := by rw [atB, HS.out]; rfl
      rw [hat]
      have hla := HLA.out
      clear hat
      go_wp2
      go_ret
      exact ⟨ret_bool (by simp), Past.trans hp4 hb5⟩
    · go_wp2_with fail
      refine (implStairAt_any D L cd zs _ _ (by omega) HL.out hx4).mono ?_
      rintro e w5 ⟨rfl, hb5⟩
      have hat : atB zs q = atI zs q := by rw [atB, HS.out]; rfl
      rw [hat]
      have hti := HTI.out hneg
      clear hat
      go_wp2_with fail
      refine (implStairAt_any D L cd zs _ _ (by omega) HL.out (hx4.below hb5)).mono ?_
      rintro e w6 ⟨rfl, hb6⟩
      have hat : atB zs (q + 1) = atI zs (q + 1) := by rw [atB, HS.out]; rfl
      rw [hat]
      have hla := HLA.out
      clear hat
      go_wp2
      go_ret
      exact ⟨ret_bool (by simp), Past.trans hp4 (Past.trans hb5 hb6)⟩

set_option maxRecDepth 100000 in
theorem fnStairLast_lifted (os : Os) (started : os.Started) (H : Type) (enc : TypeId × Value → H) :
    ReturnsInHanded {} Try.checked os 11 .any (Rows.fnStairLastSpec.pre6 enc Try.prog Try.f11 Rows.fnStairLastRow.domain false) (Rows.fnStairLastSpec.post enc Try.prog Try.f11 false true false false) := by
  refine returnsInHanded_of_change (C := Try.checked) own started (by kernel_rfl) Try.func11
    (ChangeSpec.witness6 (enc := enc) (C := Try.checked) false ⟨#[], #[.slice none 0 0], []⟩ 8 (by kernel_rfl) (by kernel_rfl) (by kernel_rfl) (by kernel_rfl)) ?_
  intro W base args ds gs before hval0 hW hcnd _
  have hval : ∀ (j : Nat) t v, Try.f11.params[j]? = some t → args[j]? = some v → Value.okWide Try.prog W .any base t v := hval0
  have hW' := hW
  obtain ⟨p, q, hA0, hV, rfl, hfz, hnd⟩ := hW
  have hA : DataW.TrodAll enc Try.prog W 0 (fun _ => true) true Try.f11.params.toList args.toList ds p := hA0
  rw [Try.params11] at hA hval
  obtain ⟨v0, vs0, d0, ds0, p0, q0, hargs, rfl, rfl, h0, r0⟩ := trodAll_cons hA
  obtain ⟨rfl, rfl, rfl⟩ := trodAll_nil r0
  obtain rfl : args = #[v0] := by cases args; simp_all
  obtain ⟨rfl, rfl⟩ := trodVars_none hV
  have k0 := h0
  have lt0 := places_lt k0
  obtain ⟨A0, n0, c0, rfl, hn0, hc0, hb0⟩ := open_bytes (hval 0 38 v0 rfl rfl) h0
  clear hA0 hval0
  refine (fnStairLast_walk A0 n0 c0 W hn0 hc0 hb0).mono fun e W' ⟨he, bel⟩ => ?_
  subst he
  exact ⟨_, rfl, _, _, _, [], _, [], hW', trodAll_mk1 (shut_bool Try.underlying4 _), (trodAll_cons_mk (Below.trod laidOut (by kernel_rfl) (of_decide_eq_true (by kernel_rfl)) k0 bel lt0) trodAll_mk0), rfl, bel.frame _, fun h => by cases h⟩

/-- The given statement. -/
theorem fnStairLast_proved : Rows.FnStairLastSaid :=
  OpenClaim.holds_of_wide 11 Try.f11 rfl rfl rfl rfl rfl rfl rfl ⟨rfl, rfl, rfl, rfl, rfl⟩ rfl rfl rfl rfl rfl (by kernel_rfl) Try.func11 (by kernel_rfl)
    (of_decide_eq_true (by kernel_rfl)) (by unfold Func.isWrapper; first | (rw [if_pos (by decide +kernel)]; kernel_rfl) | (rw [if_neg (by decide +kernel)]; exact ⟨rfl, rfl⟩))
    (fun os started H enc _ => fnStairLast_lifted os started H enc)

end Go.Proofs.Ythopenknfadciaa
