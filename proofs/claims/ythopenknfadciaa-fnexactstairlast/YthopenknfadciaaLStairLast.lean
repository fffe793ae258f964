/-
  FnExactStairLast answers true at every input: impl.StairLast answers as spec.StairLast, leaves its arguments alone. No condition.
-/
import Derived.Test.YthopenknfadciaaStairLast
import Derived.Test.YthopenknfadciaaOpenW
import Derived.Test.YthopenknfadciaaMarkB
import Derived.Test.YthopenknfadciaaRStepL
namespace Go.Proofs.Ythopenknfadciaa
open Go.ChangeShapes Go.WideShapes Go.ChangeAt Go.RowKit

set_option maxRecDepth 100000 in
set_option maxHeartbeats 2000000 in
theorem exactStairLast_walk (A0 : Option Addr) (n0 c0 : Nat) (xs0 : List StepD) (z1 : Int) (w : World) (hn0 : n0 ≤ maxLen) (hl0 : xs0.length = n0) (hx0 : StepsAt w A0 xs0) :
    Calls Try.prog 8 #[.slice A0 n0 c0, .int .i64 z1] w fun e w' => e = .returned (.bool true) ∧ Below w.heap.size w w' := by
  have HX0 := Lib.hid hl0
  clear hl0
  have hP : Past w w := (Past.refl w)
  go_enter Try.func8, Try.ntmps8
  go_wp2_with fail
  refine (szStepS_any A0 n0 c0 (1048576) _ (by omega) (by omega) hn0).mono ?_
  rintro e w_ ⟨rfl, rfl⟩
  by_cases h20s_0 : (n0 : Int) ≤ 1048576
  rotate_left
  · have hr : roomLeft (1048576) n0 = -1 := by unfold roomLeft; rw [if_pos (by omega)]
    rw [hr]
    go_wp2
    go_ret
    exact ⟨rfl, hP⟩
  have hr : roomLeft (1048576) n0 = 1048576 - n0 := by unfold roomLeft; rw [if_neg (by omega)]
  rw [hr]
  clear hr
  have h20_0 : n0 ≤ 1048576 := by omega
  go_wp2_with fail
  refine (toStepS_any A0 n0 c0 xs0 _ h20_0 HX0.out hx0).mono ?_
  rintro e w1 ⟨sg0, rfl, hb, hg, sm0⟩
  have hx0 := hx0.below hb
  have hP := Past.trans hP hb
  have s1 := hb.size
  clear hb hg
  go_wp2_with fail
  refine (specStairLast_any _ n0 n0 xs0 z1 _ h20_0 HX0.out (sm0.at_ HX0.out)).mono ?_
  rintro e w2 ⟨rfl, hb⟩
  have hx0 := hx0.below hb
  have sm0 := sm0.below hb
  have hP := Past.trans hP hb
  have s2 := hb.size
  clear hb
  clear sm0
  have hx0E := hx0
  have sP := hP.size
  go_wp2_with fail
  refine (toStepS_any A0 n0 c0 xs0 _ h20_0 HX0.out hx0).mono ?_
  rintro e w3 ⟨g0, rfl, hb, hg0, hm0⟩
  have sg0 := hm0.1.lt
  have hx0 := hx0.below hb
  have hP := Past.trans hP hb
  have s3 := hb.size
  clear hb
  go_wp2_with fail
  refine (implStairLast_any _ n0 n0 xs0 z1 _ h20_0 HX0.out (hm0.at_ HX0.out)).mono ?_
  rintro e w4 ⟨rfl, hb⟩
  have hx0 := hx0.below hb
  have hm0 := hm0.below hb
  have hP := Past.trans hP hb
  have s4 := hb.size
  clear hb
  go_wp2_with fail
  refine (toStepS_any A0 n0 c0 xs0 _ h20_0 HX0.out hx0).mono ?_
  rintro e w5 ⟨gq, rfl, hb, hgq, hmq⟩
  have hx0 := hx0.below hb
  have hm0 := hm0.below hb
  have hP := Past.trans hP hb
  have s5 := hb.size
  clear hb hgq
  go_wp2_with fail
  refine (eqStepS_same _ _ n0 n0 n0 xs0 _ h20_0 HX0.out (hm0.at_ HX0.out) (hmq.at_ HX0.out)).mono ?_
  rintro e w6 ⟨rfl, hb⟩
  have hx0 := hx0.below hb
  have hm0 := hm0.below hb
  have hP := Past.trans hP hb
  have s6 := hb.size
  clear hb hmq
  go_wp2
  go_ret
  exact ⟨rfl, hP⟩

set_option maxRecDepth 100000 in
theorem exactStairLast_lifted (os : Os) (started : os.Started) (H : Type) (enc : TypeId × Value → H) :
    ReturnsInHanded {} Try.checked os 8 .any (Rows.fnExactStairLastSpec.pre6 enc Try.prog Try.f8 Rows.fnExactStairLastRow.domain false) (Rows.fnExactStairLastSpec.post enc Try.prog Try.f8 false true false false) := by
  refine returnsInHanded_of_change (C := Try.checked) own started (by kernel_rfl) Try.func8
    (ChangeSpec.witness6 (enc := enc) (C := Try.checked) false ⟨#[], #[.slice none 0 0, .int .i64 0], []⟩ 8 (by kernel_rfl) (by kernel_rfl) (by kernel_rfl) (by kernel_rfl)) ?_
  intro W base args ds gs before hval0 hW hcnd _
  have hval : ∀ (j : Nat) t v, Try.f8.params[j]? = some t → args[j]? = some v → Value.okWide Try.prog W .any base t v := hval0
  have hW' := hW
  obtain ⟨p, q, hA0, hV, rfl, hfz, hnd⟩ := hW
  have hA : DataW.TrodAll enc Try.prog W 0 (fun _ => true) true Try.f8.params.toList args.toList ds p := hA0
  rw [Try.params8] at hA hval
  obtain ⟨v0, vs0, d0, ds0, p0, q0, hargs, rfl, rfl, h0, r0⟩ := trodAll_cons hA
  obtain ⟨v1, vs1, d1, ds1, p1, q1, rfl, rfl, rfl, h1, r1⟩ := trodAll_cons r0
  obtain ⟨rfl, rfl, rfl⟩ := trodAll_nil r1
  obtain rfl : args = #[v0, v1] := by cases args; simp_all
  obtain ⟨rfl, rfl⟩ := trodVars_none hV
  have k0 := h0
  have lt0 := places_lt k0
  have k1 := h1
  have lt1 := places_lt k1
  obtain ⟨A0, n0, c0, xs0, rfl, hl0, hn0, hx0⟩ := open_Step (hval 0 22 v0 rfl rfl) h0
  obtain ⟨z1, rfl⟩ := okWide_int Try.underlying3 (hval 1 3 v1 rfl rfl)
  clear hA0 hval0
  refine (exactStairLast_walk A0 n0 c0 xs0 z1 W hn0 hl0 hx0).mono fun e W' ⟨he, bel⟩ => ?_
  subst he
  exact ⟨_, rfl, _, _, _, [], _, [], hW', trodAll_mk1 (shut_bool Try.underlying4 _), (trodAll_cons_mk (Below.trod laidOut (by kernel_rfl) (of_decide_eq_true (by kernel_rfl)) k0 bel lt0) (trodAll_cons_mk (Below.trod laidOut (by kernel_rfl) (of_decide_eq_true (by kernel_rfl)) k1 bel lt1) trodAll_mk0)), rfl, bel.frame _, fun h => by cases h⟩

/-- The given statement. -/
theorem exactStairLast_proved : Rows.FnExactStairLastSaid :=
  OpenClaim.holds_of_wide 8 Try.f8 rfl rfl rfl rfl rfl rfl rfl ⟨rfl, rfl, rfl, rfl, rfl⟩ rfl rfl rfl rfl rfl (by kernel_rfl) Try.func8 (by kernel_rfl)
    (of_decide_eq_true (by kernel_rfl)) (by unfold Func.isWrapper; first | (rw [if_pos (by decide +kernel)]; kernel_rfl) | (rw [if_neg (by decide +kernel)]; exact ⟨rfl, rfl⟩))
    (fun os started H enc _ => exactStairLast_lifted os started H enc)

end Go.Proofs.Ythopenknfadciaa
