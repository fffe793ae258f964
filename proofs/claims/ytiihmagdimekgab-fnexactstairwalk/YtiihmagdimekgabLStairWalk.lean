/-
  FnExactStairWalk answers true at every input: impl.StairWalk answers as spec.StairWalk, leaves its arguments alone and owns its answer. No condition.
-/
import Derived.Test.YtiihmagdimekgabStairWalk
import Derived.Test.YtiihmagdimekgabOpenW
import Derived.Test.YtiihmagdimekgabMarkB
import Derived.Test.YtiihmagdimekgabRStep
namespace Go.Proofs.Ytiihmagdimekgab
open Go.ChangeShapes Go.WideShapes Go.ChangeAt Go.RowKit

set_option maxRecDepth 100000 in
set_option maxHeartbeats 2000000 in
theorem exactStairWalk_walk (z0 : Int) (z1 : Int) (z2 : Int) (w : World)  :
    Calls Try.prog 9 #[.int .i64 z0, .int .i64 z1, .int .i64 z2] w fun e w' => e = .returned (.bool true) ∧ Below w.heap.size w w' := by
  have hP : Past w w := (Past.refl w)
  go_enter Try.func9, Try.ntmps9
  go_wp2_with fail
  refine (specStairWalk_any z0 z1 z2 _ ).mono ?_
  rintro e w1 ⟨v4, rfl, hv4, hb⟩
  have hzl := walkI_len z0 z1 z2
  obtain ⟨zs, hzs⟩ : ∃ zs, zs = walkI z0 z1 z2 := ⟨_, rfl⟩
  rw [← hzs] at hv4 hzl
  obtain ⟨N, hN⟩ : ∃ N, N = zs.length := ⟨_, rfl⟩
  obtain ⟨A4, c4, rfl, hz, ho4⟩ := hv4.form
  rw [← hN] at hzl
  have HZ := Lib.hid hzs
  have HN := Lib.hid hN
  rw [← hN]
  clear hN hzs hv4 ho4
  have hP := Past.trans hP hb
  have s1 := hb.size
  clear hb
  have hzE := hz
  have sP := hP.size
  go_wp2_with fail
  refine (implStairWalk_any z0 z1 z2 _ ).mono ?_
  rintro e w2 ⟨v7, rfl, hv7, hb⟩
  rw [← HZ.out] at hv7
  obtain ⟨A7, c7, rfl, hi, ho⟩ := hv7.form
  rw [← HN.out] at ho
  rw [← HN.out]
  clear hv7
  have hz := hz.below hb
  have hP := Past.trans hP hb
  have s2 := hb.size
  clear hb
  go_wp2_with fail
  refine (eqStepS_same A7 A4 N c7 c4 zs _ hzl HN.out.symm hi hz).mono ?_
  rintro e w3 ⟨rfl, hb⟩
  have hz := hz.below hb
  have hi := hi.below hb
  have ho := ho.below hb
  have hP := Past.trans hP hb
  have s3 := hb.size
  clear hb
  go_wp2_with fail
  refine (markStepS_any A7 N c7 1 w1.heap.size 42 _ hzl _ rfl (by omega) ho).mono ?_
  rintro e w4 ⟨rfl, hb, hk⟩
  have hbl : Below w1.heap.size w3 w4 := below_own hb ho (by omega)
  have hP : Past w w4 := below_marked hP hb ho (by omega)
  clear hi ho
  have hz := StepsAt.under hzE hz hbl (by omega)
  clear hb hbl
  go_wp2_with fail
  refine (heldStepS_any A7 N c7 1 _ hzl _ rfl (by omega) hk).mono ?_
  rintro e w_ ⟨rfl, rfl⟩
  have hqn : ¬ (((1 : Nat) : Int) + 2 * (N : Int) < 0) := by omega
  go_wp2_with fail
  refine (implStairWalk_any z0 z1 z2 _ ).mono ?_
  rintro e w5 ⟨v20, rfl, hv20, hb⟩
  rw [← HZ.out] at hv20
  obtain ⟨A20, c20, rfl, hi20, ho20⟩ := hv20.form
  rw [← HN.out]
  clear hv20 ho20
  have hz := hz.below hb
  have hk := hk.below hb
  have hP := Past.trans hP hb
  have s5 := hb.size
  clear hb
  go_wp2_with fail
  refine (eqStepS_same A20 A4 N c20 c4 zs _ hzl HN.out.symm hi20 hz).mono ?_
  rintro e w6 ⟨rfl, hb⟩
  have hz := hz.below hb
  have hk := hk.below hb
  have hP := Past.trans hP hb
  have s6 := hb.size
  clear hb
  go_wp2_with fail
  refine (heldStepS_any A7 N c7 1 _ hzl _ rfl (by omega) hk).mono ?_
  rintro e w_ ⟨rfl, rfl⟩
  go_wp2
  go_ret
  exact ⟨rfl, hP⟩

set_option maxRecDepth 100000 in
theorem exactStairWalk_lifted (os : Os) (started : os.Started) (H : Type) (enc : TypeId × Value → H) :
    ReturnsInHanded {} Try.checked os 9 .any (Rows.fnExactStairWalkSpec.pre6 enc Try.prog Try.f9 Rows.fnExactStairWalkRow.domain false) (Rows.fnExactStairWalkSpec.post enc Try.prog Try.f9 false true false false) := by
  refine returnsInHanded_of_change (C := Try.checked) own started (by kernel_rfl) Try.func9
    (ChangeSpec.witness6 (enc := enc) (C := Try.checked) false ⟨#[], #[.int .i64 0, .int .i64 0, .int .i64 0], []⟩ 8 (by kernel_rfl) (by kernel_rfl) (by kernel_rfl) (by kernel_rfl)) ?_
  intro W base args ds gs before hval0 hW hcnd _
  have hval : ∀ (j : Nat) t v, Try.f9.params[j]? = some t → args[j]? = some v → Value.okWide Try.prog W .any base t v := hval0
  have hW' := hW
  obtain ⟨p, q, hA0, hV, rfl, hfz, hnd⟩ := hW
  have hA : DataW.TrodAll enc Try.prog W 0 (fun _ => true) true Try.f9.params.toList args.toList ds p := hA0
  rw [Try.params9] at hA hval
  obtain ⟨v0, vs0, d0, ds0, p0, q0, hargs, rfl, rfl, h0, r0⟩ := trodAll_cons hA
  obtain ⟨v1, vs1, d1, ds1, p1, q1, rfl, rfl, rfl, h1, r1⟩ := trodAll_cons r0
  obtain ⟨v2, vs2, d2, ds2, p2, q2, rfl, rfl, rfl, h2, r2⟩ := trodAll_cons r1
  obtain ⟨rfl, rfl, rfl⟩ := trodAll_nil r2
  obtain rfl : args = #[v0, v1, v2] := by cases args; simp_all
  obtain ⟨rfl, rfl⟩ := trodVars_none hV
  have k0 := h0
  have lt0 := places_lt k0
  have k1 := h1
  have lt1 := places_lt k1
  have k2 := h2
  have lt2 := places_lt k2
  obtain ⟨z0, rfl⟩ := okWide_int Try.underlying3 (hval 0 3 v0 rfl rfl)
  obtain ⟨z1, rfl⟩ := okWide_int Try.underlying3 (hval 1 3 v1 rfl rfl)
  obtain ⟨z2, rfl⟩ := okWide_int Try.underlying3 (hval 2 3 v2 rfl rfl)
  clear hA0 hval0
  refine (exactStairWalk_walk z0 z1 z2 W ).mono fun e W' ⟨he, bel⟩ => ?_
  subst he
  exact ⟨_, rfl, _, _, _, [], _, [], hW', trodAll_mk1 (shut_bool Try.underlying4 _), (trodAll_cons_mk (Below.trod laidOut (by kernel_rfl) (of_decide_eq_true (by kernel_rfl)) k0 bel lt0) (trodAll_cons_mk (Below.trod laidOut (by kernel_rfl) (of_decide_eq_true (by kernel_rfl)) k1 bel lt1) (trodAll_cons_mk (Below.trod laidOut (by kernel_rfl) (of_decide_eq_true (by kernel_rfl)) k2 bel lt2) trodAll_mk0))), rfl, bel.frame _, fun h => by cases h⟩

/-- The given statement. -/
theorem exactStairWalk_proved : Rows.FnExactStairWalkSaid :=
  OpenClaim.holds_of_wide 9 Try.f9 rfl rfl rfl rfl rfl rfl rfl ⟨rfl, rfl, rfl, rfl, rfl⟩ rfl rfl rfl rfl rfl (by kernel_rfl) Try.func9 (by kernel_rfl)
    (of_decide_eq_true (by kernel_rfl)) (by unfold Func.isWrapper; first | (rw [if_pos (by decide +kernel)]; kernel_rfl) | (rw [if_neg (by decide +kernel)]; exact ⟨rfl, rfl⟩))
    (fun os started H enc _ => exactStairWalk_lifted os started H enc)

end Go.Proofs.Ytiihmagdimekgab
