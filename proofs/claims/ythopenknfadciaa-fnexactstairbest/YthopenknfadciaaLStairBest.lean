/-
  FnExactStairBest answers true at every input: impl.StairBest answers as spec.StairBest, leaves its arguments alone and owns its answer. No condition.
-/
import Derived.Test.YthopenknfadciaaStairBest
import Derived.Test.YthopenknfadciaaOpenW
import Derived.Test.YthopenknfadciaaMarkB
import Derived.Test.YthopenknfadciaaRStepL
namespace Go.Proofs.Ythopenknfadciaa
open Go.ChangeShapes Go.WideShapes Go.ChangeAt Go.RowKit

set_option maxRecDepth 100000 in
set_option maxHeartbeats 2000000 in
theorem exactStairBest_walk (A0 : Option Addr) (n0 c0 : Nat) (xs0 : List StepD) (A1 : Option Addr) (n1 c1 : Nat) (xs1 : List StepD) (w : World) (hn0 : n0 ≤ maxLen) (hl0 : xs0.length = n0) (hx0 : StepsAt w A0 xs0) (hn1 : n1 ≤ maxLen) (hl1 : xs1.length = n1) (hx1 : StepsAt w A1 xs1) :
    Calls Try.prog 7 #[.slice A0 n0 c0, .slice A1 n1 c1] w fun e w' => e = .returned (.bool true) ∧ Below w.heap.size w w' := by
  have HX0 := Lib.hid hl0
  have HX1 := Lib.hid hl1
  clear hl0 hl1
  have hP : Past w w := (Past.refl w)
  go_enter Try.func7, Try.ntmps7
  go_wp2_with fail
  refine (szStepS_any A0 n0 c0 (1048576) _ (by omega) (by omega) hn0).mono ?_
  rintro e w_ ⟨rfl, rfl⟩
  by_cases h20s_0 : (n0 : Int) ≤ 1048576
  rotate_left
  · have hr : roomLeft (1048576) n0 = -1 := by unfold roomLeft; rw [if_pos (by omega)]
    rw [hr]
    go_wp2
    go_ret
    exact ⟨rfl, hP⟩
  have hr : roomLeft (1048576) n0 = 1048576 - n0 := by unfold roomLeft; rw [if_neg (by omega)]
  rw [hr]
  clear hr
  have h20_0 : n0 ≤ 1048576 := by omega
  go_wp2_with fail
  refine (szStepS_any A1 n1 c1 (1048576 - n0) _ (by omega) (by omega) hn1).mono ?_
  rintro e w_ ⟨rfl, rfl⟩
  by_cases h20s_1 : (n1 : Int) ≤ 1048576 - n0
  rotate_left
  · have hr : roomLeft (1048576 - n0) n1 = -1 := by unfold roomLeft; rw [if_pos (by omega)]
    rw [hr]
    go_wp2
    go_ret
    exact ⟨rfl, hP⟩
  have hr : roomLeft (1048576 - n0) n1 = 1048576 - n0 - n1 := by unfold roomLeft; rw [if_neg (by omega)]
  rw [hr]
  clear hr
  have h20_1 : n1 ≤ 1048576 := by omega
  go_wp2_with fail
  refine (toStepS_any A0 n0 c0 xs0 _ h20_0 HX0.out hx0).mono ?_
  rintro e w1 ⟨sg0, rfl, hb, hg, sm0⟩
  have hx0 := hx0.below hb
  have hx1 := hx1.below hb
  have hP := Past.trans hP hb
  have s1 := hb.size
  clear hb hg
  go_wp2_with fail
  refine (toStepS_any A1 n1 c1 xs1 _ h20_1 HX1.out hx1).mono ?_
  rintro e w2 ⟨sg1, rfl, hb, hg, sm1⟩
  have hx0 := hx0.below hb
  have hx1 := hx1.below hb
  have sm0 := sm0.below hb
  have hP := Past.trans hP hb
  have s2 := hb.size
  clear hb hg
  go_wp2_with fail
  refine (specStairBest_any _ n0 n0 xs0 _ n1 n1 xs1 _ h20_0 HX0.out (sm0.at_ HX0.out) h20_1 HX1.out (sm1.at_ HX1.out)).mono ?_
  rintro e w3 ⟨v4, rfl, hv4, hb⟩
  obtain ⟨ok, hok⟩ : ∃ ok, ok = bestB xs0 xs1 := ⟨_, rfl⟩
  rw [← hok]
  have HK := Lib.hid hok
  clear hok
  have hzl := bestL_len xs0 xs1
  obtain ⟨zs, hzs⟩ : ∃ zs, zs = bestL xs0 xs1 := ⟨_, rfl⟩
  rw [← hzs] at hv4 hzl
  obtain ⟨N, hN⟩ : ∃ N, N = zs.length := ⟨_, rfl⟩
  obtain ⟨A4, c4, rfl, hz, ho4⟩ := hv4.form
  rw [← hN] at hzl
  have HZ := Lib.hid hzs
  have HN := Lib.hid hN
  rw [← hN]
  clear hN hzs hv4 ho4
  have hx0 := hx0.below hb
  have hx1 := hx1.below hb
  have sm0 := sm0.below hb
  have sm1 := sm1.below hb
  have hP := Past.trans hP hb
  have s3 := hb.size
  clear hb
  clear sm0 sm1
  have hx0E := hx0
  have hx1E := hx1
  have hzE := hz
  have sP := hP.size
  go_wp2_with fail
  refine (toStepS_any A0 n0 c0 xs0 _ h20_0 HX0.out hx0).mono ?_
  rintro e w4 ⟨g0, rfl, hb, hg0, hm0⟩
  have sg0 := hm0.1.lt
  have hx0 := hx0.below hb
  have hx1 := hx1.below hb
  have hz := hz.below hb
  have hP := Past.trans hP hb
  have s4 := hb.size
  clear hb
  go_wp2_with fail
  refine (toStepS_any A1 n1 c1 xs1 _ h20_1 HX1.out hx1).mono ?_
  rintro e w5 ⟨g1, rfl, hb, hg1, hm1⟩
  have sg1 := hm1.1.lt
  have hx0 := hx0.below hb
  have hx1 := hx1.below hb
  have hz := hz.below hb
  have hm0 := hm0.below hb
  have hP := Past.trans hP hb
  have s5 := hb.size
  clear hb
  go_wp2_with fail
  refine (implStairBest_any _ n0 n0 xs0 _ n1 n1 xs1 _ h20_0 HX0.out (hm0.at_ HX0.out) h20_1 HX1.out (hm1.at_ HX1.out)).mono ?_
  rintro e w6 ⟨v7, rfl, hv7, hb⟩
  rw [← HK.out]
  rw [← HZ.out] at hv7
  obtain ⟨A7, c7, rfl, hi, ho⟩ := hv7.form
  rw [← HN.out] at ho
  rw [← HN.out]
  clear hv7
  have hx0 := hx0.below hb
  have hx1 := hx1.below hb
  have hz := hz.below hb
  have hm0 := hm0.below hb
  have hm1 := hm1.below hb
  have hP := Past.trans hP hb
  have s6 := hb.size
  clear hb
  go_wp2_with fail
  refine (eqStepS_same A7 A4 N c7 c4 zs _ hzl HN.out.symm hi hz).mono ?_
  rintro e w7 ⟨rfl, hb⟩
  have hx0 := hx0.below hb
  have hx1 := hx1.below hb
  have hz := hz.below hb
  have hm0 := hm0.below hb
  have hm1 := hm1.below hb
  have hi := hi.below hb
  have ho := ho.below hb
  have hP := Past.trans hP hb
  have s7 := hb.size
  clear hb
  go_wp2_with fail
  refine (toStepS_any A0 n0 c0 xs0 _ h20_0 HX0.out hx0).mono ?_
  rintro e w8 ⟨gq, rfl, hb, hgq, hmq⟩
  have hx0 := hx0.below hb
  have hx1 := hx1.below hb
  have hz := hz.below hb
  have hm0 := hm0.below hb
  have hm1 := hm1.below hb
  have hi := hi.below hb
  have ho := ho.below hb
  have hP := Past.trans hP hb
  have s8 := hb.size
  clear hb hgq
  go_wp2_with fail
  refine (eqStepS_same _ _ n0 n0 n0 xs0 _ h20_0 HX0.out (hm0.at_ HX0.out) (hmq.at_ HX0.out)).mono ?_
  rintro e w9 ⟨rfl, hb⟩
  have hx0 := hx0.below hb
  have hx1 := hx1.below hb
  have hz := hz.below hb
  have hm0 := hm0.below hb
  have hm1 := hm1.below hb
  have hi := hi.below hb
  have ho := ho.below hb
  have hP := Past.trans hP hb
  have s9 := hb.size
  clear hb hmq
  go_wp2_with fail
  refine (toStepS_any A1 n1 c1 xs1 _ h20_1 HX1.out hx1).mono ?_
  rintro e w10 ⟨gq, rfl, hb, hgq, hmq⟩
  have hx0 := hx0.below hb
  have hx1 := hx1.below hb
  have hz := hz.below hb
  have hm0 := hm0.below hb
  have hm1 := hm1.below hb
  have hi := hi.below hb
  have ho := ho.below hb
  have hP := Past.trans hP hb
  have s10 := hb.size
  clear hb hgq
  go_wp2_with fail
  refine (eqStepS_same _ _ n1 n1 n1 xs1 _ h20_1 HX1.out (hm1.at_ HX1.out) (hmq.at_ HX1.out)).mono ?_
  rintro e w11 ⟨rfl, hb⟩
  have hx0 := hx0.below hb
  have hx1 := hx1.below hb
  have hz := hz.below hb
  have hm0 := hm0.below hb
  have hm1 := hm1.below hb
  have hi := hi.below hb
  have ho := ho.below hb
  have hP := Past.trans hP hb
  have s11 := hb.size
  clear hb hmq
  have hr0 := hm0.1
  have hr1 := hm1.1
  clear hm0 hm1
  go_wp2_with fail
  refine (markStepS_any (some ⟨g0, 0, none⟩) n0 n0 (1) g0 42 _ h20_0 _ (by first | rfl | (push_cast; omega)) (by omega) (.inr ⟨g0, n0 * 2, rfl, Nat.le_refl _, hr0, by omega⟩ : OwnAt _ g0 (some ⟨g0, 0, none⟩) 42 2 n0)).mono ?_
  rintro e w12 ⟨rfl, hb, _⟩
  have hb' : w11.grownBy w12 (some g0) := hb
  have hP : Past w w12 := below_marked hP hb (.inr ⟨g0, n0 * 2, rfl, Nat.le_refl _, hr0, by omega⟩ : OwnAt _ g0 (some ⟨g0, 0, none⟩) 42 2 n0) (by omega)
  have hx0 := StepsAt.old hx0E hx0 hb' (by omega)
  have hx1 := StepsAt.old hx1E hx1 hb' (by omega)
  have hz := StepsAt.old hzE hz hb' (by omega)
  have hi := StepsAt.young (by rw [← HN.out]; exact ho) hi hb' (by omega)
  have ho := ho.young hb' (by omega)
  have hr1 := hr1.young hb' (by omega)
  have s12 := hb'.size
  clear hb hb' hr0
  go_wp2_with fail
  refine (markStepS_any (some ⟨g1, 0, none⟩) n1 n1 (1 + 2 * n0) g1 42 _ h20_1 _ (by first | rfl | (push_cast; omega)) (by omega) (.inr ⟨g1, n1 * 2, rfl, Nat.le_refl _, hr1, by omega⟩ : OwnAt _ g1 (some ⟨g1, 0, none⟩) 42 2 n1)).mono ?_
  rintro e w13 ⟨rfl, hb, _⟩
  have hb' : w12.grownBy w13 (some g1) := hb
  have hP : Past w w13 := below_marked hP hb (.inr ⟨g1, n1 * 2, rfl, Nat.le_refl _, hr1, by omega⟩ : OwnAt _ g1 (some ⟨g1, 0, none⟩) 42 2 n1) (by omega)
  have hx0 := StepsAt.old hx0E hx0 hb' (by omega)
  have hx1 := StepsAt.old hx1E hx1 hb' (by omega)
  have hz := StepsAt.old hzE hz hb' (by omega)
  have hi := StepsAt.young (by rw [← HN.out]; exact ho) hi hb' (by omega)
  have ho := ho.young hb' (by omega)
  have s13 := hb'.size
  clear hb hb' hr1
  have hkn : ¬ (((1 + 2 * n0 : Nat) : Int) + 2 * (n1 : Int) < 0) := by omega
  go_wp2_with fail
  refine (eqStepS_same A7 A4 N c7 c4 zs _ hzl HN.out.symm hi hz).mono ?_
  rintro e w14 ⟨rfl, hb⟩
  have hx0 := hx0.below hb
  have hx1 := hx1.below hb
  have hz := hz.below hb
  have hi := hi.below hb
  have ho := ho.below hb
  have hP := Past.trans hP hb
  have s14 := hb.size
  clear hb
  go_wp2_with fail
  refine (markStepS_any A7 N c7 1 w5.heap.size 42 _ hzl _ rfl (by omega) ho).mono ?_
  rintro e w15 ⟨rfl, hb, hk⟩
  have hbl : Below w5.heap.size w14 w15 := below_own hb ho (by omega)
  have hP : Past w w15 := below_marked hP hb ho (by omega)
  clear hi ho
  have hx0 := StepsAt.under hx0E hx0 hbl (by omega)
  have hx1 := StepsAt.under hx1E hx1 hbl (by omega)
  have hz := StepsAt.under hzE hz hbl (by omega)
  clear hb hbl
  go_wp2_with fail
  refine (heldStepS_any A7 N c7 1 _ hzl _ rfl (by omega) hk).mono ?_
  rintro e w_ ⟨rfl, rfl⟩
  have hqn : ¬ (((1 : Nat) : Int) + 2 * (N : Int) < 0) := by omega
  go_wp2_with fail
  refine (toStepS_any A0 n0 c0 xs0 _ h20_0 HX0.out hx0).mono ?_
  rintro e w16 ⟨tg0, rfl, hb, hg, tm0⟩
  have hx0 := hx0.below hb
  have hx1 := hx1.below hb
  have hz := hz.below hb
  have hk := hk.below hb
  have hP := Past.trans hP hb
  have s16 := hb.size
  clear hb hg
  go_wp2_with fail
  refine (toStepS_any A1 n1 c1 xs1 _ h20_1 HX1.out hx1).mono ?_
  rintro e w17 ⟨tg1, rfl, hb, hg, tm1⟩
  have hx0 := hx0.below hb
  have hx1 := hx1.below hb
  have hz := hz.below hb
  have hk := hk.below hb
  have tm0 := tm0.below hb
  have hP := Past.trans hP hb
  have s17 := hb.size
  clear hb hg
  go_wp2_with fail
  refine (implStairBest_any _ n0 n0 xs0 _ n1 n1 xs1 _ h20_0 HX0.out (tm0.at_ HX0.out) h20_1 HX1.out (tm1.at_ HX1.out)).mono ?_
  rintro e w18 ⟨v20, rfl, hv20, hb⟩
  rw [← HK.out]
  rw [← HZ.out] at hv20
  obtain ⟨A20, c20, rfl, hi20, ho20⟩ := hv20.form
  rw [← HN.out]
  clear hv20 ho20
  have hx0 := hx0.below hb
  have hx1 := hx1.below hb
  have hz := hz.below hb
  have hk := hk.below hb
  have tm0 := tm0.below hb
  have tm1 := tm1.below hb
  have hP := Past.trans hP hb
  have s18 := hb.size
  clear hb
  go_wp2_with fail
  refine (eqStepS_same A20 A4 N c20 c4 zs _ hzl HN.out.symm hi20 hz).mono ?_
  rintro e w19 ⟨rfl, hb⟩
  have hx0 := hx0.below hb
  have hx1 := hx1.below hb
  have hz := hz.below hb
  have hk := hk.below hb
  have tm0 := tm0.below hb
  have tm1 := tm1.below hb
  have hP := Past.trans hP hb
  have s19 := hb.size
  clear hb
  go_wp2_with fail
  refine (heldStepS_any A7 N c7 1 _ hzl _ rfl (by omega) hk).mono ?_
  rintro e w_ ⟨rfl, rfl⟩
  go_wp2
  go_ret
  exact ⟨rfl, hP⟩

set_option maxRecDepth 100000 in
theorem exactStairBest_lifted (os : Os) (started : os.Started) (H : Type) (enc : TypeId × Value → H) :
    ReturnsInHanded {} Try.checked os 7 .any (Rows.fnExactStairBestSpec.pre6 enc Try.prog Try.f7 Rows.fnExactStairBestRow.domain false) (Rows.fnExactStairBestSpec.post enc Try.prog Try.f7 false true false false) := by
  refine returnsInHanded_of_change (C := Try.checked) own started (by kernel_rfl) Try.func7
    (ChangeSpec.witness6 (enc := enc) (C := Try.checked) false ⟨#[], #[.slice none 0 0, .slice none 0 0], []⟩ 8 (by kernel_rfl) (by kernel_rfl) (by kernel_rfl) (by kernel_rfl)) ?_
  intro W base args ds gs before hval0 hW hcnd _
  have hval : ∀ (j : Nat) t v, Try.f7.params[j]? = some t → args[j]? = some v → Value.okWide Try.prog W .any base t v := hval0
  have hW' := hW
  obtain ⟨p, q, hA0, hV, rfl, hfz, hnd⟩ := hW
  have hA : DataW.TrodAll enc Try.prog W 0 (fun _ => true) true Try.f7.params.toList args.toList ds p := hA0
  rw [Try.params7] at hA hval
  obtain ⟨v0, vs0, d0, ds0, p0, q0, hargs, rfl, rfl, h0, r0⟩ := trodAll_cons hA
  obtain ⟨v1, vs1, d1, ds1, p1, q1, rfl, rfl, rfl, h1, r1⟩ := trodAll_cons r0
  obtain ⟨rfl, rfl, rfl⟩ := trodAll_nil r1
  obtain rfl : args = #[v0, v1] := by cases args; simp_all
  obtain ⟨rfl, rfl⟩ := trodVars_none hV
  have k0 := h0
  have lt0 := places_lt k0
  have k1 := h1
  have lt1 := places_lt k1
  obtain ⟨A0, n0, c0, xs0, rfl, hl0, hn0, hx0⟩ := open_Step (hval 0 22 v0 rfl rfl) h0
  obtain ⟨A1, n1, c1, xs1, rfl, hl1, hn1, hx1⟩ := open_Step (hval 1 22 v1 rfl rfl) h1
  clear hA0 hval0
  refine (exactStairBest_walk A0 n0 c0 xs0 A1 n1 c1 xs1 W hn0 hl0 hx0 hn1 hl1 hx1).mono fun e W' ⟨he, bel⟩ => ?_
  subst he
  exact ⟨_, rfl, _, _, _, [], _, [], hW', trodAll_mk1 (shut_bool Try.underlying4 _), (trodAll_cons_mk (Below.trod laidOut (by kernel_rfl) (of_decide_eq_true (by kernel_rfl)) k0 bel lt0) (trodAll_cons_mk (Below.trod laidOut (by kernel_rfl) (of_decide_eq_true (by kernel_rfl)) k1 bel lt1) trodAll_mk0)), rfl, bel.frame _, fun h => by cases h⟩

/-- The given statement. -/
theorem exactStairBest_proved : Rows.FnExactStairBestSaid :=
  OpenClaim.holds_of_wide 7 Try.f7 rfl rfl rfl rfl rfl rfl rfl ⟨rfl, rfl, rfl, rfl, rfl⟩ rfl rfl rfl rfl rfl (by kernel_rfl) Try.func7 (by kernel_rfl)
    (of_decide_eq_true (by kernel_rfl)) (by unfold Func.isWrapper; first | (rw [if_pos (by decide +kernel)]; kernel_rfl) | (rw [if_neg (by decide +kernel)]; exact ⟨rfl, rfl⟩))
    (fun os started H enc _ => exactStairBest_lifted os started H enc)

end Go.Proofs.Ythopenknfadciaa
