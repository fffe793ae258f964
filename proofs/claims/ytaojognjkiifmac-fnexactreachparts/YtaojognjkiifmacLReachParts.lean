/-
  FnExactReachParts answers true at every input: impl.ReachParts answers as spec.ReachParts, leaves its arguments alone and owns its answer. No condition.
-/
import Derived.Test.YtaojognjkiifmacRPrtS
import Derived.Test.YtaojognjkiifmacRPrtI
import Derived.Test.YtaojognjkiifmacSame
import Derived.Test.YtaojognjkiifmacMark
import Derived.Test.YtaojognjkiifmacOpen
import Derived.Test.YtaojognjkiifmacSameI
import Derived.Test.YtaojognjkiifmacMarkI
import Derived.Test.YtaojognjkiifmacResI
import Derived.Test.YtaojognjkiifmacOpenW
import Derived.Test.YtaojognjkiifmacMarkB
namespace Go.Proofs.Ytaojognjkiifmac
open Go.ChangeShapes Go.WideShapes Go.ChangeAt Go.RowKit

set_option maxRecDepth 100000 in
set_option maxHeartbeats 2000000 in
theorem exactReachParts_walk (m0 : Int) (A0 : Option Addr) (n0 c0 : Nat) (xs0 : List ArcD) (w : World) (hn0 : n0 ≤ maxLen) (hl0 : xs0.length = n0) (hx0 : ArcsAt w A0 xs0) :
    Calls Try.prog 9 #[.agg #[.int .i64 m0, .slice A0 n0 c0]] w fun e w' => e = .returned (.bool true) ∧ Below w.heap.size w w' := by
  have HX0 := Lib.hid hl0
  clear hl0
  have hP : Past w (w.alloc (.cells #[.int .i64 m0, .slice A0 n0 c0] 24)) := ((Past.refl w).alloc _)
  go_enter Try.func9, Try.ntmps9
  go_wp2_with fail
  refine (szNet_any m0 A0 n0 c0 (1048576) _ (by omega) (by omega) hn0).mono ?_
  rintro e w1 ⟨rfl, hb⟩
  have a0_0 := cell_in (p := ⟨w.heap.size, 0, none⟩) (v := .int .i64 m0) hb (by go_simp)
  have a0_1 := cell_in (p := ⟨w.heap.size, 1, none⟩) (v := .slice A0 n0 c0) hb (by go_simp)
  have hx0 := (hx0.below hP).below hb
  have hP := Past.trans hP hb
  clear hb
  by_cases h20s_0 : (n0 : Int) ≤ 1048576
  rotate_left
  · have hr : roomLeft (1048576) n0 = -1 := by unfold roomLeft; rw [if_pos (by omega)]
    rw [hr]
    go_wp2
    go_ret
    exact ⟨rfl, hP⟩
  have hr : roomLeft (1048576) n0 = 1048576 - n0 := by unfold roomLeft; rw [if_neg (by omega)]
  rw [hr]
  clear hr
  have h20_0 : n0 ≤ 1048576 := by omega
  go_wp2_with fail
  refine (toNet_any m0 A0 n0 c0 xs0 _ h20_0 HX0.out hx0).mono ?_
  rintro e w2 ⟨sg0, rfl, hb, hg, sm0⟩
  have hx0 := hx0.below hb
  have a0_0 := cell_in hb a0_0
  have a0_1 := cell_in hb a0_1
  have hP := Past.trans hP hb
  have s2 := hb.size
  clear hb hg
  go_wp2_with fail
  refine (specReachParts_any m0 _ n0 n0 xs0 _ h20_0 HX0.out (sm0.arcs HX0.out)).mono ?_
  rintro e w3 ⟨v4, rfl, hv4, hb⟩
  have hzl := kindsI_len m0 xs0
  obtain ⟨zs, hzs⟩ : ∃ zs, zs = kindsI m0 xs0 := ⟨_, rfl⟩
  rw [← hzs] at hv4 hzl
  obtain ⟨N, hN⟩ : ∃ N, N = zs.length := ⟨_, rfl⟩
  obtain ⟨A4, c4, rfl, hz, ho4⟩ := hv4.form
  rw [← hN] at hzl
  have HZ := Lib.hid hzs
  have HN := Lib.hid hN
  rw [← hN]
  clear hN hzs hv4 ho4
  have hx0 := hx0.below hb
  have a0_0 := cell_in hb a0_0
  have a0_1 := cell_in hb a0_1
  have sm0 := sm0.below hb
  have hP := Past.trans hP hb
  have s3 := hb.size
  clear hb
  clear sm0
  have hx0E := hx0
  have hzE := hz
  have sb : w.heap.size < w3.heap.size := lt_of_cell a0_0
  have sP := hP.size
  go_wp2_with fail
  refine (toNet_any m0 A0 n0 c0 xs0 _ h20_0 HX0.out hx0).mono ?_
  rintro e w4 ⟨g0, rfl, hb, hg0, hm0⟩
  have sg0 := hm0.1.lt
  have hx0 := hx0.below hb
  have a0_0 := cell_in hb a0_0
  have a0_1 := cell_in hb a0_1
  have hz := hz.below hb
  have hP := Past.trans hP hb
  have s4 := hb.size
  clear hb
  have hb : Past w4 (w4.alloc (.cells #[.int .i64 m0, .slice (some ⟨g0, 0, none⟩) n0 n0] 30)) := (Past.refl _).alloc _
  obtain ⟨w5, hw6⟩ : ∃ u, u = w4.alloc (.cells #[.int .i64 m0, .slice (some ⟨g0, 0, none⟩) n0 n0] 30) := ⟨_, rfl⟩
  go_wp2_with fail
  have p0_0 : w5.cell? ⟨w4.heap.size, 0, none⟩ = some (.int .i64 m0) := by rw [hw6]; go_simp
  have p0_1 : w5.cell? ⟨w4.heap.size, 1, none⟩ = some (.slice (some ⟨g0, 0, none⟩) n0 n0) := by rw [hw6]; go_simp
  rw [← hw6] at hb ⊢
  have sx0 : w4.heap.size < w5.heap.size := lt_of_cell p0_0
  clear hw6
  have hx0 := hx0.below hb
  have a0_0 := cell_in hb a0_0
  have a0_1 := cell_in hb a0_1
  have hz := hz.below hb
  have hm0 := hm0.below hb
  have hP := Past.trans hP hb
  have s5 := hb.size
  clear hb
  refine (implReachParts_any m0 _ n0 n0 xs0 _ h20_0 HX0.out (hm0.arcs HX0.out)).mono ?_
  rintro e w6 ⟨v7, rfl, hv7, hb⟩
  rw [← HZ.out] at hv7
  obtain ⟨A7, c7, rfl, hi, ho⟩ := hv7.form
  rw [← HN.out] at ho
  rw [← HN.out]
  clear hv7
  have hx0 := hx0.below hb
  have a0_0 := cell_in hb a0_0
  have a0_1 := cell_in hb a0_1
  have hz := hz.below hb
  have hm0 := hm0.below hb
  have p0_0 := cell_in hb p0_0
  have p0_1 := cell_in hb p0_1
  have hP := Past.trans hP hb
  have s6 := hb.size
  clear hb
  go_wp2_with fail
  refine (eqIntS_same A7 A4 N c7 c4 zs _ hzl HN.out.symm hi hz).mono ?_
  rintro e w7 ⟨rfl, hb⟩
  have hx0 := hx0.below hb
  have a0_0 := cell_in hb a0_0
  have a0_1 := cell_in hb a0_1
  have hz := hz.below hb
  have hm0 := hm0.below hb
  have p0_0 := cell_in hb p0_0
  have p0_1 := cell_in hb p0_1
  have hi := hi.below hb
  have ho := ho.below hb
  have hP := Past.trans hP hb
  have s7 := hb.size
  clear hb
  have hq := (hm0.arcs HX0.out)
  go_wp2_with fail
  go_region_held3 (fun w' => w'.cell? ⟨w.heap.size, 0, none⟩ = some (.int .i64 m0) ∧ w'.cell? ⟨w.heap.size, 1, none⟩ = some (.slice A0 n0 c0) ∧ w'.cell? ⟨w4.heap.size, 0, none⟩ = some (.int .i64 m0) ∧ w'.cell? ⟨w4.heap.size, 1, none⟩ = some (.slice (some ⟨g0, 0, none⟩) n0 n0)) (go_keep)
    (first
      | (go_at_call 17; refine (toNet_any m0 A0 n0 c0 xs0 _ h20_0 HX0.out hx0.drew).mono ?_; rintro e w8 ⟨g9, rfl, hb9, hg9, hm9⟩; have a0_0 := cell_in hb9 a0_0; have a0_1 := cell_in hb9 a0_1; have p0_0 := cell_in hb9 p0_0; have p0_1 := cell_in hb9 p0_1)
      | (go_at_call 20; refine (eqNet_same m0 _ _ n0 n0 n0 xs0 _ h20_0 HX0.out (hq.drew.below hb9) (hm9.arcs HX0.out)).mono ?_; rintro e w9 ⟨rfl, hb10⟩; have a0_0 := cell_in hb10 a0_0; have a0_1 := cell_in hb10 a0_1; have p0_0 := cell_in hb10 p0_0; have p0_1 := cell_in hb10 p0_1))
  have hb : Past w7 w9 := (Past.refl w7).drew.trans (Past.trans hb9 hb10)
  clear hb9 hb10 hq hm9 hg9
  have hx0 := hx0.below hb
  have hz := hz.below hb
  have hm0 := hm0.below hb
  have hi := hi.below hb
  have ho := ho.below hb
  have hP := Past.trans hP hb
  have s9 := hb.size
  clear hb
  clear p0_0 p0_1
  have hr0 := hm0.1
  clear hm0
  go_wp2_with fail
  refine (markNet_any m0 (some ⟨g0, 0, none⟩) n0 n0 (1) g0 88 _ h20_0 _ (by first | rfl | (push_cast; omega)) (by omega) (.inr ⟨g0, n0 * 5, rfl, Nat.le_refl _, hr0, by omega⟩ : OwnAt _ g0 (some ⟨g0, 0, none⟩) 88 5 n0)).mono ?_
  rintro e w10 ⟨rfl, hb, _⟩
  have hb' : w9.grownBy w10 (some g0) := hb
  have hP : Past w w10 := below_marked hP hb (.inr ⟨g0, n0 * 5, rfl, Nat.le_refl _, hr0, by omega⟩ : OwnAt _ g0 (some ⟨g0, 0, none⟩) 88 5 n0) (by omega)
  have hx0 := ArcsAt.old hx0E hx0 hb' (by omega)
  have a0_0 := cell_far hb' a0_0 (by simp only [ne_eq]; omega)
  have a0_1 := cell_far hb' a0_1 (by simp only [ne_eq]; omega)
  have hz := IntsAt.old hzE hz hb' (by omega)
  have hi := IntsAt.young (by rw [← HN.out]; exact ho) hi hb' (by omega)
  have ho := ho.young hb' (by omega)
  have s10 := hb'.size
  clear hb hb' hr0
  have hkn : ¬ (((1 : Nat) : Int) + 5 * (n0 : Int) < 0) := by omega
  go_wp2_with fail
  refine (eqIntS_same A7 A4 N c7 c4 zs _ hzl HN.out.symm hi hz).mono ?_
  rintro e w11 ⟨rfl, hb⟩
  have hx0 := hx0.below hb
  have a0_0 := cell_in hb a0_0
  have a0_1 := cell_in hb a0_1
  have hz := hz.below hb
  have hi := hi.below hb
  have ho := ho.below hb
  have hP := Past.trans hP hb
  have s11 := hb.size
  clear hb
  go_wp2_with fail
  refine (markIntS_any A7 N c7 1 w5.heap.size 3 _ hzl _ rfl (by omega) ho).mono ?_
  rintro e w12 ⟨rfl, hb, hk⟩
  have hbl : Below w5.heap.size w11 w12 := below_own hb ho (by omega)
  have hP : Past w w12 := below_marked hP hb ho (by omega)
  clear hi ho
  have hx0 := ArcsAt.under hx0E hx0 hbl (by omega)
  have a0_0 := (hbl.cell (p := ⟨w.heap.size, 0, none⟩) (by simp only; omega)).trans a0_0
  have a0_1 := (hbl.cell (p := ⟨w.heap.size, 1, none⟩) (by simp only; omega)).trans a0_1
  have hz := IntsAt.under hzE hz hbl (by omega)
  clear hb hbl
  go_wp2_with fail
  refine (heldIntS_any A7 N c7 1 _ hzl _ rfl (by omega) hk).mono ?_
  rintro e w_ ⟨rfl, rfl⟩
  have hqn : ¬ (((1 : Nat) : Int) + (N : Int) < 0) := by omega
  go_wp2_with fail
  refine (toNet_any m0 A0 n0 c0 xs0 _ h20_0 HX0.out hx0).mono ?_
  rintro e w13 ⟨tg0, rfl, hb, hg, tm0⟩
  have hx0 := hx0.below hb
  have a0_0 := cell_in hb a0_0
  have a0_1 := cell_in hb a0_1
  have hz := hz.below hb
  have hk := hk.below hb
  have hP := Past.trans hP hb
  have s13 := hb.size
  clear hb hg
  go_wp2_with fail
  refine (implReachParts_any m0 _ n0 n0 xs0 _ h20_0 HX0.out (tm0.arcs HX0.out)).mono ?_
  rintro e w14 ⟨v20, rfl, hv20, hb⟩
  rw [← HZ.out] at hv20
  obtain ⟨A20, c20, rfl, hi20, ho20⟩ := hv20.form
  rw [← HN.out]
  clear hv20 ho20
  have hx0 := hx0.below hb
  have a0_0 := cell_in hb a0_0
  have a0_1 := cell_in hb a0_1
  have hz := hz.below hb
  have hk := hk.below hb
  have tm0 := tm0.below hb
  have hP := Past.trans hP hb
  have s14 := hb.size
  clear hb
  go_wp2_with fail
  refine (eqIntS_same A20 A4 N c20 c4 zs _ hzl HN.out.symm hi20 hz).mono ?_
  rintro e w15 ⟨rfl, hb⟩
  have hx0 := hx0.below hb
  have a0_0 := cell_in hb a0_0
  have a0_1 := cell_in hb a0_1
  have hz := hz.below hb
  have hk := hk.below hb
  have tm0 := tm0.below hb
  have hP := Past.trans hP hb
  have s15 := hb.size
  clear hb
  go_wp2_with fail
  refine (heldIntS_any A7 N c7 1 _ hzl _ rfl (by omega) hk).mono ?_
  rintro e w_ ⟨rfl, rfl⟩
  go_wp2
  go_ret
  exact ⟨rfl, hP⟩

set_option maxRecDepth 100000 in
theorem exactReachParts_lifted (os : Os) (started : os.Started) (H : Type) (enc : TypeId × Value → H) :
    ReturnsInHanded {} Try.checked os 9 .any (Rows.fnExactReachPartsSpec.pre6 enc Try.prog Try.f9 Rows.fnExactReachPartsRow.domain false) (Rows.fnExactReachPartsSpec.post enc Try.prog Try.f9 false true false false) := by
  refine returnsInHanded_of_change (C := Try.checked) own started (by kernel_rfl) Try.func9
    (ChangeSpec.witness6 (enc := enc) (C := Try.checked) false ⟨#[], #[.agg #[.int .i64 0, .slice none 0 0]], []⟩ 8 (by kernel_rfl) (by kernel_rfl) (by kernel_rfl) (by kernel_rfl)) ?_
  intro W base args ds gs before hval0 hW hcnd _
  have hval : ∀ (j : Nat) t v, Try.f9.params[j]? = some t → args[j]? = some v → Value.okWide Try.prog W .any base t v := hval0
  have hW' := hW
  obtain ⟨p, q, hA0, hV, rfl, hfz, hnd⟩ := hW
  have hA : DataW.TrodAll enc Try.prog W 0 (fun _ => true) true Try.f9.params.toList args.toList ds p := hA0
  rw [Try.params9] at hA hval
  obtain ⟨v0, vs0, d0, ds0, p0, q0, hargs, rfl, rfl, h0, r0⟩ := trodAll_cons hA
  obtain ⟨rfl, rfl, rfl⟩ := trodAll_nil r0
  obtain rfl : args = #[v0] := by cases args; simp_all
  obtain ⟨rfl, rfl⟩ := trodVars_none hV
  have k0 := h0
  have lt0 := places_lt k0
  obtain ⟨m0, A0, n0, c0, xs0, rfl, hl0, hn0, hx0, _⟩ := open_net (hval 0 24 v0 rfl rfl) h0
  clear hA0 hval0
  refine (exactReachParts_walk m0 A0 n0 c0 xs0 W hn0 hl0 hx0).mono fun e W' ⟨he, bel⟩ => ?_
  subst he
  exact ⟨_, rfl, _, _, _, [], _, [], hW', trodAll_mk1 (shut_bool Try.underlying4 _), (trodAll_cons_mk (Below.trod laidOut (by kernel_rfl) (of_decide_eq_true (by kernel_rfl)) k0 bel lt0) trodAll_mk0), rfl, bel.frame _, fun h => by cases h⟩

/-- The given statement. -/
theorem exactReachParts_proved : Rows.FnExactReachPartsSaid :=
  OpenClaim.holds_of_wide 9 Try.f9 rfl rfl rfl rfl rfl rfl rfl ⟨rfl, rfl, rfl, rfl, rfl⟩ rfl rfl rfl rfl rfl (by kernel_rfl) Try.func9 (by kernel_rfl)
    (of_decide_eq_true (by kernel_rfl)) (by unfold Func.isWrapper; first | (rw [if_pos (by decide +kernel)]; kernel_rfl) | (rw [if_neg (by decide +kernel)]; exact ⟨rfl, rfl⟩))
    (fun os started H enc _ => exactReachParts_lifted os started H enc)

end Go.Proofs.Ytaojognjkiifmac
