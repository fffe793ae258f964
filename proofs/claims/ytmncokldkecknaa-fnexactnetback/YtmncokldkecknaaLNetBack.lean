/-
  FnExactNetBack answers true at every input: impl.NetBack answers as spec.NetBack, leaves its argument alone and owns its answer. No condition.
-/
import Derived.Test.YtmncokldkecknaaBack3
import Derived.Test.YtmncokldkecknaaSame
import Derived.Test.YtmncokldkecknaaMark
import Derived.Test.YtmncokldkecknaaOpen
namespace Go.Proofs.Ytmncokldkecknaa
open Go.ChangeShapes Go.WideShapes Go.ChangeAt Go.RowKit

set_option maxHeartbeats 1000000 in
theorem exactNetBack_walk (m : Int) (A : Option Addr) (n c : Nat) (xs : List ArcD) (w : World) (hn : n ≤ maxLen) (hl : xs.length = n) (hx : ArcsAt w A xs) :
    Calls Try.prog 5 #[.agg #[.int .i64 m, .slice A n c]] w fun e w' => e = .returned (.bool true) ∧ Below w.heap.size w w' := by
  have HL := Lib.hid hl
  clear hl
  have hb0 : Past w (w.alloc (.cells #[.int .i64 m, .slice A n c] 24)) := (Past.refl _).alloc _
  go_enter Try.func5, Try.ntmps5
  go_wp2_with fail
  refine (szNet_any m A n c 1048576 _ (by omega) (by omega) hn).mono ?_
  rintro e w1 ⟨rfl, hb1⟩
  have hb01 := hb0.trans hb1
  by_cases h20 : n ≤ 1048576
  · have hr : roomLeft 1048576 n = 1048576 - n := by unfold roomLeft; rw [if_neg (by omega)]
    rw [hr]
    clear hr
    have a0 := cell_in (p := ⟨w.heap.size, 0, none⟩) (v := .int .i64 m) hb1 (by go_simp)
    have a1 := cell_in (p := ⟨w.heap.size, 1, none⟩) (v := .slice A n c) hb1 (by go_simp)
    have hx1 := (hx.below hb0).below hb1
    go_wp2_with fail
    refine (toNet_any m A n c xs _ h20 HL.out hx1).mono ?_
    rintro e w2 ⟨g2, rfl, hb2, hg2, hm2⟩
    go_wp2_with fail
    refine (specNetBack_any m _ n n xs _ h20 HL.out (hm2.arcs HL.out)).mono ?_
    rintro e w3 ⟨A3, c3, rfl, hi3, _, hb3⟩
    have hzl := backL_len m xs
    rw [HL.out] at hzl
    obtain ⟨zs, hzs⟩ : ∃ zs, zs = backL m xs := ⟨_, rfl⟩
    obtain ⟨mz, hmz⟩ : ∃ mz, mz = backN m xs := ⟨_, rfl⟩
    obtain ⟨N, hN⟩ : ∃ N, N = zs.length := ⟨_, rfl⟩
    rw [← hzs] at hi3 hzl
    rw [← hzs, ← hmz, ← hN]
    rw [← hN] at hzl
    have hN20 : N ≤ 1048576 := by omega
    have HZ := Lib.hid hzs
    have HMZ := Lib.hid hmz
    have HN := Lib.hid hN
    clear hN hzs hmz
    have hb13 : Past w1 w3 := Past.trans (Past.of hb2) hb3
    have a0 := cell_in hb13 a0
    have a1 := cell_in hb13 a1
    have hx3 := hx1.below hb13
    have sb : w.heap.size < w3.heap.size := lt_of_cell a0
    have hb03 := hb01.trans hb13
    clear hb13 hb2 hb3 hx1 hm2
    -- x0 := toNet(aN), behind w0's own block
    have hW3 : Past w3 (w3.alloc (.cells #[.int .i64 mz, .slice A3 N c3] 29)) := (Past.refl w3).alloc _
    go_wp2_with fail
    refine (toNet_any m A n c xs _ h20 HL.out (hx3.below hW3)).mono ?_
    rintro e w4 ⟨g4, rfl, hb4, hg4, hm4⟩
    have sg4 := hm4.1.lt
    have sg43 : w3.heap.size < g4 := by have := hg4; simp at this; omega
    have v0 := cell_in (p := ⟨w3.heap.size, 0, none⟩) (v := .int .i64 mz) hb4 (by go_simp)
    have v1 := cell_in (p := ⟨w3.heap.size, 1, none⟩) (v := .slice A3 N c3) hb4 (by go_simp)
    have hb34 : Past w3 w4 := hW3.trans hb4
    have a0 := cell_in hb34 a0
    have a1 := cell_in hb34 a1
    have hx4 := hx3.below hb34
    have hz4 := hi3.below hb34
    have hb04 := hb03.trans hb34
    clear hW3 hb34 hb4 hb03 hg4
    -- g0 := impl.NetBack(x0)
    have hW4 : Past w4 (w4.alloc (.cells #[.int .i64 m, .slice (some ⟨g4, 0, none⟩) n n] 29)) := (Past.refl w4).alloc _
    go_wp2_with fail
    refine (implNetBack_any m g4 0 n n xs _ h20 HL.out ((hm4.below hW4).arcs HL.out)).mono ?_
    rintro e w5 ⟨A5, c5, rfl, hi5, ho5, hb5⟩
    rw [← HZ.out] at hi5 ho5
    rw [← HN.out] at ho5
    rw [← HZ.out, ← HMZ.out, ← HN.out]
    have ho5 := ho5.lower (lo' := w4.heap.size + 1) (by simp)
    have p0 := cell_in (p := ⟨w4.heap.size, 0, none⟩) (v := .int .i64 m) hb5 (by go_simp)
    have p1 := cell_in (p := ⟨w4.heap.size, 1, none⟩) (v := .slice (some ⟨g4, 0, none⟩) n n) hb5 (by go_simp)
    have hb45 : Past w4 w5 := hW4.trans hb5
    have a0 := cell_in hb45 a0
    have a1 := cell_in hb45 a1
    have v0 := cell_in hb45 v0
    have v1 := cell_in hb45 v1
    have hx5 := hx4.below hb45
    have hz5 := hz4.below hb45
    have hm5 := hm4.below hb45
    have hb05 := hb04.trans hb45
    have s45 : w4.heap.size < w5.heap.size := lt_of_cell p0
    have sv5 : w3.heap.size < w5.heap.size := lt_of_cell v0
    have hne5 := ho5.ne_new
    clear hW4 hb45 hb5 hb04 hx4 hz4 hm4
    -- eqNet(g0, w0), behind g0's own block
    have hW5 : Past w5 (w5.alloc (.cells #[.int .i64 mz, .slice A5 N c5] 29)) := (Past.refl w5).alloc _
    go_wp2_with fail
    refine (eqNet_same mz A5 A3 N c5 c3 zs _ hN20 HN.out.symm (hi5.below hW5) (hz5.below hW5)).mono ?_
    rintro e w6 ⟨rfl, hb6⟩
    have g0 := cell_in (p := ⟨w5.heap.size, 0, none⟩) (v := .int .i64 mz) hb6 (by go_simp)
    have g1 := cell_in (p := ⟨w5.heap.size, 1, none⟩) (v := .slice A5 N c5) hb6 (by go_simp)
    have hb56 : Past w5 w6 := hW5.trans hb6
    have a0 := cell_in hb56 a0
    have a1 := cell_in hb56 a1
    have v0 := cell_in hb56 v0
    have v1 := cell_in hb56 v1
    have p0 := cell_in hb56 p0
    have p1 := cell_in hb56 p1
    have hx6 := hx5.below hb56
    have hz6 := hz5.below hb56
    have hi6 := hi5.below hb56
    have ho6 := ho5.below hb56
    have hm6 := hm5.below hb56
    have hq6 := hm6.arcs HL.out
    have hb06 := hb05.trans hb56
    clear hW5 hb56 hb6 hb05 hx5 hz5 hi5 ho5 hm5
    -- eqNet(x0, toNet(aN))
    go_wp2_with fail
    go_region_held3 (fun w' => w'.cell? ⟨w.heap.size, 0, none⟩ = some (.int .i64 m) ∧ w'.cell? ⟨w.heap.size, 1, none⟩ = some (.slice A n c) ∧ w'.cell? ⟨w4.heap.size, 0, none⟩ = some (.int .i64 m) ∧ w'.cell? ⟨w4.heap.size, 1, none⟩ = some (.slice (some ⟨g4, 0, none⟩) n n)) (go_keep)
      (first
        | (go_at_call 17; refine (toNet_any m A n c xs _ h20 HL.out hx6.drew).mono ?_; rintro e w7 ⟨g7, rfl, hb7, hg7, hm7⟩; have a0 := cell_in hb7 a0; have a1 := cell_in hb7 a1; have p0 := cell_in hb7 p0; have p1 := cell_in hb7 p1)
        | (go_at_call 19; refine (eqNet_same m _ _ n n n xs _ h20 HL.out (hq6.drew.below hb7) (hm7.arcs HL.out)).mono ?_; rintro e w8 ⟨rfl, hb8⟩; have a0 := cell_in hb8 a0; have a1 := cell_in hb8 a1; have p0 := cell_in hb8 p0; have p1 := cell_in hb8 p1))
    have hb68 : Past w6 w8 := (Past.refl w6).drew.trans (Past.trans hb7 hb8)
    have v0 := cell_in hb68 v0
    have v1 := cell_in hb68 v1
    have g0 := cell_in hb68 g0
    have g1 := cell_in hb68 g1
    have hx8 := hx6.below hb68
    have hz8 := hz6.below hb68
    have hi8 := hi6.below hb68
    have ho8 := ho6.below hb68
    have hm8 := hm6.below hb68
    have hb08 := hb06.trans hb68
    clear hb68 hb7 hb8 hb06 hx6 hz6 hi6 ho6 hm6 hq6 hm7
    -- k = markNet(x0, k)
    go_wp2_with fail
    refine (markNet_any m (some ⟨g4, 0, none⟩) n n 1 g4 53 _ h20 _ rfl (by omega) (.inr ⟨g4, n * 5, rfl, Nat.le_refl _, hm8.1, Nat.le_refl _⟩)).mono ?_
    rintro e w9 ⟨rfl, hb9, _⟩
    have hb9' : w8.grownBy w9 (some g4) := hb9
    have hb09 : Past w w9 := below_marked hb08 hb9 (.inr ⟨g4, n * 5, rfl, Nat.le_refl _, hm8.1, Nat.le_refl _⟩) (by omega)
    have a0 := cell_far hb9' a0 (by simp only [ne_eq]; omega)
    have a1 := cell_far hb9' a1 (by simp only [ne_eq]; omega)
    have v0 := cell_far hb9' v0 (by simp only [ne_eq]; omega)
    have v1 := cell_far hb9' v1 (by simp only [ne_eq]; omega)
    have g0 := cell_far hb9' g0 (by simp only [ne_eq]; omega)
    have g1 := cell_far hb9' g1 (by simp only [ne_eq]; omega)
    have hx9 := ArcsAt.old hx3 hx8 hb9' (by omega)
    have hz9 := ArcsAt.old hi3 hz8 hb9' (by omega)
    have hi9 := ArcsAt.young (by rw [← HN.out]; exact ho8) hi8 hb9' (by omega)
    have ho9 := ho8.young hb9' (by omega)
    clear hb9 hb9' hb08 hx8 hz8 hi8 ho8 hm8 p0 p1
    have hkn : ¬ (((1 : Nat) : Int) + 5 * (n : Int) < 0) := by omega
    -- eqNet(g0, w0) once more
    go_wp2_with fail
    refine (eqNet_same mz A5 A3 N c5 c3 zs _ hN20 HN.out.symm hi9 hz9).mono ?_
    rintro e w10 ⟨rfl, hb10⟩
    have a0 := cell_in hb10 a0
    have a1 := cell_in hb10 a1
    have v0 := cell_in hb10 v0
    have v1 := cell_in hb10 v1
    have g0 := cell_in hb10 g0
    have g1 := cell_in hb10 g1
    have hx10 := hx9.below hb10
    have hz10 := hz9.below hb10
    have ho10 := ho9.below hb10
    have hb010 : Past w w10 := hb09.trans hb10
    have s510 : w5.heap.size < w10.heap.size := lt_of_cell g0
    clear hb10 hb09 hx9 hz9 hi9 ho9
    -- m = markNet(g0, m)
    go_wp2_with fail
    refine (markNet_any mz A5 N c5 1 (w4.heap.size + 1) 53 _ hN20 _ rfl (by omega) ho10).mono ?_
    rintro e w11 ⟨rfl, hb11, hk11⟩
    have hb011 : Past w w11 := below_marked hb010 hb11 ho10 (by omega)
    have hbl : Below (w4.heap.size + 1) w10 w11 := below_own hb11 ho10 (by omega)
    have a0 := (hbl.cell (p := ⟨w.heap.size, 0, none⟩) (by simp only; omega)).trans a0
    have a1 := (hbl.cell (p := ⟨w.heap.size, 1, none⟩) (by simp only; omega)).trans a1
    have v0 := (hbl.cell (p := ⟨w3.heap.size, 0, none⟩) (by simp only; omega)).trans v0
    have v1 := (hbl.cell (p := ⟨w3.heap.size, 1, none⟩) (by simp only; omega)).trans v1
    have g0 := hb11.cell g0 (fun e => hne5 e.symm)
    have g1 := hb11.cell g1 (fun e => hne5 e.symm)
    have hx11 := ArcsAt.under hx3 hx10 hbl (by omega)
    have hz11 := ArcsAt.under hi3 hz10 hbl (by omega)
    clear hb11 hbl ho10 hb010 hx10 hz10
    -- q = heldNet(g0, q)
    go_wp2_with fail
    refine (heldNet_any mz A5 N c5 1 _ hN20 _ rfl (by omega) hk11).mono ?_
    rintro e w12 ⟨rfl, hb12⟩
    have a0 := cell_in hb12 a0
    have a1 := cell_in hb12 a1
    have v0 := cell_in hb12 v0
    have v1 := cell_in hb12 v1
    have g0 := cell_in hb12 g0
    have g1 := cell_in hb12 g1
    have hx12 := hx11.below hb12
    have hz12 := hz11.below hb12
    have hk12 := hk11.below hb12
    have hb012 : Past w w12 := hb011.trans hb12
    clear hb12 hb011 hx11 hz11 hk11
    have hqn : ¬ (((1 : Nat) : Int) + 5 * (N : Int) < 0) := by omega
    -- h0 := impl.NetBack(toNet(aN))
    go_wp2_with fail
    refine (toNet_any m A n c xs _ h20 HL.out hx12).mono ?_
    rintro e w13 ⟨g13, rfl, hb13, hg13, hm13⟩
    go_wp2_with fail
    refine (implNetBack_any m g13 0 n n xs _ h20 HL.out (hm13.arcs HL.out)).mono ?_
    rintro e w14 ⟨A14, c14, rfl, hi14, _, hb14⟩
    rw [← HZ.out] at hi14
    rw [← HZ.out, ← HMZ.out, ← HN.out]
    have hW14 : Past w14 (w14.alloc (.cells #[.int .i64 mz, .slice A14 N c14] 29)) := (Past.refl w14).alloc _
    have hb1214 : Past w12 w14 := Past.trans hb13 hb14
    have v0 := cell_in hb1214 v0
    have v1 := cell_in hb1214 v1
    have g0 := cell_in hb1214 g0
    have g1 := cell_in hb1214 g1
    have hz14 := hz12.below hb1214
    have hk14 := hk12.below hb1214
    have sv14 : w3.heap.size < w14.heap.size := lt_of_cell v0
    have sg14 : w5.heap.size < w14.heap.size := lt_of_cell g0
    clear hb13 hb14 hm13 hx12 hz12 hk12
    -- eqNet(h0, w0)
    go_wp2_with fail
    refine (eqNet_same mz A14 A3 N c14 c3 zs _ hN20 HN.out.symm (hi14.below hW14) (hz14.below hW14)).mono ?_
    rintro e w15 ⟨rfl, hb15⟩
    have hb1415 : Past w14 w15 := hW14.trans hb15
    have g0 := cell_in hb1415 g0
    have g1 := cell_in hb1415 g1
    -- q = heldNet(g0, q)
    go_wp2_with fail
    refine (heldNet_any mz A5 N c5 1 _ hN20 _ rfl (by omega) (hk14.below hb1415)).mono ?_
    rintro e w16 ⟨rfl, hb16⟩
    go_wp2
    go_ret
    exact ⟨rfl, hb012.trans (hb1214.trans (hb1415.trans hb16))⟩
  · have hr : roomLeft 1048576 n = -1 := by unfold roomLeft; rw [if_pos (by omega)]
    rw [hr]
    go_wp2
    go_ret
    exact ⟨rfl, hb01⟩

set_option maxRecDepth 100000 in
theorem exactNetBack_lifted (os : Os) (started : os.Started) (H : Type) (enc : TypeId × Value → H) :
    ReturnsInHanded {} Try.checked os 5 .any (Rows.fnExactNetBackSpec.pre6 enc Try.prog Try.f5 Rows.fnExactNetBackRow.domain false) (Rows.fnExactNetBackSpec.post enc Try.prog Try.f5 false true false false) := by
  refine returnsInHanded_of_change (C := Try.checked) own started (by kernel_rfl) Try.func5
    (ChangeSpec.witness6 (enc := enc) (C := Try.checked) false ⟨#[], #[.agg #[.int .i64 0, .slice none 0 0]], []⟩ 8 (by kernel_rfl) (by kernel_rfl) (by kernel_rfl) (by kernel_rfl)) ?_
  intro W base args ds gs before hval0 hW hcnd _
  have hval : ∀ (j : Nat) t v, Try.f5.params[j]? = some t → args[j]? = some v → Value.okWide Try.prog W .any base t v := hval0
  have hW' := hW
  obtain ⟨p, q, hA0, hV, rfl, hfz, hnd⟩ := hW
  have hA : DataW.TrodAll enc Try.prog W 0 (fun _ => true) true Try.f5.params.toList args.toList ds p := hA0
  rw [Try.params5] at hA hval
  obtain ⟨v0, vs0, d0, ds0, p0, q0, hargs, rfl, rfl, h0, r0⟩ := trodAll_cons hA
  obtain ⟨rfl, rfl, rfl⟩ := trodAll_nil r0
  obtain rfl : args = #[v0] := by cases args; simp_all
  obtain ⟨rfl, rfl⟩ := trodVars_none hV
  have k0 := h0
  have lt0 := places_lt k0
  obtain ⟨m, A, n, c, xs, rfl, hl, hn, hx, _⟩ := open_net (hval 0 24 v0 rfl rfl) h0
  clear hA0 hval0
  refine (exactNetBack_walk m A n c xs W hn hl hx).mono fun e W' ⟨he, bel⟩ => ?_
  subst he
  exact ⟨_, rfl, _, _, _, [], _, [], hW', trodAll_mk1 (shut_bool Try.underlying4 _), (trodAll_cons_mk (Below.trod laidOut (by kernel_rfl) (of_decide_eq_true (by kernel_rfl)) k0 bel lt0) trodAll_mk0), rfl, bel.frame _, fun h => by cases h⟩

/-- The given statement. -/
theorem exactNetBack_proved : Rows.FnExactNetBackSaid :=
  OpenClaim.holds_of_wide 5 Try.f5 rfl rfl rfl rfl rfl rfl rfl ⟨rfl, rfl, rfl, rfl, rfl⟩ rfl rfl rfl rfl rfl (by kernel_rfl) Try.func5 (by kernel_rfl)
    (of_decide_eq_true (by kernel_rfl)) (by unfold Func.isWrapper; first | (rw [if_pos (by decide +kernel)]; kernel_rfl) | (rw [if_neg (by decide +kernel)]; exact ⟨rfl, rfl⟩))
    (fun os started H enc _ => exactNetBack_lifted os started H enc)

end Go.Proofs.Ytmncokldkecknaa
