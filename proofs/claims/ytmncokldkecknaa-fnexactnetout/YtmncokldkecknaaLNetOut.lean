/-
  FnExactNetOut answers true at every input: impl.NetOut answers as spec.NetOut, leaves its arguments alone and owns its answer. No condition.
-/
import Derived.Test.YtmncokldkecknaaOut2
import Derived.Test.YtmncokldkecknaaSame
import Derived.Test.YtmncokldkecknaaMark
import Derived.Test.YtmncokldkecknaaOpen
namespace Go.Proofs.Ytmncokldkecknaa
open Go.ChangeShapes Go.WideShapes Go.ChangeAt Go.RowKit

set_option maxHeartbeats 1000000 in
theorem exactNetOut_walk (m : Int) (node : Int) (A : Option Addr) (n c : Nat) (xs : List ArcD) (w : World) (hn : n ≤ maxLen) (hnx : xs.length = n) (hx : ArcsAt w A xs) :
    Calls Try.prog 4 #[.agg #[.int .i64 m, .slice A n c], .int .i64 node] w fun e w' => e = .returned (.bool true) ∧ Below w.heap.size w w' := by
  have HX := Lib.hid hnx
  clear hnx
  have hb0 : Past w (w.alloc (.cells #[.int .i64 m, .slice A n c] 24)) := (Past.refl _).alloc _
  go_enter Try.func4, Try.ntmps4
  go_wp2_with fail
  refine (szNet_any m A n c 1048576 _ (by omega) (by omega) hn).mono ?_
  rintro e w1 ⟨rfl, hb1⟩
  have hb01 := hb0.trans hb1
  by_cases h20 : n ≤ 1048576
  · have hr : roomLeft 1048576 n = 1048576 - n := by unfold roomLeft; rw [if_neg (by omega)]
    rw [hr]
    clear hr
    have a0 := cell_in (p := ⟨w.heap.size, 0, none⟩) (v := .int .i64 m) hb1 (by go_simp)
    have a1 := cell_in (p := ⟨w.heap.size, 1, none⟩) (v := .slice A n c) hb1 (by go_simp)
    have hx1 := hx.below hb01
    clear hx hb1 hb0
    -- w0 := spec.F(toNet(aN), toIntS(aW))
    go_wp2_with fail
    refine (toNet_any m A n c xs _ h20 HX.out hx1).mono ?_
    rintro e w2 ⟨g2, rfl, hb2, hg2, hm2⟩
    go_wp2_with fail
    refine (specNetOut_any m node _ n n xs _ h20 HX.out (hm2.arcs HX.out)).mono ?_
    rintro e w4 ⟨v4, rfl, hv4, hb4⟩
    have hzl := outI_len m xs node
    obtain ⟨zs, hzs⟩ : ∃ zs, zs = outI m xs node := ⟨_, rfl⟩
    rw [← hzs] at hv4 hzl
    obtain ⟨N, hN⟩ : ∃ N, N = zs.length := ⟨_, rfl⟩
    obtain ⟨A4, c4, rfl, hi4, ho4⟩ := hv4.form
    rw [← hN] at hzl
    have HZ := Lib.hid hzs
    have HN := Lib.hid hN
    rw [← hN]
    clear hN hzs hv4 ho4
    have hb14 : Past w1 w4 := Past.trans hb2 hb4
    have a0 := cell_in hb14 a0
    have a1 := cell_in hb14 a1
    have hx4 := hx1.below hb14
    have hxE := hx4
    have hzE := hi4
    have s14 := hb14.size
    have s01 := hb01.size
    have sb : w.heap.size < w4.heap.size := lt_of_cell a0
    have hb04 := hb01.trans hb14
    clear hb14 hb2 hb4 hb01 hx1 hm2
    -- x0 := toNet(aN)
    go_wp2_with fail
    refine (toNet_any m A n c xs _ h20 HX.out hx4).mono ?_
    rintro e w5 ⟨g5, rfl, hb5, hg5, hm5⟩
    have sg5 := hm5.1.lt
    have a0 := cell_in hb5 a0
    have a1 := cell_in hb5 a1
    have hb5' : Past w5 (w5.alloc (.cells #[.int .i64 m, .slice (some ⟨g5, 0, none⟩) n n] 29)) := (Past.refl w5).alloc _
    obtain ⟨w6, hw6⟩ : ∃ w6, w6 = w5.alloc (.cells #[.int .i64 m, .slice (some ⟨g5, 0, none⟩) n n] 29) := ⟨_, rfl⟩
    go_wp2_with fail
    have p0 : w6.cell? ⟨w5.heap.size, 0, none⟩ = some (.int .i64 m) := by rw [hw6]; go_simp
    have p1 : w6.cell? ⟨w5.heap.size, 1, none⟩ = some (.slice (some ⟨g5, 0, none⟩) n n) := by rw [hw6]; go_simp
    rw [← hw6] at hb5' ⊢
    have s66 : w5.heap.size < w6.heap.size := lt_of_cell p0
    clear hw6
    have a0 := cell_in hb5' a0
    have a1 := cell_in hb5' a1
    have hm5 := hm5.below hb5'
    have hx6 := (hx4.below hb5).below hb5'
    have hz6 := (hi4.below hb5).below hb5'
    have s56 := hb5'.size
    have s45 := hb5.size
    have s5 := hm5.1.lt
    have sg5 : g5 < w5.heap.size := sg5
    have hb06 := hb04.trans (Past.trans hb5 hb5')
    clear hb04 hb5 hb5' hx4
    -- g0 := impl.F(x0, x1)
    refine (implNetOut_any m node _ n n xs _ h20 HX.out (hm5.arcs HX.out)).mono ?_
    rintro e w7 ⟨v7, rfl, hv7, hb7⟩
    rw [← HZ.out] at hv7
    obtain ⟨A7, c7, rfl, hi7, ho7⟩ := hv7.form
    rw [← HN.out] at ho7
    rw [← HN.out]
    have a0 := cell_in hb7 a0
    have a1 := cell_in hb7 a1
    have p0 := cell_in hb7 p0
    have p1 := cell_in hb7 p1
    have hx7 := hx6.below hb7
    have hz7 := hz6.below hb7
    have hm5 := hm5.below hb7
    have hb07 := hb06.trans hb7
    have s76 := hb7.size
    clear hb06 hb7 hx6 hz6 hv7
    -- eqIntS(g0, w0)
    go_wp2_with fail
    refine (eqIntS_same A7 A4 N c7 c4 zs _ hzl HN.out.symm hi7 hz7).mono ?_
    rintro e w8 ⟨rfl, hb8⟩
    have a0 := cell_in hb8 a0
    have a1 := cell_in hb8 a1
    have p0 := cell_in hb8 p0
    have p1 := cell_in hb8 p1
    have hx8 := hx7.below hb8
    have hq8 := (hm5.below hb8).arcs HX.out
    -- eqNet(x0, toNet(aN))
    go_wp2_with fail
    go_region_held3 (fun w' => w'.cell? ⟨w.heap.size, 0, none⟩ = some (.int .i64 m) ∧ w'.cell? ⟨w.heap.size, 1, none⟩ = some (.slice A n c) ∧ w'.cell? ⟨w5.heap.size, 0, none⟩ = some (.int .i64 m) ∧ w'.cell? ⟨w5.heap.size, 1, none⟩ = some (.slice (some ⟨g5, 0, none⟩) n n)) (go_keep)
      (first
        | (go_at_call 17; refine (toNet_any m A n c xs _ h20 HX.out hx8.drew).mono ?_; rintro e w9 ⟨g9, rfl, hb9, hg9, hm9⟩; have a0 := cell_in hb9 a0; have a1 := cell_in hb9 a1; have p0 := cell_in hb9 p0; have p1 := cell_in hb9 p1)
        | (go_at_call 19; refine (eqNet_same m _ _ n n n xs _ h20 HX.out (hq8.drew.below hb9) (hm9.arcs HX.out)).mono ?_; rintro e w10 ⟨rfl, hb10⟩; have a0 := cell_in hb10 a0; have a1 := cell_in hb10 a1; have p0 := cell_in hb10 p0; have p1 := cell_in hb10 p1))
    have hb710 : Past w7 w10 := Past.trans hb8 ((Past.refl w8).drew.trans (Past.trans hb9 hb10))
    clear hb8 hb9 hb10 hx8 hq8 hm9
    have hb712 : Past w7 w10 := hb710
    have hx12 := hx7.below hb712
    have hz12 := hz7.below hb712
    have hi12 := hi7.below hb712
    have ho12 := ho7.below hb712
    have hm5 := hm5.below hb712
    have hb012 := hb07.trans hb712
    have s612 : w6.heap.size ≤ w10.heap.size := Nat.le_trans s76 hb712.size
    clear hb712 hb710 hb07 hx7 hz7 hi7 ho7
    -- k = markNet(x0, k)
    go_wp2_with fail
    refine (markNet_any m (some ⟨g5, 0, none⟩) n n 1 g5 53 _ h20 _ rfl (by omega) (.inr ⟨g5, n * 5, rfl, Nat.le_refl _, hm5.1, Nat.le_refl _⟩)).mono ?_
    rintro e w13 ⟨rfl, hb13, _⟩
    have hb13' : w10.grownBy w13 (some g5) := hb13
    have hb013 : Past w w13 := below_marked hb012 hb13 (.inr ⟨g5, n * 5, rfl, Nat.le_refl _, hm5.1, Nat.le_refl _⟩) (by omega)
    have a0 := cell_far hb13' a0 (by simp only [ne_eq]; omega)
    have a1 := cell_far hb13' a1 (by simp only [ne_eq]; omega)
    have hx13 := ArcsAt.old hxE hx12 hb13' (by omega)
    have hz13 := IntsAt.old hzE hz12 hb13' (by omega)
    have hi13 := IntsAt.young (by rw [← HN.out]; exact ho12) hi12 hb13' (by omega)
    have ho13 := ho12.young hb13' (by omega)
    have s613 : w6.heap.size ≤ w13.heap.size := Nat.le_trans s612 hb13'.size
    clear hb13 hb13' hx12 hz12 hi12 ho12 hm5 hb012 p0 p1
    have hkn : ¬ (((1 + 5 * n : Nat) : Int) < 0) := by omega
    -- eqIntS(g0, w0) once more
    go_wp2_with fail
    refine (eqIntS_same A7 A4 N c7 c4 zs _ hzl HN.out.symm hi13 hz13).mono ?_
    rintro e w15 ⟨rfl, hb15⟩
    have a0 := cell_in hb15 a0
    have a1 := cell_in hb15 a1
    have hx15 := hx13.below hb15
    have hz15 := hz13.below hb15
    have ho15 := ho13.below hb15
    have hb015 := hb013.trans hb15
    have s65 : w6.heap.size ≤ w15.heap.size := Nat.le_trans s613 hb15.size
    clear hb15 hx13 hz13 hi13 ho13 hb013
    -- m = markIntS(g0, m)
    go_wp2_with fail
    refine (markIntS_any A7 N c7 1 w6.heap.size 3 _ hzl _ rfl (by omega) ho15).mono ?_
    rintro e w16 ⟨rfl, hb16, hk16⟩
    have hb016 : Past w w16 := below_marked hb015 hb16 ho15 (by omega)
    have hb616 : Below w6.heap.size w15 w16 := below_own hb16 ho15 (by omega)
    have a0 := (hb616.cell (p := ⟨w.heap.size, 0, none⟩) (by simp only; omega)).trans a0
    have a1 := (hb616.cell (p := ⟨w.heap.size, 1, none⟩) (by simp only; omega)).trans a1
    have hx16 := ArcsAt.under hxE hx15 hb616 (by omega)
    have hz16 := IntsAt.under hzE hz15 hb616 (by omega)
    clear hb16 hb616 ho15 hb015 hx15 hz15
    -- q = heldIntS(g0, q)
    go_wp2_with fail
    refine (heldIntS_any A7 N c7 1 _ hzl _ rfl (by omega) hk16).mono ?_
    rintro e w17 ⟨rfl, rfl⟩
    have hqn : ¬ (((1 : Nat) : Int) + (N : Int) < 0) := by omega
    -- h0 := impl.F(toNet(aN), toIntS(aW))
    go_wp2_with fail
    refine (toNet_any m A n c xs _ h20 HX.out hx16).mono ?_
    rintro e w18 ⟨g18, rfl, hb18, hg18, hm18⟩
    go_wp2_with fail
    refine (implNetOut_any m node _ n n xs _ h20 HX.out (hm18.arcs HX.out)).mono ?_
    rintro e w20 ⟨v20, rfl, hv20, hb20⟩
    rw [← HZ.out] at hv20
    obtain ⟨A20, c20, rfl, hi20, ho20⟩ := hv20.form
    rw [← HN.out]
    have hb1620 : Past w16 w20 := Past.trans hb18 hb20
    clear hv20 ho20 hb18 hb20
    -- eqIntS(h0, w0)
    go_wp2_with fail
    refine (eqIntS_same A20 A4 N c20 c4 zs _ hzl HN.out.symm hi20 (hz16.below hb1620)).mono ?_
    rintro e w21 ⟨rfl, hb21⟩
    -- q = heldIntS(g0, q)
    go_wp2_with fail
    refine (heldIntS_any A7 N c7 1 _ hzl _ rfl (by omega) ((hk16.below hb1620).below hb21)).mono ?_
    rintro e w22 ⟨rfl, rfl⟩
    go_wp2
    go_ret
    exact ⟨rfl, hb016.trans (hb1620.trans hb21)⟩
  · have hr : roomLeft 1048576 n = -1 := by unfold roomLeft; rw [if_pos (by omega)]
    rw [hr]
    go_wp2
    go_ret
    exact ⟨rfl, hb01⟩

set_option maxRecDepth 100000 in
theorem exactNetOut_lifted (os : Os) (started : os.Started) (H : Type) (enc : TypeId × Value → H) :
    ReturnsInHanded {} Try.checked os 4 .any (Rows.fnExactNetOutSpec.pre6 enc Try.prog Try.f4 Rows.fnExactNetOutRow.domain false) (Rows.fnExactNetOutSpec.post enc Try.prog Try.f4 false true false false) := by
  refine returnsInHanded_of_change (C := Try.checked) own started (by kernel_rfl) Try.func4
    (ChangeSpec.witness6 (enc := enc) (C := Try.checked) false ⟨#[], #[.agg #[.int .i64 0, .slice none 0 0], .int .i64 0], []⟩ 8 (by kernel_rfl) (by kernel_rfl) (by kernel_rfl) (by kernel_rfl)) ?_
  intro W base args ds gs before hval0 hW hcnd _
  have hval : ∀ (j : Nat) t v, Try.f4.params[j]? = some t → args[j]? = some v → Value.okWide Try.prog W .any base t v := hval0
  have hW' := hW
  obtain ⟨p, q, hA0, hV, rfl, hfz, hnd⟩ := hW
  have hA : DataW.TrodAll enc Try.prog W 0 (fun _ => true) true Try.f4.params.toList args.toList ds p := hA0
  rw [Try.params4] at hA hval
  obtain ⟨v0, vs0, d0, ds0, p0, q0, hargs, rfl, rfl, h0, r0⟩ := trodAll_cons hA
  obtain ⟨v1, vs1, d1, ds1, p1, q1, rfl, rfl, rfl, h1, r1⟩ := trodAll_cons r0
  obtain ⟨rfl, rfl, rfl⟩ := trodAll_nil r1
  obtain rfl : args = #[v0, v1] := by cases args; simp_all
  obtain ⟨rfl, rfl⟩ := trodVars_none hV
  have k0 := h0
  have lt0 := places_lt k0
  have k1 := h1
  have lt1 := places_lt k1
  obtain ⟨m, A, n, c, xs, rfl, hnx, hn, hx, _⟩ := open_net (hval 0 24 v0 rfl rfl) h0
  obtain ⟨node, rfl⟩ := okWide_int Try.underlying3 (hval 1 3 v1 rfl rfl)
  clear hA0 hval0
  refine (exactNetOut_walk m node A n c xs W hn hnx hx).mono fun e W' ⟨he, bel⟩ => ?_
  subst he
  exact ⟨_, rfl, _, _, _, [], _, [], hW', trodAll_mk1 (shut_bool Try.underlying4 _), (trodAll_cons_mk (Below.trod laidOut (by kernel_rfl) (of_decide_eq_true (by kernel_rfl)) k0 bel lt0) (trodAll_cons_mk (Below.trod laidOut (by kernel_rfl) (of_decide_eq_true (by kernel_rfl)) k1 bel lt1) trodAll_mk0)), rfl, bel.frame _, fun h => by cases h⟩

/-- The given statement. -/
theorem exactNetOut_proved : Rows.FnExactNetOutSaid :=
  OpenClaim.holds_of_wide 4 Try.f4 rfl rfl rfl rfl rfl rfl rfl ⟨rfl, rfl, rfl, rfl, rfl⟩ rfl rfl rfl rfl rfl (by kernel_rfl) Try.func4 (by kernel_rfl)
    (of_decide_eq_true (by kernel_rfl)) (by unfold Func.isWrapper; first | (rw [if_pos (by decide +kernel)]; kernel_rfl) | (rw [if_neg (by decide +kernel)]; exact ⟨rfl, rfl⟩))
    (fun os started H enc _ => exactNetOut_lifted os started H enc)

end Go.Proofs.Ytmncokldkecknaa
