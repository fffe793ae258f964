/-
  FnExactWalkOk answers true at every input: impl.WalkOk answers as spec.WalkOk, and leaves its arguments alone. No condition.
-/
import Derived.Test.YtmncokldkecknaaWalk2
import Derived.Test.YtmncokldkecknaaSame
import Derived.Test.YtmncokldkecknaaOpen
namespace Go.Proofs.Ytmncokldkecknaa
open Go.ChangeShapes Go.WideShapes Go.ChangeAt Go.RowKit

set_option maxHeartbeats 1000000 in
theorem exactWalkOk_walk (m : Int) (A B : Option Addr) (n c l cb : Nat) (xs : List ArcD) (ys : List Int) (w : World) (hn : n ≤ maxLen) (_hl : l ≤ maxLen) (hnx : xs.length = n) (hny : ys.length = l) (hx : ArcsAt w A xs) (hy : IntsAt w B ys) :
    Calls Try.prog 6 #[.agg #[.int .i64 m, .slice A n c], .slice B l cb] w fun e w' => e = .returned (.bool true) ∧ Below w.heap.size w w' := by
  have HX := Lib.hid hnx
  have HY := Lib.hid hny
  clear hnx hny
  have hb0 : Past w (w.alloc (.cells #[.int .i64 m, .slice A n c] 24)) := (Past.refl _).alloc _
  by_cases hl20 : 1048576 < l
  · have hl20' : (1048576 : Int) < (l : Int) := by omega
    go_enter Try.func6, Try.ntmps6
    go_wp2
    go_ret
    exact ⟨rfl, hb0⟩
  have hl2 : l ≤ 1048576 := by omega
  have hl20' : ¬ (1048576 : Int) < (l : Int) := by omega
  go_enter Try.func6, Try.ntmps6
  go_wp2_with fail
  refine (szNet_any m A n c 1048576 _ (by omega) (by omega) hn).mono ?_
  rintro e w1 ⟨rfl, hb1⟩
  have hb01 := hb0.trans hb1
  by_cases h20 : n ≤ 1048576
  · have hr : roomLeft 1048576 n = 1048576 - n := by unfold roomLeft; rw [if_neg (by omega)]
    rw [hr]
    clear hr
    have a0 := cell_in (p := ⟨w.heap.size, 0, none⟩) (v := .int .i64 m) hb1 (by go_simp)
    have a1 := cell_in (p := ⟨w.heap.size, 1, none⟩) (v := .slice A n c) hb1 (by go_simp)
    have hx1 := hx.below hb01
    have hy1 := hy.below hb01
    clear hx hy hb1 hb0
    -- w0 := spec.F(toNet(aN), toIntS(aW))
    go_wp2_with fail
    refine (toNet_any m A n c xs _ h20 HX.out hx1).mono ?_
    rintro e w2 ⟨g2, rfl, hb2, hg2, hm2⟩
    go_wp2_with fail
    refine (toIntS_any B l cb ys _ hl2 HY.out (hy1.below hb2)).mono ?_
    rintro e w3 ⟨g3, rfl, hb3, hg3, hm3⟩
    go_wp2_with fail
    refine (specWalkOk_any m _ _ n n l l xs ys _ h20 hl2 HX.out HY.out ((hm2.arcs HX.out).below hb3) (hm3.ints HY.out)).mono ?_
    rintro e w4 ⟨rfl, hb4⟩
    have hb14 : Past w1 w4 := Past.trans hb2 (Past.trans hb3 hb4)
    have a0 := cell_in hb14 a0
    have a1 := cell_in hb14 a1
    have hx4 := hx1.below hb14
    have hy4 := hy1.below hb14
    have hb04 := hb01.trans hb14
    clear hb14 hb2 hb3 hb4 hb01 hx1 hy1 hm2 hm3
    -- x0 := toNet(aN)
    go_wp2_with fail
    refine (toNet_any m A n c xs _ h20 HX.out hx4).mono ?_
    rintro e w5 ⟨g5, rfl, hb5, hg5, hm5⟩
    have a0 := cell_in hb5 a0
    have a1 := cell_in hb5 a1
    -- x1 := toIntS(aW)
    go_wp2_with fail
    have hb5' : Past w5 (w5.alloc (.cells #[.int .i64 m, .slice (some ⟨g5, 0, none⟩) n n] 29)) := (Past.refl w5).alloc _
    refine (toIntS_any B l cb ys _ hl2 HY.out ((hy4.below hb5).below hb5')).mono ?_
    rintro e w6 ⟨g6, rfl, hb6, hg6, hm6⟩
    have p0 := cell_in (p := ⟨w5.heap.size, 0, none⟩) (v := .int .i64 m) hb6 (by go_simp)
    have p1 := cell_in (p := ⟨w5.heap.size, 1, none⟩) (v := .slice (some ⟨g5, 0, none⟩) n n) hb6 (by go_simp)
    have hb56 : Past w5 w6 := hb5'.trans hb6
    have a0 := cell_in hb56 a0
    have a1 := cell_in hb56 a1
    have hm5 := hm5.below hb56
    have hx6 := (hx4.below hb5).below hb56
    have hy6 := (hy4.below hb5).below hb56
    have hb06 := hb04.trans (Past.trans hb5 hb56)
    clear hb04 hb5 hb56 hb6 hb5' hx4 hy4
    -- g0 := impl.F(x0, x1)
    go_wp2_with fail
    refine (implWalkOk_any m _ _ n n l l xs ys _ h20 hl2 HX.out HY.out (hm5.arcs HX.out) (hm6.ints HY.out)).mono ?_
    rintro e w7 ⟨rfl, hb7⟩
    have a0 := cell_in hb7 a0
    have a1 := cell_in hb7 a1
    have p0 := cell_in hb7 p0
    have p1 := cell_in hb7 p1
    have hx7 := hx6.below hb7
    have hy7 := hy6.below hb7
    have hq7 := (hm5.below hb7).arcs HX.out
    have hi7 := (hm6.below hb7).ints HY.out
    have hb07 := hb06.trans hb7
    clear hb06 hb7 hm5 hm6 hx6 hy6
    -- eqNet(x0, toNet(aN))
    go_wp2_with fail
    go_region_held3 (fun w' => w'.cell? ⟨w.heap.size, 0, none⟩ = some (.int .i64 m) ∧ w'.cell? ⟨w.heap.size, 1, none⟩ = some (.slice A n c) ∧ w'.cell? ⟨w5.heap.size, 0, none⟩ = some (.int .i64 m) ∧ w'.cell? ⟨w5.heap.size, 1, none⟩ = some (.slice (some ⟨g5, 0, none⟩) n n)) (go_keep)
      (first
        | (go_at_call 17; refine (toNet_any m A n c xs _ h20 HX.out hx7.drew).mono ?_; rintro e w8 ⟨g8, rfl, hb8, hg8, hm8⟩; have a0 := cell_in hb8 a0; have a1 := cell_in hb8 a1; have p0 := cell_in hb8 p0; have p1 := cell_in hb8 p1)
        | (go_at_call 19; refine (eqNet_same m _ _ n n n xs _ h20 HX.out (hq7.drew.below hb8) (hm8.arcs HX.out)).mono ?_; rintro e w9 ⟨rfl, hb9⟩; have a0 := cell_in hb9 a0; have a1 := cell_in hb9 a1; have p0 := cell_in hb9 p0; have p1 := cell_in hb9 p1))
    have hb79 : Past w7 w9 := (Past.refl w7).drew.trans (Past.trans hb8 hb9)
    -- eqIntS(x1, toIntS(aW))
    go_wp2_with fail
    refine (toIntS_any B l cb ys _ hl2 HY.out (hy7.below hb79)).mono ?_
    rintro e w10 ⟨g10, rfl, hb10, hg10, hm10⟩
    go_wp2_with fail
    refine (eqIntS_same _ _ l l l ys _ hl2 HY.out ((hi7.below hb79).below hb10) (hm10.ints HY.out)).mono ?_
    rintro e w11 ⟨rfl, hb11⟩
    go_wp2
    go_ret
    exact ⟨rfl, hb07.trans (hb79.trans (Past.trans hb10 hb11))⟩
  · have hr : roomLeft 1048576 n = -1 := by unfold roomLeft; rw [if_pos (by omega)]
    rw [hr]
    go_wp2
    go_ret
    exact ⟨rfl, hb01⟩

set_option maxRecDepth 100000 in
theorem exactWalkOk_lifted (os : Os) (started : os.Started) (H : Type) (enc : TypeId × Value → H) :
    ReturnsInHanded {} Try.checked os 6 .any (Rows.fnExactWalkOkSpec.pre6 enc Try.prog Try.f6 Rows.fnExactWalkOkRow.domain false) (Rows.fnExactWalkOkSpec.post enc Try.prog Try.f6 false true false false) := by
  refine returnsInHanded_of_change (C := Try.checked) own started (by kernel_rfl) Try.func6
    (ChangeSpec.witness6 (enc := enc) (C := Try.checked) false ⟨#[], #[.agg #[.int .i64 0, .slice none 0 0], .slice none 0 0], []⟩ 8 (by kernel_rfl) (by kernel_rfl) (by kernel_rfl) (by kernel_rfl)) ?_
  intro W base args ds gs before hval0 hW hcnd _
  have hval : ∀ (j : Nat) t v, Try.f6.params[j]? = some t → args[j]? = some v → Value.okWide Try.prog W .any base t v := hval0
  have hW' := hW
  obtain ⟨p, q, hA0, hV, rfl, hfz, hnd⟩ := hW
  have hA : DataW.TrodAll enc Try.prog W 0 (fun _ => true) true Try.f6.params.toList args.toList ds p := hA0
  rw [Try.params6] at hA hval
  obtain ⟨v0, vs0, d0, ds0, p0, q0, hargs, rfl, rfl, h0, r0⟩ := trodAll_cons hA
  obtain ⟨v1, vs1, d1, ds1, p1, q1, rfl, rfl, rfl, h1, r1⟩ := trodAll_cons r0
  obtain ⟨rfl, rfl, rfl⟩ := trodAll_nil r1
  obtain rfl : args = #[v0, v1] := by cases args; simp_all
  obtain ⟨rfl, rfl⟩ := trodVars_none hV
  have k0 := h0
  have lt0 := places_lt k0
  have k1 := h1
  have lt1 := places_lt k1
  obtain ⟨m, A, n, c, xs, rfl, hnx, hn, hx, _⟩ := open_net (hval 0 24 v0 rfl rfl) h0
  obtain ⟨B, l, cb, ys, rfl, hny, hl, hy⟩ := open_list (hval 1 33 v1 rfl rfl) h1
  clear hA0 hval0
  refine (exactWalkOk_walk m A B n c l cb xs ys W hn hl hnx hny hx hy).mono fun e W' ⟨he, bel⟩ => ?_
  subst he
  exact ⟨_, rfl, _, _, _, [], _, [], hW', trodAll_mk1 (shut_bool Try.underlying4 _), (trodAll_cons_mk (Below.trod laidOut (by kernel_rfl) (of_decide_eq_true (by kernel_rfl)) k0 bel lt0) (trodAll_cons_mk (Below.trod laidOut (by kernel_rfl) (of_decide_eq_true (by kernel_rfl)) k1 bel lt1) trodAll_mk0)), rfl, bel.frame _, fun h => by cases h⟩

/-- The given statement. -/
theorem exactWalkOk_proved : Rows.FnExactWalkOkSaid :=
  OpenClaim.holds_of_wide 6 Try.f6 rfl rfl rfl rfl rfl rfl rfl ⟨rfl, rfl, rfl, rfl, rfl⟩ rfl rfl rfl rfl rfl (by kernel_rfl) Try.func6 (by kernel_rfl)
    (of_decide_eq_true (by kernel_rfl)) (by unfold Func.isWrapper; first | (rw [if_pos (by decide +kernel)]; kernel_rfl) | (rw [if_neg (by decide +kernel)]; exact ⟨rfl, rfl⟩))
    (fun os started H enc _ => exactWalkOk_lifted os started H enc)

end Go.Proofs.Ytmncokldkecknaa
