/-
  FnExactNetOk answers true at every input: impl.NetOk answers as spec.NetOk, and leaves its argument alone. No condition.
-/
import Derived.Test.YtmncokldkecknaaOk
import Derived.Test.YtmncokldkecknaaSame
import Derived.Test.YtmncokldkecknaaOpen
namespace Go.Proofs.Ytmncokldkecknaa
open Go.ChangeShapes Go.WideShapes Go.ChangeAt Go.RowKit

set_option maxHeartbeats 1000000 in
theorem exactNetOk_walk (m : Int) (A : Option Addr) (n c : Nat) (xs : List ArcD) (w : World) (hn : n ≤ maxLen) (hl : xs.length = n) (hx : ArcsAt w A xs) :
    Calls Try.prog 3 #[.agg #[.int .i64 m, .slice A n c]] w fun e w' => e = .returned (.bool true) ∧ Below w.heap.size w w' := by
  have HL := Lib.hid hl
  clear hl
  have hb0 : Past w (w.alloc (.cells #[.int .i64 m, .slice A n c] 24)) := (Past.refl _).alloc _
  go_enter Try.func3, Try.ntmps3
  go_wp2_with fail
  refine (szNet_any m A n c 1048576 _ (by omega) (by omega) hn).mono ?_
  rintro e w1 ⟨rfl, hb1⟩
  have hb01 := hb0.trans hb1
  by_cases h20 : n ≤ 1048576
  · have hr : roomLeft 1048576 n = 1048576 - n := by unfold roomLeft; rw [if_neg (by omega)]
    rw [hr]
    clear hr
    have a0 := cell_in (p := ⟨w.heap.size, 0, none⟩) (v := .int .i64 m) hb1 (by go_simp)
    have a1 := cell_in (p := ⟨w.heap.size, 1, none⟩) (v := .slice A n c) hb1 (by go_simp)
    have hx1 := (hx.below hb0).below hb1
    go_wp2_with fail
    refine (toNet_any m A n c xs _ h20 HL.out hx1).mono ?_
    rintro e w2 ⟨g2, rfl, hb2, hg2, hm2⟩
    go_wp2_with fail
    refine (specNetOk_any m _ n n xs _ h20 HL.out (hm2.arcs HL.out)).mono ?_
    rintro e w3 ⟨rfl, hb3⟩
    have hb13 : Past w1 w3 := Past.trans (Past.of hb2) hb3
    have a0 := cell_in hb13 a0
    have a1 := cell_in hb13 a1
    have hx3 := hx1.below hb13
    go_wp2_with fail
    refine (toNet_any m A n c xs _ h20 HL.out hx3).mono ?_
    rintro e w4 ⟨g4, rfl, hb4, hg4, hm4⟩
    have a0 := cell_in hb4 a0
    have a1 := cell_in hb4 a1
    go_wp2_with fail
    have hm4' := hm4.below ((Past.refl w4).alloc (.cells #[.int .i64 m, .slice (some ⟨g4, 0, none⟩) n n] 29))
    refine (implNetOk_any m _ n n xs _ h20 HL.out (hm4'.arcs HL.out)).mono ?_
    rintro e w5 ⟨rfl, hb5⟩
    have p0 := cell_in (p := ⟨w4.heap.size, 0, none⟩) (v := .int .i64 m) hb5 (by go_simp)
    have p1 := cell_in (p := ⟨w4.heap.size, 1, none⟩) (v := .slice (some ⟨g4, 0, none⟩) n n) hb5 (by go_simp)
    have hb45 : Past w4 w5 := ((Past.refl w4).alloc _).trans hb5
    have a0 := cell_in hb45 a0
    have a1 := cell_in hb45 a1
    have hx5 := (hx3.below hb4).below hb45
    have hm5 := hm4'.below hb5
    have hb05 : Past w w5 := hb01.trans (hb13.trans (Past.trans hb4 hb45))
    clear hb4 hb5 hb45 hb13 hb2 hb3
    go_wp2_with fail
    have hg5 := hm5.arcs HL.out
    go_region_held3 (fun w' => w'.cell? ⟨w.heap.size, 0, none⟩ = some (.int .i64 m) ∧ w'.cell? ⟨w.heap.size, 1, none⟩ = some (.slice A n c) ∧ w'.cell? ⟨w4.heap.size, 0, none⟩ = some (.int .i64 m) ∧ w'.cell? ⟨w4.heap.size, 1, none⟩ = some (.slice (some ⟨g4, 0, none⟩) n n)) (go_keep)
      (first
        | (go_at_call 17; refine (toNet_any m A n c xs _ h20 HL.out hx5.drew).mono ?_; rintro e w6 ⟨g6, rfl, hb6, hg6, hm6⟩; have a0 := cell_in hb6 a0; have a1 := cell_in hb6 a1; have p0 := cell_in hb6 p0; have p1 := cell_in hb6 p1)
        | (go_at_call 19; refine (eqNet_same m _ _ n n n xs _ h20 HL.out (hg5.drew.below hb6) (hm6.arcs HL.out)).mono ?_; rintro e w7 ⟨rfl, hb7⟩; have a0 := cell_in hb7 a0; have a1 := cell_in hb7 a1; have p0 := cell_in hb7 p0; have p1 := cell_in hb7 p1))
    go_wp2
    go_ret
    exact ⟨rfl, (hb05.drew.trans hb6).trans hb7⟩
  · have hr : roomLeft 1048576 n = -1 := by unfold roomLeft; rw [if_pos (by omega)]
    rw [hr]
    go_wp2
    go_ret
    exact ⟨rfl, hb01⟩

set_option maxRecDepth 100000 in
theorem exactNetOk_lifted (os : Os) (started : os.Started) (H : Type) (enc : TypeId × Value → H) :
    ReturnsInHanded {} Try.checked os 3 .any (Rows.fnExactNetOkSpec.pre6 enc Try.prog Try.f3 Rows.fnExactNetOkRow.domain false) (Rows.fnExactNetOkSpec.post enc Try.prog Try.f3 false true false false) := by
  refine returnsInHanded_of_change (C := Try.checked) own started (by kernel_rfl) Try.func3
    (ChangeSpec.witness6 (enc := enc) (C := Try.checked) false ⟨#[], #[.agg #[.int .i64 0, .slice none 0 0]], []⟩ 8 (by kernel_rfl) (by kernel_rfl) (by kernel_rfl) (by kernel_rfl)) ?_
  intro W base args ds gs before hval0 hW hcnd _
  have hval : ∀ (j : Nat) t v, Try.f3.params[j]? = some t → args[j]? = some v → Value.okWide Try.prog W .any base t v := hval0
  have hW' := hW
  obtain ⟨p, q, hA0, hV, rfl, hfz, hnd⟩ := hW
  have hA : DataW.TrodAll enc Try.prog W 0 (fun _ => true) true Try.f3.params.toList args.toList ds p := hA0
  rw [Try.params3] at hA hval
  obtain ⟨v0, vs0, d0, ds0, p0, q0, hargs, rfl, rfl, h0, r0⟩ := trodAll_cons hA
  obtain ⟨rfl, rfl, rfl⟩ := trodAll_nil r0
  obtain rfl : args = #[v0] := by cases args; simp_all
  obtain ⟨rfl, rfl⟩ := trodVars_none hV
  have k0 := h0
  have lt0 := places_lt k0
  obtain ⟨m, A, n, c, xs, rfl, hl, hn, hx, _⟩ := open_net (hval 0 24 v0 rfl rfl) h0
  clear hA0 hval0
  refine (exactNetOk_walk m A n c xs W hn hl hx).mono fun e W' ⟨he, bel⟩ => ?_
  subst he
  exact ⟨_, rfl, _, _, _, [], _, [], hW', trodAll_mk1 (shut_bool Try.underlying4 _), (trodAll_cons_mk (Below.trod laidOut (by kernel_rfl) (of_decide_eq_true (by kernel_rfl)) k0 bel lt0) trodAll_mk0), rfl, bel.frame _, fun h => by cases h⟩

/-- The given statement. -/
theorem exactNetOk_proved : Rows.FnExactNetOkSaid :=
  OpenClaim.holds_of_wide 3 Try.f3 rfl rfl rfl rfl rfl rfl rfl ⟨rfl, rfl, rfl, rfl, rfl⟩ rfl rfl rfl rfl rfl (by kernel_rfl) Try.func3 (by kernel_rfl)
    (of_decide_eq_true (by kernel_rfl)) (by unfold Func.isWrapper; first | (rw [if_pos (by decide +kernel)]; kernel_rfl) | (rw [if_neg (by decide +kernel)]; exact ⟨rfl, rfl⟩))
    (fun os started H enc _ => exactNetOk_lifted os started H enc)

end Go.Proofs.Ytmncokldkecknaa
