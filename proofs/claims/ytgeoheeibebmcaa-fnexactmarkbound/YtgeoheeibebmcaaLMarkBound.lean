/-
  FnExactMarkBound answers true at every input: impl.MarkBound answers as spec.MarkBound, leaves its arguments alone. No condition.
-/
import Derived.Test.YtgeoheeibebmcaaMBndS
import Derived.Test.YtgeoheeibebmcaaMBndI
import Derived.Test.YtgeoheeibebmcaaSame
import Derived.Test.YtgeoheeibebmcaaMark
import Derived.Test.YtgeoheeibebmcaaOpen
import Derived.Test.YtgeoheeibebmcaaToI
import Derived.Test.YtgeoheeibebmcaaSameI
import Derived.Test.YtgeoheeibebmcaaMarkI
import Derived.Test.YtgeoheeibebmcaaOpenI
import Derived.Test.YtgeoheeibebmcaaResI
import Derived.Test.YtgeoheeibebmcaaOpenW
import Derived.Test.YtgeoheeibebmcaaMarkB
namespace Go.Proofs.Ytgeoheeibebmcaa
open Go.ChangeShapes Go.WideShapes Go.ChangeAt Go.RowKit

set_option maxRecDepth 100000 in
set_option maxHeartbeats 2000000 in
theorem exactMarkBound_walk (m0 : Int) (A0 : Option Addr) (n0 c0 : Nat) (xs0 : List ArcD) (A1 : Option Addr) (n1 c1 : Nat) (xs1 : List Int) (z2 : Int) (z3 : Int) (w : World) (hn0 : n0 ≤ maxLen) (hl0 : xs0.length = n0) (hx0 : ArcsAt w A0 xs0) (_hn1 : n1 ≤ maxLen) (hl1 : xs1.length = n1) (hx1 : IntsAt w A1 xs1) :
    Calls Try.prog 3 #[.agg #[.int .i64 m0, .slice A0 n0 c0], .slice A1 n1 c1, .int .i64 z2, .int .i64 z3] w fun e w' => e = .returned (.bool true) ∧ Below w.heap.size w w' := by
  have HX0 := Lib.hid hl0
  have HX1 := Lib.hid hl1
  clear hl0 hl1
  have hP : Past w (w.alloc (.cells #[.int .i64 m0, .slice A0 n0 c0] 24)) := ((Past.refl w).alloc _)
  by_cases hl20_1 : 1048576 < n1
  · have hl20' : (1048576 : Int) < (n1 : Int) := by omega
    go_enter Try.func3, Try.ntmps3
    go_wp2
    go_ret
    exact ⟨rfl, hP⟩
  have h20_1 : n1 ≤ 1048576 := by omega
  have hl20'_1 : ¬ (1048576 : Int) < (n1 : Int) := by omega
  go_enter Try.func3, Try.ntmps3
  go_wp2_with fail
  refine (szNet_any m0 A0 n0 c0 (1048576) _ (by omega) (by omega) hn0).mono ?_
  rintro e w1 ⟨rfl, hb⟩
  have a0_0 := cell_in (p := ⟨w.heap.size, 0, none⟩) (v := .int .i64 m0) hb (by go_simp)
  have a0_1 := cell_in (p := ⟨w.heap.size, 1, none⟩) (v := .slice A0 n0 c0) hb (by go_simp)
  have hx0 := (hx0.below hP).below hb
  have hx1 := (hx1.below hP).below hb
  have hP := Past.trans hP hb
  clear hb
  by_cases h20s_0 : (n0 : Int) ≤ 1048576
  rotate_left
  · have hr : roomLeft (1048576) n0 = -1 := by unfold roomLeft; rw [if_pos (by omega)]
    rw [hr]
    go_wp2
    go_ret
    exact ⟨rfl, hP⟩
  have hr : roomLeft (1048576) n0 = 1048576 - n0 := by unfold roomLeft; rw [if_neg (by omega)]
  rw [hr]
  clear hr
  have h20_0 : n0 ≤ 1048576 := by omega
  go_wp2_with fail
  refine (toNet_any m0 A0 n0 c0 xs0 _ h20_0 HX0.out hx0).mono ?_
  rintro e w2 ⟨sg0, rfl, hb, hg, sm0⟩
  have hx0 := hx0.below hb
  have hx1 := hx1.below hb
  have a0_0 := cell_in hb a0_0
  have a0_1 := cell_in hb a0_1
  have hP := Past.trans hP hb
  have s2 := hb.size
  clear hb hg
  go_wp2_with fail
  refine (toIntS_any A1 n1 c1 xs1 _ h20_1 HX1.out hx1).mono ?_
  rintro e w3 ⟨sg1, rfl, hb, hg, sm1⟩
  have hx0 := hx0.below hb
  have hx1 := hx1.below hb
  have a0_0 := cell_in hb a0_0
  have a0_1 := cell_in hb a0_1
  have sm0 := sm0.below hb
  have hP := Past.trans hP hb
  have s3 := hb.size
  clear hb hg
  go_wp2_with fail
  refine (specMarkBound_any m0 _ n0 n0 xs0 _ n1 n1 xs1 z2 z3 _ h20_0 HX0.out (sm0.arcs HX0.out) h20_1 HX1.out (sm1.ints HX1.out)).mono ?_
  rintro e w4 ⟨rfl, hb⟩
  have hx0 := hx0.below hb
  have hx1 := hx1.below hb
  have a0_0 := cell_in hb a0_0
  have a0_1 := cell_in hb a0_1
  have sm0 := sm0.below hb
  have sm1 := sm1.below hb
  have hP := Past.trans hP hb
  have s4 := hb.size
  clear hb
  clear sm0 sm1
  have hx0E := hx0
  have hx1E := hx1
  have sb : w.heap.size < w4.heap.size := lt_of_cell a0_0
  have sP := hP.size
  go_wp2_with fail
  refine (toNet_any m0 A0 n0 c0 xs0 _ h20_0 HX0.out hx0).mono ?_
  rintro e w5 ⟨g0, rfl, hb, hg0, hm0⟩
  have sg0 := hm0.1.lt
  have hx0 := hx0.below hb
  have hx1 := hx1.below hb
  have a0_0 := cell_in hb a0_0
  have a0_1 := cell_in hb a0_1
  have hP := Past.trans hP hb
  have s5 := hb.size
  clear hb
  have hb : Past w5 (w5.alloc (.cells #[.int .i64 m0, .slice (some ⟨g0, 0, none⟩) n0 n0] 30)) := (Past.refl _).alloc _
  obtain ⟨w6, hw6⟩ : ∃ u, u = w5.alloc (.cells #[.int .i64 m0, .slice (some ⟨g0, 0, none⟩) n0 n0] 30) := ⟨_, rfl⟩
  go_wp2_with fail
  have p0_0 : w6.cell? ⟨w5.heap.size, 0, none⟩ = some (.int .i64 m0) := by rw [hw6]; go_simp
  have p0_1 : w6.cell? ⟨w5.heap.size, 1, none⟩ = some (.slice (some ⟨g0, 0, none⟩) n0 n0) := by rw [hw6]; go_simp
  rw [← hw6] at hb ⊢
  have sx0 : w5.heap.size < w6.heap.size := lt_of_cell p0_0
  clear hw6
  have hx0 := hx0.below hb
  have hx1 := hx1.below hb
  have a0_0 := cell_in hb a0_0
  have a0_1 := cell_in hb a0_1
  have hm0 := hm0.below hb
  have hP := Past.trans hP hb
  have s6 := hb.size
  clear hb
  go_wp2_with fail
  refine (toIntS_any A1 n1 c1 xs1 _ h20_1 HX1.out hx1).mono ?_
  rintro e w7 ⟨g1, rfl, hb, hg1, hm1⟩
  have sg1 := hm1.1.lt
  have hx0 := hx0.below hb
  have hx1 := hx1.below hb
  have a0_0 := cell_in hb a0_0
  have a0_1 := cell_in hb a0_1
  have hm0 := hm0.below hb
  have p0_0 := cell_in hb p0_0
  have p0_1 := cell_in hb p0_1
  have hP := Past.trans hP hb
  have s7 := hb.size
  clear hb
  go_wp2_with fail
  refine (implMarkBound_any m0 _ n0 n0 xs0 _ n1 n1 xs1 z2 z3 _ h20_0 HX0.out (hm0.arcs HX0.out) h20_1 HX1.out (hm1.ints HX1.out)).mono ?_
  rintro e w8 ⟨rfl, hb⟩
  have hx0 := hx0.below hb
  have hx1 := hx1.below hb
  have a0_0 := cell_in hb a0_0
  have a0_1 := cell_in hb a0_1
  have hm0 := hm0.below hb
  have p0_0 := cell_in hb p0_0
  have p0_1 := cell_in hb p0_1
  have hm1 := hm1.below hb
  have hP := Past.trans hP hb
  have s8 := hb.size
  clear hb
  have hq := (hm0.arcs HX0.out)
  go_wp2_with fail
  go_region_held3 (fun w' => w'.cell? ⟨w.heap.size, 0, none⟩ = some (.int .i64 m0) ∧ w'.cell? ⟨w.heap.size, 1, none⟩ = some (.slice A0 n0 c0) ∧ w'.cell? ⟨w5.heap.size, 0, none⟩ = some (.int .i64 m0) ∧ w'.cell? ⟨w5.heap.size, 1, none⟩ = some (.slice (some ⟨g0, 0, none⟩) n0 n0)) (go_keep)
    (first
      | (go_at_call 17; refine (toNet_any m0 A0 n0 c0 xs0 _ h20_0 HX0.out hx0.drew).mono ?_; rintro e w9 ⟨g9, rfl, hb9, hg9, hm9⟩; have a0_0 := cell_in hb9 a0_0; have a0_1 := cell_in hb9 a0_1; have p0_0 := cell_in hb9 p0_0; have p0_1 := cell_in hb9 p0_1)
      | (go_at_call 20; refine (eqNet_same m0 _ _ n0 n0 n0 xs0 _ h20_0 HX0.out (hq.drew.below hb9) (hm9.arcs HX0.out)).mono ?_; rintro e w10 ⟨rfl, hb10⟩; have a0_0 := cell_in hb10 a0_0; have a0_1 := cell_in hb10 a0_1; have p0_0 := cell_in hb10 p0_0; have p0_1 := cell_in hb10 p0_1))
  have hb : Past w8 w10 := (Past.refl w8).drew.trans (Past.trans hb9 hb10)
  clear hb9 hb10 hq hm9 hg9
  have hx0 := hx0.below hb
  have hx1 := hx1.below hb
  have hm0 := hm0.below hb
  have hm1 := hm1.below hb
  have hP := Past.trans hP hb
  have s10 := hb.size
  clear hb
  go_wp2_with fail
  refine (toIntS_any A1 n1 c1 xs1 _ h20_1 HX1.out hx1).mono ?_
  rintro e w11 ⟨gq, rfl, hb, hgq, hmq⟩
  have hx0 := hx0.below hb
  have hx1 := hx1.below hb
  have a0_0 := cell_in hb a0_0
  have a0_1 := cell_in hb a0_1
  have hm0 := hm0.below hb
  have p0_0 := cell_in hb p0_0
  have p0_1 := cell_in hb p0_1
  have hm1 := hm1.below hb
  have hP := Past.trans hP hb
  have s11 := hb.size
  clear hb hgq
  go_wp2_with fail
  refine (eqIntS_same _ _ n1 n1 n1 xs1 _ h20_1 HX1.out (hm1.ints HX1.out) (hmq.ints HX1.out)).mono ?_
  rintro e w12 ⟨rfl, hb⟩
  have hx0 := hx0.below hb
  have hx1 := hx1.below hb
  have a0_0 := cell_in hb a0_0
  have a0_1 := cell_in hb a0_1
  have hm0 := hm0.below hb
  have p0_0 := cell_in hb p0_0
  have p0_1 := cell_in hb p0_1
  have hm1 := hm1.below hb
  have hP := Past.trans hP hb
  have s12 := hb.size
  clear hb hmq
  go_wp2
  go_ret
  exact ⟨rfl, hP⟩

set_option maxRecDepth 100000 in
theorem exactMarkBound_lifted (os : Os) (started : os.Started) (H : Type) (enc : TypeId × Value → H) :
    ReturnsInHanded {} Try.checked os 3 .any (Rows.fnExactMarkBoundSpec.pre6 enc Try.prog Try.f3 Rows.fnExactMarkBoundRow.domain false) (Rows.fnExactMarkBoundSpec.post enc Try.prog Try.f3 false true false false) := by
  refine returnsInHanded_of_change (C := Try.checked) own started (by kernel_rfl) Try.func3
    (ChangeSpec.witness6 (enc := enc) (C := Try.checked) false ⟨#[], #[.agg #[.int .i64 0, .slice none 0 0], .slice none 0 0, .int .i64 0, .int .i64 0], []⟩ 8 (by kernel_rfl) (by kernel_rfl) (by kernel_rfl) (by kernel_rfl)) ?_
  intro W base args ds gs before hval0 hW hcnd _
  have hval : ∀ (j : Nat) t v, Try.f3.params[j]? = some t → args[j]? = some v → Value.okWide Try.prog W .any base t v := hval0
  have hW' := hW
  obtain ⟨p, q, hA0, hV, rfl, hfz, hnd⟩ := hW
  have hA : DataW.TrodAll enc Try.prog W 0 (fun _ => true) true Try.f3.params.toList args.toList ds p := hA0
  rw [Try.params3] at hA hval
  obtain ⟨v0, vs0, d0, ds0, p0, q0, hargs, rfl, rfl, h0, r0⟩ := trodAll_cons hA
  obtain ⟨v1, vs1, d1, ds1, p1, q1, rfl, rfl, rfl, h1, r1⟩ := trodAll_cons r0
  obtain ⟨v2, vs2, d2, ds2, p2, q2, rfl, rfl, rfl, h2, r2⟩ := trodAll_cons r1
  obtain ⟨v3, vs3, d3, ds3, p3, q3, rfl, rfl, rfl, h3, r3⟩ := trodAll_cons r2
  obtain ⟨rfl, rfl, rfl⟩ := trodAll_nil r3
  obtain rfl : args = #[v0, v1, v2, v3] := by cases args; simp_all
  obtain ⟨rfl, rfl⟩ := trodVars_none hV
  have k0 := h0
  have lt0 := places_lt k0
  have k1 := h1
  have lt1 := places_lt k1
  have k2 := h2
  have lt2 := places_lt k2
  have k3 := h3
  have lt3 := places_lt k3
  obtain ⟨m0, A0, n0, c0, xs0, rfl, hl0, hn0, hx0, _⟩ := open_net (hval 0 24 v0 rfl rfl) h0
  obtain ⟨A1, n1, c1, xs1, rfl, hl1, hn1, hx1⟩ := open_list (hval 1 25 v1 rfl rfl) h1
  obtain ⟨z2, rfl⟩ := okWide_int Try.underlying3 (hval 2 3 v2 rfl rfl)
  obtain ⟨z3, rfl⟩ := okWide_int Try.underlying3 (hval 3 3 v3 rfl rfl)
  clear hA0 hval0
  refine (exactMarkBound_walk m0 A0 n0 c0 xs0 A1 n1 c1 xs1 z2 z3 W hn0 hl0 hx0 hn1 hl1 hx1).mono fun e W' ⟨he, bel⟩ => ?_
  subst he
  exact ⟨_, rfl, _, _, _, [], _, [], hW', trodAll_mk1 (shut_bool Try.underlying4 _), (trodAll_cons_mk (Below.trod laidOut (by kernel_rfl) (of_decide_eq_true (by kernel_rfl)) k0 bel lt0) (trodAll_cons_mk (Below.trod laidOut (by kernel_rfl) (of_decide_eq_true (by kernel_rfl)) k1 bel lt1) (trodAll_cons_mk (Below.trod laidOut (by kernel_rfl) (of_decide_eq_true (by kernel_rfl)) k2 bel lt2) (trodAll_cons_mk (Below.trod laidOut (by kernel_rfl) (of_decide_eq_true (by kernel_rfl)) k3 bel lt3) trodAll_mk0)))), rfl, bel.frame _, fun h => by cases h⟩

/-- The given statement. -/
theorem exactMarkBound_proved : Rows.FnExactMarkBoundSaid :=
  OpenClaim.holds_of_wide 3 Try.f3 rfl rfl rfl rfl rfl rfl rfl ⟨rfl, rfl, rfl, rfl, rfl⟩ rfl rfl rfl rfl rfl (by kernel_rfl) Try.func3 (by kernel_rfl)
    (of_decide_eq_true (by kernel_rfl)) (by unfold Func.isWrapper; first | (rw [if_pos (by decide +kernel)]; kernel_rfl) | (rw [if_neg (by decide +kernel)]; exact ⟨rfl, rfl⟩))
    (fun os started H enc _ => exactMarkBound_lifted os started H enc)

end Go.Proofs.Ytgeoheeibebmcaa
