/-
  FnExactLiveOk answers true at every input: impl.LiveOk answers as spec.LiveOk, leaves its arguments alone. No condition.
-/
import Derived.Test.YtaojognjkiifmabSLive
import Derived.Test.YtaojognjkiifmabILive
import Derived.Test.YtaojognjkiifmabRLive
import Derived.Test.YtaojognjkiifmabOpenW
import Derived.Test.YtaojognjkiifmabMarkB
namespace Go.Proofs.Ytaojognjkiifmab
open Go.ChangeShapes Go.WideShapes Go.ChangeAt Go.RowKit

set_option maxRecDepth 100000 in
set_option maxHeartbeats 2000000 in
theorem exactLiveOk_walk (m0 : Int) (A0 : Option Addr) (n0 c0 : Nat) (xs0 : List ArcD) (B0 : Option Addr) (l0 d0 : Nat) (ns0 : List NewsD) (w : World) (hn0 : n0 ≤ maxLen) (hl0 : xs0.length = n0) (hx0 : ArcsAt w A0 xs0) (hnl0 : l0 ≤ maxLen) (hly0 : ns0.length = l0) (hy0 : NewssAt w B0 ns0) :
    Calls Try.prog 5 #[.agg #[.int .i64 m0, .slice A0 n0 c0, .slice B0 l0 d0]] w fun e w' => e = .returned (.bool true) ∧ Below w.heap.size w w' := by
  have HX0 := Lib.hid hl0
  have HY0 := Lib.hid hly0
  clear hl0 hly0
  have hP : Past w (w.alloc (.cells #[.int .i64 m0, .slice A0 n0 c0, .slice B0 l0 d0] 47)) := ((Past.refl w).alloc _)
  go_enter Try.func5, Try.ntmps5
  go_wp2_with fail
  refine (szLive_any m0 A0 n0 c0 B0 l0 d0 (1048576) _ (by omega) (by omega) hn0 hnl0).mono ?_
  rintro e w1 ⟨rfl, hb⟩
  have a0_0 := cell_in (p := ⟨w.heap.size, 0, none⟩) (v := .int .i64 m0) hb (by go_simp)
  have a0_1 := cell_in (p := ⟨w.heap.size, 1, none⟩) (v := .slice A0 n0 c0) hb (by go_simp)
  have a0_2 := cell_in (p := ⟨w.heap.size, 2, none⟩) (v := .slice B0 l0 d0) hb (by go_simp)
  have hx0 := (hx0.below hP).below hb
  have hy0 := (hy0.below hP).below hb
  have hP := Past.trans hP hb
  clear hb
  have hno : ∀ r : Int, roomLive 1048576 n0 l0 = r → r < 0 ∨ (n0 ≤ 1048576 ∧ l0 ≤ 1048576 ∧ r = 1048576 - n0 - l0) := by
    intro r hr
    unfold roomLive roomLeft at hr
    split at hr
    · split at hr
      · left; omega
      · right; exact ⟨by omega, by omega, by omega⟩
    · left; omega
  obtain ⟨r, hr⟩ : ∃ r, roomLive 1048576 n0 l0 = r := ⟨_, rfl⟩
  have hno := hno r hr
  rw [hr]
  clear hr
  by_cases hr0 : r < 0
  · clear hno
    go_wp2
    go_ret
    exact ⟨rfl, hP⟩
  have h20_0 : n0 ≤ 1048576 := by omega
  have k20_0 : l0 ≤ 1048576 := by omega
  clear hno
  go_wp2_with fail
  refine (toLive_any m0 A0 n0 c0 xs0 B0 l0 d0 ns0 _ h20_0 HX0.out hx0 k20_0 HY0.out hy0).mono ?_
  rintro e w2 ⟨sg0, sh0, rfl, hb, hg, sm0, hgh, sn0⟩
  have hx0 := hx0.below hb
  have hy0 := hy0.below hb
  have a0_0 := cell_in hb a0_0
  have a0_1 := cell_in hb a0_1
  have a0_2 := cell_in hb a0_2
  have hP := Past.trans hP hb
  clear hb hg hgh
  go_wp2_with fail
  refine (specLiveOk_any m0 _ n0 n0 xs0 _ l0 l0 ns0 _ h20_0 HX0.out (sm0.arcs HX0.out) k20_0 HY0.out (sn0.at_ HY0.out)).mono ?_
  rintro e w3 ⟨rfl, hb⟩
  have hx0 := hx0.below hb
  have hy0 := hy0.below hb
  have a0_0 := cell_in hb a0_0
  have a0_1 := cell_in hb a0_1
  have a0_2 := cell_in hb a0_2
  have hP := Past.trans hP hb
  clear hb sm0 sn0
  have sb : w.heap.size < w3.heap.size := lt_of_cell a0_0
  go_wp2_with fail
  refine (toLive_any m0 A0 n0 c0 xs0 B0 l0 d0 ns0 _ h20_0 HX0.out hx0 k20_0 HY0.out hy0).mono ?_
  rintro e w4 ⟨g0, h0, rfl, hb, hg0, hm0, hgh0, hn0'⟩
  have hx0 := hx0.below hb
  have hy0 := hy0.below hb
  have a0_0 := cell_in hb a0_0
  have a0_1 := cell_in hb a0_1
  have a0_2 := cell_in hb a0_2
  have hP := Past.trans hP hb
  clear hb
  have hb : Past w4 (w4.alloc (.cells #[.int .i64 m0, .slice (some ⟨g0, 0, none⟩) n0 n0, .slice (some ⟨h0, 0, none⟩) l0 l0] 52)) := (Past.refl _).alloc _
  obtain ⟨w5, hw6⟩ : ∃ u, u = w4.alloc (.cells #[.int .i64 m0, .slice (some ⟨g0, 0, none⟩) n0 n0, .slice (some ⟨h0, 0, none⟩) l0 l0] 52) := ⟨_, rfl⟩
  go_wp2_with fail
  have p0_0 : w5.cell? ⟨w4.heap.size, 0, none⟩ = some (.int .i64 m0) := by rw [hw6]; go_simp
  have p0_1 : w5.cell? ⟨w4.heap.size, 1, none⟩ = some (.slice (some ⟨g0, 0, none⟩) n0 n0) := by rw [hw6]; go_simp
  have p0_2 : w5.cell? ⟨w4.heap.size, 2, none⟩ = some (.slice (some ⟨h0, 0, none⟩) l0 l0) := by rw [hw6]; go_simp
  rw [← hw6] at hb ⊢
  have sx0 : w4.heap.size < w5.heap.size := lt_of_cell p0_0
  clear hw6
  have hx0 := hx0.below hb
  have hy0 := hy0.below hb
  have a0_0 := cell_in hb a0_0
  have a0_1 := cell_in hb a0_1
  have a0_2 := cell_in hb a0_2
  have hm0 := hm0.below hb
  have hn0' := hn0'.below hb
  have hP := Past.trans hP hb
  clear hb
  refine (implLiveOk_any m0 _ n0 n0 xs0 _ l0 l0 ns0 _ h20_0 HX0.out (hm0.arcs HX0.out) k20_0 HY0.out (hn0'.at_ HY0.out)).mono ?_
  rintro e w6 ⟨rfl, hb⟩
  have hx0 := hx0.below hb
  have hy0 := hy0.below hb
  have a0_0 := cell_in hb a0_0
  have a0_1 := cell_in hb a0_1
  have a0_2 := cell_in hb a0_2
  have hm0 := hm0.below hb
  have hn0' := hn0'.below hb
  have p0_0 := cell_in hb p0_0
  have p0_1 := cell_in hb p0_1
  have p0_2 := cell_in hb p0_2
  have hP := Past.trans hP hb
  clear hb
  have hq := (hm0.arcs HX0.out)
  have hqn := (hn0'.at_ HY0.out)
  go_wp2_with fail
  go_region_held3 (fun w' => w'.cell? ⟨w.heap.size, 0, none⟩ = some (.int .i64 m0) ∧ w'.cell? ⟨w.heap.size, 1, none⟩ = some (.slice A0 n0 c0) ∧ w'.cell? ⟨w.heap.size, 2, none⟩ = some (.slice B0 l0 d0) ∧ w'.cell? ⟨w4.heap.size, 0, none⟩ = some (.int .i64 m0) ∧ w'.cell? ⟨w4.heap.size, 1, none⟩ = some (.slice (some ⟨g0, 0, none⟩) n0 n0) ∧ w'.cell? ⟨w4.heap.size, 2, none⟩ = some (.slice (some ⟨h0, 0, none⟩) l0 l0)) (go_keep)
    (first
      | (go_at_call 29; refine (toLive_any m0 A0 n0 c0 xs0 B0 l0 d0 ns0 _ h20_0 HX0.out hx0.drew k20_0 HY0.out hy0.drew).mono ?_; rintro e w7 ⟨g9, h9, rfl, hb9, hg9, hm9, hgh9, hn9⟩; have a0_0 := cell_in hb9 a0_0; have a0_1 := cell_in hb9 a0_1; have a0_2 := cell_in hb9 a0_2; have p0_0 := cell_in hb9 p0_0; have p0_1 := cell_in hb9 p0_1; have p0_2 := cell_in hb9 p0_2)
      | (go_at_call 31; refine (eqLive_same m0 _ _ n0 n0 n0 xs0 _ _ l0 l0 l0 ns0 _ h20_0 HX0.out (hq.drew.below hb9) (hm9.arcs HX0.out) k20_0 HY0.out (hqn.drew.below hb9) (hn9.at_ HY0.out)).mono ?_; rintro e w8 ⟨rfl, hb10⟩; have a0_0 := cell_in hb10 a0_0; have a0_1 := cell_in hb10 a0_1; have a0_2 := cell_in hb10 a0_2; have p0_0 := cell_in hb10 p0_0; have p0_1 := cell_in hb10 p0_1; have p0_2 := cell_in hb10 p0_2))
  have hb : Past w6 w8 := (Past.refl w6).drew.trans (Past.trans hb9 hb10)
  have hP := Past.trans hP hb
  go_wp2
  go_ret
  exact ⟨rfl, hP⟩

set_option maxRecDepth 100000 in
theorem exactLiveOk_lifted (os : Os) (started : os.Started) (H : Type) (enc : TypeId × Value → H) :
    ReturnsInHanded {} Try.checked os 5 .any (Rows.fnExactLiveOkSpec.pre6 enc Try.prog Try.f5 Rows.fnExactLiveOkRow.domain false) (Rows.fnExactLiveOkSpec.post enc Try.prog Try.f5 false true false false) := by
  refine returnsInHanded_of_change (C := Try.checked) own started (by kernel_rfl) Try.func5
    (ChangeSpec.witness6 (enc := enc) (C := Try.checked) false ⟨#[], #[.agg #[.int .i64 0, .slice none 0 0, .slice none 0 0]], []⟩ 8 (by kernel_rfl) (by kernel_rfl) (by kernel_rfl) (by kernel_rfl)) ?_
  intro W base args ds gs before hval0 hW hcnd _
  have hval : ∀ (j : Nat) t v, Try.f5.params[j]? = some t → args[j]? = some v → Value.okWide Try.prog W .any base t v := hval0
  have hW' := hW
  obtain ⟨p, q, hA0, hV, rfl, hfz, hnd⟩ := hW
  have hA : DataW.TrodAll enc Try.prog W 0 (fun _ => true) true Try.f5.params.toList args.toList ds p := hA0
  rw [Try.params5] at hA hval
  obtain ⟨v0, vs0, d0, ds0, p0, q0, hargs, rfl, rfl, h0, r0⟩ := trodAll_cons hA
  obtain ⟨rfl, rfl, rfl⟩ := trodAll_nil r0
  obtain rfl : args = #[v0] := by cases args; simp_all
  obtain ⟨rfl, rfl⟩ := trodVars_none hV
  have k0 := h0
  have lt0 := places_lt k0
  obtain ⟨m0, A0, n0, c0, xs0, B0, l0, e0, ns0, rfl, ⟨hl0, hn0, hx0⟩, hly0, hnl0, hy0⟩ := open_live (hval 0 47 v0 rfl rfl) h0
  clear hA0 hval0
  refine (exactLiveOk_walk m0 A0 n0 c0 xs0 B0 l0 e0 ns0 W hn0 hl0 hx0 hnl0 hly0 hy0).mono fun e W' ⟨he, bel⟩ => ?_
  subst he
  exact ⟨_, rfl, _, _, _, [], _, [], hW', trodAll_mk1 (shut_bool Try.underlying4 _), (trodAll_cons_mk (Below.trod laidOut (by kernel_rfl) (of_decide_eq_true (by kernel_rfl)) k0 bel lt0) trodAll_mk0), rfl, bel.frame _, fun h => by cases h⟩

/-- The given statement. -/
theorem exactLiveOk_proved : Rows.FnExactLiveOkSaid :=
  OpenClaim.holds_of_wide 5 Try.f5 rfl rfl rfl rfl rfl rfl rfl ⟨rfl, rfl, rfl, rfl, rfl⟩ rfl rfl rfl rfl rfl (by kernel_rfl) Try.func5 (by kernel_rfl)
    (of_decide_eq_true (by kernel_rfl)) (by unfold Func.isWrapper; first | (rw [if_pos (by decide +kernel)]; kernel_rfl) | (rw [if_neg (by decide +kernel)]; exact ⟨rfl, rfl⟩))
    (fun os started H enc _ => exactLiveOk_lifted os started H enc)

end Go.Proofs.Ytaojognjkiifmab
