/-
  wkEnds: a walk that is ok, from a node to another one. No condition.
-/
import Derived.Test.YtokljfeoignbcaaWalk2
import Derived.Test.YtokljfeoignbcaaQPast
namespace Go.Proofs.Ytokljfeoignbcaa
open Go.RowKit

set_option maxRecDepth 100000 in
set_option maxHeartbeats 4000000 in
theorem wkEnds_true (m : Int) (A B : Option Addr) (n c l cb : Nat) (xs : List ArcD) (ys : List Int) (fr tt : Int) (w : World) (hn : n ≤ 1048576) (hl : l ≤ 1048576) (hnx : xs.length = n) (hny : ys.length = l) (hx : ArcsAt w A xs) (hy : IntsAt w B ys)
    (ho : okB m xs ys = true) (h0 : ys = [] → fr = tt) (h1 : ys ≠ [] → (arcOf xs (numOf ys 0)).f = fr ∧ (arcOf xs (numOf ys (ys.length - 1))).t = tt) :
    Calls Try.prog 35 #[.agg #[.int .i64 m, .slice A n c], .slice B l cb, .int .i64 fr, .int .i64 tt] w fun e w' => e = .returned (.bool true) ∧ Below w.heap.size w w' := by
  have hb0 : Past w (w.alloc (.cells #[.int .i64 m, .slice A n c] 30)) := (Past.refl _).alloc _
  by_cases hl0 : l = 0
  · subst hl0
    obtain rfl := h0 (List.eq_nil_of_length_eq_zero hny)
    go_enter Try.func35, Try.ntmps35
    go_wp2
    go_ret
    exact ⟨ret_bool (by simp), hb0⟩
  · have hne : ys ≠ [] := fun e => hl0 (by rw [← hny, e]; rfl)
    obtain ⟨h1, h2⟩ := h1 hne
    have hst := ((walkB_iff xs ys).1 (by unfold okB at ho; simp at ho; exact ho.2)).2
    have arc_at : ∀ k, k < l → ∃ (j : Nat) (a : ArcD), numOf ys k = (j : Int) ∧ ys[k]? = some (j : Int) ∧ xs[j]? = some a ∧ arcOf xs (numOf ys k) = a ∧ j < n := fun k hk => by
      have hs := hst k (by omega)
      unfold stepB at hs
      simp only [Bool.and_eq_true, inB_iff] at hs
      obtain ⟨j, hj⟩ : ∃ j : Nat, numOf ys k = (j : Int) := ⟨(numOf ys k).toNat, by omega⟩
      have hjn : j < xs.length := by omega
      refine ⟨j, xs[j], hj, ?_, List.getElem?_eq_getElem hjn, ?_, by omega⟩
      · rw [← hj, numOf, List.getD_eq_getElem?_getD, List.getElem?_eq_getElem (by omega : k < ys.length)]; rfl
      · rw [hj, arcOf, Int.toNat_natCast, List.getD_eq_getElem?_getD, List.getElem?_eq_getElem hjn]; rfl
    obtain ⟨j, ⟨f1, t1, c1, l1, d1⟩, _, y1, x1, a1, j1⟩ := arc_at 0 (by omega)
    obtain ⟨k, ⟨f2, t2, c2, l2, d2⟩, _, y2, x2, a2, k1⟩ := arc_at (l - 1) (by omega)
    rw [a1] at h1
    rw [hny, a2] at h2
    simp only at h1 h2
    subst h1 h2
    obtain ⟨W, hW⟩ : ∃ W, W = w.alloc (.cells #[.int .i64 m, .slice A n c] 30) := ⟨_, rfl⟩
    have hpW : Past w W := by rw [hW]; exact hb0
    obtain ⟨gB, oB, rfl, z0⟩ := hy 0 _ y1
    rw [Nat.add_zero] at z0
    obtain ⟨_, _, e1, z1⟩ := hy (l - 1) _ y2
    injection e1 with e1
    injection e1 with e1 e2
    subst e1 e2
    obtain ⟨gA, oA, rfl, p0, _, _, _, _⟩ := hx j _ x1
    obtain ⟨_, _, e1, _, p1, _, _, _⟩ := hx k _ x2
    injection e1 with e1
    injection e1 with e1 e2
    subst e1 e2
    have b0 := past_cell (w := W) (p := ⟨w.heap.size, 0, none⟩) (v := .int .i64 m) (by rw [hW]; go_simp)
    have b1 := past_cell (w := W) (p := ⟨w.heap.size, 1, none⟩) (v := .slice (some ⟨gA, oA, none⟩) n c) (by rw [hW]; go_simp)
    have z0 := past_cell (cell_in hpW z0)
    have z1 := past_cell (cell_in hpW z1)
    have p0 := past_cell (cell_in hpW p0)
    have p1 := past_cell (cell_in hpW p1)
    have C1 : Hid (∀ q : PastOf W, Calls Try.prog 42 #[.agg #[.int .i64 m, .slice (some ⟨gA, oA, none⟩) n c], .slice (some ⟨gB, oB, none⟩) l cb] q.W fun e w' => e = .returned (.bool true) ∧ Below q.W.heap.size q.W w') := fun q => by
      have := implWalkOk_any m (some ⟨gA, oA, none⟩) (some ⟨gB, oB, none⟩) n c l cb xs ys q.W hn hl hnx hny ((hx.below hpW).below q.h) ((hy.below hpW).below q.h)
      rw [ho] at this
      exact this
    have hl1 : ¬ (l : Int) = 0 := by omega
    have hl2 : (0 : Int) < (l : Int) := by omega
    have hl3 : 0 < l := by omega
    have hw1 : IntKind.i64.wrap ((l : Int) - 1) = ((l - 1 : Nat) : Int) := by rw [IntWalk.i64_in _ (by omega)]; omega
    have i0 : (0 : Int) ≤ ((l - 1 : Nat) : Int) := by omega
    have i1 : ((l - 1 : Nat) : Int) < (l : Int) := by omega
    obtain ⟨L1, hL1⟩ : ∃ L1, L1 = l - 1 := ⟨_, rfl⟩
    rw [← hL1] at hw1 i0 i1 z1
    have j2 : (0 : Int) ≤ (j : Int) := by omega
    have j3 : (j : Int) < (n : Int) := by omega
    have k2 : (0 : Int) ≤ (k : Int) := by omega
    have k3 : (k : Int) < (n : Int) := by omega
    have HW := Lib.hid hW
    clear hW hx hy hst arc_at a1 a2 x1 x2 y1 y2 ho h0 hL1 hb0 hne
    go_enter Try.func35, Try.ntmps35
    go_wp2_with fail
    rw [← HW.out]
    refine wp_region_past (by kernel_rfl) (by kernel_rfl) ?_
    repeat (quiet_step (with_reducible exact rfl))
    quiet_step ((go_at_call 42; exact past_call (C1.out _)))
    repeat (quiet_step (with_reducible exact rfl))
    refine wpQuiet_nil ?_
    rintro W8 ⟨⟨_, hW8⟩, rfl⟩
    go_wp2
    go_ret
    exact ⟨rfl, hpW.trans hW8⟩

end Go.Proofs.Ytokljfeoignbcaa
