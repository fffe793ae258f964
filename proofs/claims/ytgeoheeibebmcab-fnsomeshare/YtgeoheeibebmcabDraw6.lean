/-
  l30AnyWalk: a list of 22 numbers at most, in new memory.
-/
import Derived.Test.YtgeoheeibebmcabDraw5
namespace Go.Proofs.Ytgeoheeibebmcab
open Go.RowKit

/-- A list was drawn into new memory. -/
def AnyWalkG (w : World) (R lo : Nat) (A : Option Addr) (n c f : Nat) (e : Ending) (w' : World) : Prop :=
  ∃ v zs, e = .returned v ∧ zs.length ≤ 22 ∧ Res w' w.heap.size v zs ∧ RdF w' R lo A n c f ∧ w.grownBy w' (some R) ∧ NN v

set_option maxRecDepth 100000 in
set_option maxHeartbeats 4000000 in
theorem l30AnyWalk_any (R lo : Nat) (A B : Option Addr) (n c f k cap : Nat) (m : Int) (xs : List ArcD) (w : World) (h : RdF w R lo A n c (f + 26)) (hk : k ≤ 13) (hxk : xs.length = k) (hx : ArcsAt w B xs) (hBR : blk B ≠ some R) :
    Calls Try.prog 87 #[.pointer (some ⟨R, 0, none⟩), .agg #[.int .i64 m, .slice B k cap]] w (AnyWalkG w R lo A n c f) := by
  have hRw := h.at_
  have hloR : lo ≤ R := by obtain ⟨p, _, hh⟩ := h; exact hh.lt
  have HX := Lib.hid hxk
  clear hxk
  obtain ⟨i0, hi, hz0, hz1, hz2⟩ := info_parts infoInt
  have hpV : Past w (w.alloc (.cells #[.int .i64 m, .slice B k cap] 25)) := (Past.refl w).alloc _
  go_enter Try.func87, Try.ntmps87
  go_wp2_with fail
  refine (l1Ok_any m B k cap xs _ (by omega) HX.out (hx.below hpV)).mono ?_
  rintro e w1 ⟨rfl, hb1⟩
  have b0 := cell_in (p := ⟨w.heap.size, 0, none⟩) (v := .int .i64 m) hb1 (by go_simp)
  have b1 := cell_in (p := ⟨w.heap.size, 1, none⟩) (v := .slice B k cap) hb1 (by go_simp)
  have hp1 := hpV.trans hb1
  have hx1 := hx.below hp1
  have hrd1 := h.below hp1
  have hs1 := lt_of_cell b0
  have hs0 := hp1.size
  clear hb1 hpV h hx
  cases hB : netB m xs with
  | false =>
    go_wp2
    go_ret
    exact ⟨_, [0], rfl, by simp, Res.one w1 w.heap.size 0 hs0, (hrd1.alloc _).less (by omega), grown_trans (grown_of_below hp1 _) (World.grownBy_alloc w1 _ _), by simp [NN]⟩
  | true =>
    clear hB
    have hinv : Inv w1 R lo A n c w.heap.size (.int .i64 m) (f + 24 + 1 + 1) w1 [] [] := Inv.start (hrd1.less (by omega)) b0 (by omega)
    have hNR : w.heap.size ≠ R := by omega
    have B1 := Lib.hid b1
    have X1 := Lib.hid hx1
    clear hx1 hrd1
    go_upto_region 3 with (fail)
    go_region_held3 (fun w' => w'.cell? ⟨w.heap.size, 0, none⟩ = some (.int .i64 m) ∧ w'.cell? ⟨w.heap.size, 1, none⟩ = some (.slice B k cap)) (go_keep)
      (first
        | (go_at_call 82; (first | with_reducible refine (pickI _ hinv.drew).mono ?_ | with_reducible refine (pickI _ (hinv.drew.allocI3 _ _ _)).mono ?_ | with_reducible refine (pickI _ (hinv.allocI3 _ _ _).drew).mono ?_ | with_reducible refine (pickI _ hinv).mono ?_ | with_reducible refine (pickI _ (hinv.allocI3 _ _ _)).mono ?_); rintro e w3 ⟨k3, rfl, k30, k31, hinv⟩; have b0 := hinv.nb; have b1 := cell_far hinv.gr B1.out hNR)
        | (go_at_call 55; (first | with_reducible refine (oneI3 hinv List.mem_cons_self).mono ?_ | with_reducible refine (oneI3 (hinv.allocI3 _ _ _) List.mem_cons_self).mono ?_); rintro e w4 ⟨z, rfl, hz, hinv⟩; have b0 := hinv.nb; have b1 := cell_far hinv.gr B1.out hNR; have hz0' : 0 ≤ z ∧ z ≤ 21 := by simp at hz; omega)
        | (go_at_call 122; refine (l30Walk_any R lo A B n c (f + 2) k cap m _ _ xs _ (hinv.rd.less (by omega)) hz0'.1 hz0'.2 hk HX.out (X1.out.grown hinv.gr (fun b e => by injection e with e; rw [← e]; exact hBR)) hBR).mono ?_; rintro e w5 ⟨v5, zs, rfl, hzl, hv5, hr5, hg5, hnn⟩; have b0 := cell_far hg5 hinv.nb hNR; have b1 := cell_far hg5 (cell_far hinv.gr B1.out hNR) hNR))
    · have hgw : w.grownBy w5 (some R) := grown_trans (grown_of_below hp1 _) (grown_trans hinv.gr hg5)
      have hv := hv5.lower (lo' := w.heap.size) (Nat.le_trans hs0 hinv.gr.size)
      clear hv5 hg5 hinv b0 b1
      go_wp2_with fail
      refine (pickF (f := f + 1) _ hr5).mono ?_
      rintro e w6 ⟨k6, rfl, k60, k61, hr6, hg6⟩
      have hv6 := hv.young hg6 hRw
      have hgw6 := grown_trans hgw hg6
      by_cases h0 : k6 = 0
      · subst h0
        go_wp2_with fail
        refine (pickF (f := f) _ hr6).mono ?_
        rintro e w7 ⟨k7, rfl, k70, k71, hr7, hg7⟩
        have hv7 := hv6.young hg7 hRw
        have hgw7 := grown_trans hgw6 hg7
        have t7 : IntKind.i64.wrap (k7 - 1) = k7 - 1 := IntWalk.i64_in _ (by omega)
        have hs7 := hgw7.size
        unfold Res at hv7
        obtain ⟨D, hD⟩ : ∃ D, D = zs.length := ⟨_, rfl⟩
        rw [← hD] at hv7 hzl
        have HDD := Lib.hid hD
        have hvA := hv7.alloc (.cells #[.int .i64 (k7 - 1)] 3)
        clear hD
        go_wp2_with (first | (at_builtin; refine wpList_append_own _ rfl _ _ 28 rfl w.heap.size 3 i0 (.int .i64 0) 1 8 Try.underlying28 hi hz0 hz1 hz2 rfl (by decide) _ _ _ rfl hvA ⟨w7.heap.size, 0, none⟩ 1 1 [.int .i64 (k7 - 1)] rfl rfl (cell_one_new _ _ _) (one_cell _) (by unfold maxLen; omega) (by omega) (by simp; omega) ?_; intro v' w8 hown' hgrow3 hnil3))
        go_ret
        exact ⟨_, zs ++ [k7 - 1], rfl, by simp; have := HDD.out; omega, Res.push (by rw [← HDD.out]; exact hown'), (hr7.alloc _).own hgrow3 hvA hRw, grown_next (grown_trans hgw7 (World.grownBy_alloc w7 _ _)) hgrow3 (fun g e => (hvA.lt g e).1), fun e => absurd (hnil3.1 e).2 (by decide)⟩
      · have b6 : (k6 == 0) = false := by simpa using h0
        go_wp2
        go_ret
        exact ⟨_, zs, rfl, by omega, hv6, hr6.less (by omega), hgw6, hnn⟩
    · have hgw : w.grownBy w5 (some R) := grown_trans (grown_of_below hp1 _) (grown_trans hinv.gr hg5)
      have hv := hv5.lower (lo' := w.heap.size) (Nat.le_trans hs0 hinv.gr.size)
      clear hv5 hg5 hinv b0 b1
      go_wp2_with fail
      refine (pickF (f := f + 1) _ hr5).mono ?_
      rintro e w6 ⟨k6, rfl, k60, k61, hr6, hg6⟩
      have hv6 := hv.young hg6 hRw
      have hgw6 := grown_trans hgw hg6
      by_cases h0 : k6 = 0
      · subst h0
        go_wp2_with fail
        refine (pickF (f := f) _ hr6).mono ?_
        rintro e w7 ⟨k7, rfl, k70, k71, hr7, hg7⟩
        have hv7 := hv6.young hg7 hRw
        have hgw7 := grown_trans hgw6 hg7
        have t7 : IntKind.i64.wrap (k7 - 1) = k7 - 1 := IntWalk.i64_in _ (by omega)
        have hs7 := hgw7.size
        unfold Res at hv7
        obtain ⟨D, hD⟩ : ∃ D, D = zs.length := ⟨_, rfl⟩
        rw [← hD] at hv7 hzl
        have HDD := Lib.hid hD
        have hvA := hv7.alloc (.cells #[.int .i64 (k7 - 1)] 3)
        clear hD
        go_wp2_with (first | (at_builtin; refine wpList_append_own _ rfl _ _ 28 rfl w.heap.size 3 i0 (.int .i64 0) 1 8 Try.underlying28 hi hz0 hz1 hz2 rfl (by decide) _ _ _ rfl hvA ⟨w7.heap.size, 0, none⟩ 1 1 [.int .i64 (k7 - 1)] rfl rfl (cell_one_new _ _ _) (one_cell _) (by unfold maxLen; omega) (by omega) (by simp; omega) ?_; intro v' w8 hown' hgrow3 hnil3))
        go_ret
        exact ⟨_, zs ++ [k7 - 1], rfl, by simp; have := HDD.out; omega, Res.push (by rw [← HDD.out]; exact hown'), (hr7.alloc _).own hgrow3 hvA hRw, grown_next (grown_trans hgw7 (World.grownBy_alloc w7 _ _)) hgrow3 (fun g e => (hvA.lt g e).1), fun e => absurd (hnil3.1 e).2 (by decide)⟩
      · have b6 : (k6 == 0) = false := by simpa using h0
        go_wp2
        go_ret
        exact ⟨_, zs, rfl, by omega, hv6, hr6.less (by omega), hgw6, hnn⟩

end Go.Proofs.Ytgeoheeibebmcab
