/-
  l30Nodes: numbers in new memory; DrawManyServe: a net and numbers. No condition.
-/
import Derived.Test.YtkmognandkamoaaDrawNetOut
import Derived.Test.YtkmognandkamoaaResI
namespace Go.Proofs.Ytkmognandkamoaa
open Go.RowKit

theorem Res.youngN {w w' : World} {lo g : Nat} {v : Value} {zs : List Int} (h : Res w lo v zs) (hg : w.grownBy w' (some g)) (hl : g < lo) : Res w' lo v zs :=
  World.ownsRow.kept h hg (.inr fun e => own_ne h hl e.symm)

/-- Numbers were drawn into new memory. -/
def NodesG (w : World) (R lo : Nat) (A : Option Addr) (n c f : Nat) (e : Ending) (w' : World) : Prop :=
  ∃ v zs, e = .returned v ∧ zs.length ≤ 5 ∧ Res w' w.heap.size v zs ∧ RdF w' R lo A n c f ∧ w.grownBy w' (some R)

set_option maxRecDepth 100000 in
set_option maxHeartbeats 2000000 in
theorem l30Nodes_any (R lo : Nat) (A B : Option Addr) (n c f k cap : Nat) (m mo : Int) (w : World) (h : RdF w R lo A n c (f + 8)) (hm0 : 0 ≤ mo) (hm1 : mo ≤ 4) :
    Calls Try.prog 82 #[.pointer (some ⟨R, 0, none⟩), .agg #[.int .i64 m, .slice B k cap], .int .i64 mo] w (NodesG w R lo A n c f) := by
  have hRw := h.at_
  obtain ⟨i0, hi, hz0, hz1, hz2⟩ := info_parts infoInt
  obtain ⟨V, hV⟩ : ∃ V, V = (w.alloc (.cells #[.int .i64 m, .slice B k cap] 29)).alloc (.cells #[] 3) := ⟨_, rfl⟩
  have hpV : Past w V := by rw [hV]; exact ((Past.refl w).alloc _).alloc _
  have v0 : V.cell? ⟨w.heap.size, 0, none⟩ = some (.int .i64 m) := by rw [hV]; go_simp
  have hsV : V.heap.size = w.heap.size + 1 + 1 := by rw [hV]; simp
  have hres0 : Res V (w.heap.size + 1) (.slice (some ⟨w.heap.size + 1, 0, none⟩) 0 0) [] := by
    refine ⟨rfl, .inr ⟨w.heap.size + 1, 0, #[], rfl, Nat.le_refl _, ?_, Nat.le_refl _, by unfold maxLen; omega, rfl, rfl⟩⟩
    rw [hV]
    have := heap_alloc_new (w.alloc (.cells #[.int .i64 m, .slice B k cap] 29)) (.cells #[] 3)
    simpa using this
  have hrV := h.below hpV
  have HV := Lib.hid hV
  have hne : w.heap.size ≠ R := by omega
  have hw1 : IntKind.i64.wrap (mo + 1) = mo + 1 := IntWalk.i64_in _ (by omega)
  clear hV
  go_enter Try.func82, Try.ntmps82
  go_wp2_with fail
  rw [← HV.out]
  clear HV
  refine (pickF (f := f + 7) _ hrV).mono ?_
  rintro e w1 ⟨k1, rfl, k10, k11, hr1, hg1⟩
  obtain ⟨j1, rfl⟩ : ∃ j : Nat, k1 = j := ⟨k1.toNat, by omega⟩
  have hj1 : j1 ≤ 4 := by omega
  have hres1 := hres0.youngN hg1 (by omega)
  have b0 := cell_far hg1 v0 hne
  have gw1 := grown_trans (grown_of_below hpV (some R)) hg1
  clear hres0 k10 k11
  go_wp2
  go_loopw [7, 8] (fun v q wr => ∃ (j : Nat) (zs : List Int), j + zs.length ≤ 4 ∧ q = .int .i64 j ∧ Res wr (w.heap.size + 1) v zs ∧ RdF wr R lo A n c (f + 2 + j) ∧ wr.cell? ⟨w.heap.size, 0, none⟩ = some (.int .i64 m) ∧ w.grownBy wr (some R)) (fun _ q _ => (intOf q).toNat)
  case atStart => exact ⟨j1, [], by simp; omega, rfl, hres1, hr1.less (by omega), b0, gw1⟩
  case round =>
    clear hres1 b0 hr1 hg1 hrV h
    obtain ⟨j, zs, hjz, rfl, hv, hrd, b0, hgV⟩ := hrel
    have hwr : w.heap.size < wr.heap.size := lt_of_cell b0
    by_cases hj : 0 < j
    · obtain ⟨j', rfl⟩ : ∃ j', j = j' + 1 := ⟨j - 1, by omega⟩
      go_wp2_with fail
      refine (pickF (f := f + 2 + j') _ hrd).mono ?_
      rintro e w3 ⟨z, rfl, _, _, hr3, hg3⟩
      have hv3 := hv.youngN hg3 (by omega)
      have hgV3 := grown_trans hgV hg3
      have b03 := cell_far hg3 b0 hne
      have hs3 := hg3.size
      obtain ⟨D, hD⟩ : ∃ D, D = zs.length := ⟨_, rfl⟩
      unfold Res at hv3
      rw [← hD] at hv3 hjz
      have HD := Lib.hid hD
      have HO := Lib.hid hv3
      have HB := Lib.hid b03
      clear hD hv hv3 b0 b03
      go_wp2_with (first | (at_builtin; refine wpList_append_own _ rfl _ _ 25 rfl (w.heap.size + 1) 3 i0 (.int .i64 0) 1 8 Try.underlying25 hi hz0 hz1 hz2 rfl (by decide) _ D _ rfl (HO.out.alloc _) ⟨w3.heap.size, 0, none⟩ 1 1 [.int .i64 z] rfl rfl (cell_one_new _ _ _) (one_cell z) (by unfold maxLen; omega) (by omega) (by simp; omega) ?_; intro v4 w4 hown' hgrow4 hnil4))
      go_roundw
      case rel => exact ⟨j', zs ++ [z], by rw [List.length_append, ← HD.out]; simp; omega, by go_num, Res.push (by rw [← HD.out]; exact hown'), (hr3.alloc _).own hgrow4 (HO.out.alloc (.cells #[.int .i64 z] 3)) (by omega), hgrow4.cell (cell_in ((Past.refl w3).alloc (.cells #[.int .i64 z] 3)) HB.out) (own_ne (g := w.heap.size) (HO.out.alloc (.cells #[.int .i64 z] 3)) (by omega)), grown_next (grown_trans hgV3 (World.grownBy_alloc w3 _ _)) hgrow4 (fun g e => by have := ((HO.out.alloc (.cells #[.int .i64 z] 3)).lt g e).1; omega)⟩
      case measure => simp [intOf]
    · obtain rfl : j = 0 := by omega
      go_wp2_with fail
      refine (pickF (f := f + 1) 14 hrd).mono ?_
      rintro e w2 ⟨q, rfl, _, _, hr2, hg2⟩
      have b0 := cell_far hg2 b0 hne
      have hv2 := hv.youngN hg2 (by omega)
      have hgV2 := grown_trans hgV hg2
      have gW := hgV2
      have hs2 : w.heap.size < w2.heap.size := lt_of_cell b0
      clear hv hrd hgV hg2
      by_cases hq : q = 0
      · subst hq
        have hR2 := hr2.at_
        go_wp2_with fail
        refine (oneF (f := f) (l := 2) [-1, m] (hr2.alloc _) rfl (by omega) (by omega) (two_at w2 (-1) m) (by omega)).mono ?_
        rintro e w3 ⟨z, rfl, _, hr3, hg3⟩
        have hv3 := (hv2.below ((Past.refl w2).alloc (.cells #[.int .i64 (-1), .int .i64 m] 3))).youngN hg3 (by omega)
        have gW3 := grown_trans (grown_trans gW (World.grownBy_alloc w2 (.cells #[.int .i64 (-1), .int .i64 m] 3) (some R))) hg3
        have hs3 := hg3.size
        rw [World.size_alloc] at hs3
        obtain ⟨D, hD⟩ : ∃ D, D = zs.length := ⟨_, rfl⟩
        unfold Res at hv3
        rw [← hD] at hv3 hjz
        have HD := Lib.hid hD
        have HO := Lib.hid hv3
        clear hD hv2 hv3 b0
        go_wp2_with (first | (at_builtin; refine wpList_append_own _ rfl _ _ 25 rfl (w.heap.size + 1) 3 i0 (.int .i64 0) 1 8 Try.underlying25 hi hz0 hz1 hz2 rfl (by decide) _ D _ rfl (HO.out.alloc _) ⟨w3.heap.size, 0, none⟩ 1 1 [.int .i64 z] rfl rfl (cell_one_new _ _ _) (one_cell z) (by unfold maxLen; omega) (by omega) (by simp; omega) ?_; intro v4 w4 hown' hgrow4 hnil4))
        go_ret
        exact ⟨_, zs ++ [z], rfl, by rw [List.length_append, ← HD.out]; simp; omega, Res.lower (Res.push (by rw [← HD.out]; exact hown')) (by omega), (hr3.alloc _).own hgrow4 (HO.out.alloc (.cells #[.int .i64 z] 3)) (by omega), grown_next (grown_trans gW3 (World.grownBy_alloc w3 _ _)) hgrow4 (fun g e => by have := ((HO.out.alloc (.cells #[.int .i64 z] 3)).lt g e).1; omega)⟩
      · have hq' : (q == 0) = false := by simpa using hq
        clear hq
        go_wp2
        go_ret
        exact ⟨_, zs, rfl, by omega, hv2.lower (by omega), hr2.less (by omega), gW⟩

end Go.Proofs.Ytkmognandkamoaa
