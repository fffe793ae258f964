/-
  l30Costs, DrawCostNet: a net and costs are drawn into new memory. No condition.
-/
import Derived.Test.YtkmognandkamoaaDrawMany
namespace Go.Proofs.Ytkmognandkamoaa
open Go.RowKit

/-- Costs were drawn into new memory. -/
def CostsG (w : World) (R lo : Nat) (A : Option Addr) (n c f : Nat) (e : Ending) (w' : World) : Prop :=
  ∃ v zs, e = .returned v ∧ zs.length ≤ 14 ∧ Res w' w.heap.size v zs ∧ RdF w' R lo A n c f ∧ w.grownBy w' (some R)

/-- A net and costs were drawn. -/
def DrawCostsG (w : World) (e : Ending) (w' : World) : Prop :=
  ∃ (m : Int) (B : Option Addr) (k cap : Nat) (xs : List ArcD) (D : Option Addr) (l cd : Nat) (zs : List Int), e = .returned (.tuple #[.agg #[.int .i64 m, .slice B k cap], .slice D l cd]) ∧ xs.length = k ∧ k ≤ 13 ∧ ArcsAt w' B xs ∧ ((B = none ∧ k = 0) ∨ ∃ g o, B = some ⟨g, o, none⟩) ∧ zs.length = l ∧ l ≤ 14 ∧ IntsAt w' D zs ∧ Below w.heap.size w w'

set_option maxRecDepth 100000 in
set_option maxHeartbeats 2000000 in
theorem l30Costs_any (R lo : Nat) (A B : Option Addr) (n c f k cap : Nat) (m : Int) (xs : List ArcD) (w : World) (h : RdF w R lo A n c (f + 2 + 2 * k)) (hxk : xs.length = k) (hk13 : k ≤ 13) (hx : ArcsAt w B xs) (hBR : blk B ≠ some R) :
    Calls Try.prog 78 #[.pointer (some ⟨R, 0, none⟩), .agg #[.int .i64 m, .slice B k cap]] w (CostsG w R lo A n c f) := by
  have hRw := h.at_
  have HX := Lib.hid hxk
  clear hxk
  obtain ⟨i0, hi, hz0, hz1, hz2⟩ := info_parts infoInt
  obtain ⟨V, hV⟩ : ∃ V, V = (w.alloc (.cells #[.int .i64 m, .slice B k cap] 29)).alloc (.cells #[] 3) := ⟨_, rfl⟩
  have hpV : Past w V := by rw [hV]; exact ((Past.refl w).alloc _).alloc _
  have v1 : V.cell? ⟨w.heap.size, 1, none⟩ = some (.slice B k cap) := by rw [hV]; go_simp
  have hres0 : Res V (w.heap.size + 1) (.slice (some ⟨w.heap.size + 1, 0, none⟩) 0 0) [] := by
    refine ⟨rfl, .inr ⟨w.heap.size + 1, 0, #[], rfl, Nat.le_refl _, ?_, Nat.le_refl _, by unfold maxLen; omega, rfl, rfl⟩⟩
    rw [hV]
    have := heap_alloc_new (w.alloc (.cells #[.int .i64 m, .slice B k cap] 29)) (.cells #[] 3)
    simpa using this
  have hrV := h.below hpV
  have gV := grown_of_below hpV (some R)
  have HV := Lib.hid hV
  have hne : w.heap.size ≠ R := by omega
  clear hV h
  go_enter Try.func78, Try.ntmps78
  go_wp2
  rw [← HV.out]
  clear HV
  go_loopw [5, 6] (fun v q wr => ∃ (j : Nat) (zs : List Int), j ≤ k ∧ zs.length = j ∧ q = .int .i64 j ∧ Res wr (w.heap.size + 1) v zs ∧ RdF wr R lo A n c (f + 2 + 2 * (k - j)) ∧ wr.cell? ⟨w.heap.size, 1, none⟩ = some (.slice B k cap) ∧ w.grownBy wr (some R)) (fun _ q _ => k - (intOf q).toNat)
  case atStart => exact ⟨0, [], by omega, rfl, rfl, hres0, hrV, v1, gV⟩
  case round =>
    clear hres0 hrV gV v1
    obtain ⟨j, zs, hj, hjz, rfl, hv, hrd, b1, hgV⟩ := hrel
    have hwr : w.heap.size < wr.heap.size := lt_of_cell b1
    by_cases hlt : j < k
    · obtain ⟨⟨a1, a2, a3, a4, a5⟩, ha⟩ : ∃ a, xs[j]? = some a := ⟨_, List.getElem?_eq_getElem (by have := HX.out; omega)⟩
      obtain ⟨g, o, rfl, c0, c1, c2, c3, c4⟩ := (hx.grown hgV (fun b e => by injection e with e; rw [← e]; exact hBR)) j _ ha
      have j0 : (0 : Int) ≤ (j : Int) := by omega
      have j1 : (j : Int) < (k : Int) := by omega
      clear ha c0 c1 c3 c4
      go_wp2_with fail
      refine (pickF (f := f + 2 + 2 * (k - (j + 1)) + 1) 3 (hrd.less (by omega))).mono ?_
      rintro e w2 ⟨q, rfl, _, _, hr2, hg2⟩
      have b2 := cell_far hg2 b1 hne
      have hv2 := hv.youngN hg2 (by omega)
      have hgV2 := grown_trans hgV hg2
      have hs2 := hg2.size
      clear hv hrd hg2 b1 c2 hgV
      by_cases hq : q = 0
      · subst hq
        have hR2 := hr2.at_
        go_wp2_with fail
        refine (oneF (f := f + 2 + 2 * (k - (j + 1))) (l := 4) [0, 1, 7, 99] (hr2.alloc _) rfl (by omega) (by omega) (ints_new w2 [0, 1, 7, 99] rfl _) (by omega)).mono ?_
        rintro e w3 ⟨z, rfl, _, hr3, hg3⟩
        have hv3 := (hv2.below ((Past.refl w2).alloc (.cells #[.int .i64 0, .int .i64 1, .int .i64 7, .int .i64 99] 3))).youngN hg3 (by omega)
        have b3 := cell_far hg3 (cell_in ((Past.refl w2).alloc (.cells #[.int .i64 0, .int .i64 1, .int .i64 7, .int .i64 99] 3)) b2) hne
        have hgV3 := grown_trans (grown_trans hgV2 (World.grownBy_alloc w2 (.cells #[.int .i64 0, .int .i64 1, .int .i64 7, .int .i64 99] 3) (some R))) hg3
        have hs3 := hg3.size
        rw [World.size_alloc] at hs3
        unfold Res at hv3
        rw [hjz] at hv3
        have HD := Lib.hid hjz
        have HO := Lib.hid hv3
        have HB := Lib.hid b3
        clear hjz hv2 hv3 b2 b3
        go_wp2_with (first | (at_builtin; refine wpList_append_own _ rfl _ _ 25 rfl (w.heap.size + 1) 3 i0 (.int .i64 0) 1 8 Try.underlying25 hi hz0 hz1 hz2 rfl (by decide) _ j _ rfl (HO.out.alloc _) ⟨w3.heap.size, 0, none⟩ 1 1 [.int .i64 z] rfl rfl (cell_one_new _ _ _) (one_cell z) (by unfold maxLen; omega) (by omega) (by simp; omega) ?_; intro v4 w4 hown' hgrow4 hnil4))
        go_roundw
        case rel => exact ⟨j + 1, zs ++ [z], by omega, by rw [List.length_append, HD.out]; rfl, by go_num, Res.push (by rw [HD.out]; exact hown'), (hr3.alloc _).own hgrow4 (HO.out.alloc (.cells #[.int .i64 z] 3)) (by omega), hgrow4.cell (cell_in ((Past.refl w3).alloc (.cells #[.int .i64 z] 3)) HB.out) (own_ne (g := w.heap.size) (HO.out.alloc (.cells #[.int .i64 z] 3)) (by omega)), grown_next (grown_trans hgV3 (World.grownBy_alloc w3 _ _)) hgrow4 (fun g e => by have := ((HO.out.alloc (.cells #[.int .i64 z] 3)).lt g e).1; omega)⟩
        case measure => simp [intOf]; omega
      · have hq' : (q == 0) = false := by simpa using hq
        clear hq
        unfold Res at hv2
        rw [hjz] at hv2
        have HD := Lib.hid hjz
        have HO := Lib.hid hv2
        have HB := Lib.hid b2
        clear hjz hv2 b2
        go_wp2_with (first | (at_builtin; refine wpList_append_own _ rfl _ _ 25 rfl (w.heap.size + 1) 3 i0 (.int .i64 0) 1 8 Try.underlying25 hi hz0 hz1 hz2 rfl (by decide) _ j _ rfl (HO.out.alloc _) ⟨w2.heap.size, 0, none⟩ 1 1 [.int .i64 a3] rfl rfl (cell_one_new _ _ _) (one_cell a3) (by unfold maxLen; omega) (by omega) (by simp; omega) ?_; intro v4 w4 hown' hgrow4 hnil4))
        go_roundw
        case rel => exact ⟨j + 1, zs ++ [a3], by omega, by rw [List.length_append, HD.out]; rfl, by go_num, Res.push (by rw [HD.out]; exact hown'), ((hr2.less (by omega)).alloc _).own hgrow4 (HO.out.alloc (.cells #[.int .i64 a3] 3)) (by omega), hgrow4.cell (cell_in ((Past.refl w2).alloc (.cells #[.int .i64 a3] 3)) HB.out) (own_ne (g := w.heap.size) (HO.out.alloc (.cells #[.int .i64 a3] 3)) (by omega)), grown_next (grown_trans hgV2 (World.grownBy_alloc w2 _ _)) hgrow4 (fun g e => by have := ((HO.out.alloc (.cells #[.int .i64 a3] 3)).lt g e).1; omega)⟩
        case measure => simp [intOf]; omega
    · obtain rfl : k = j := by omega
      go_wp2_with fail
      refine (pickF (f := f + 1) 14 (hrd.less (by omega))).mono ?_
      rintro e w2 ⟨q, rfl, _, _, hr2, hg2⟩
      have hv2 := hv.youngN hg2 (by omega)
      have gW := grown_trans hgV hg2
      have hs2 := hg2.size
      clear hv hrd hgV hg2 b1
      by_cases hq : q = 0
      · subst hq
        go_wp2_with fail
        refine (pickF (f := f) 3 hr2).mono ?_
        rintro e w3 ⟨z, rfl, _, _, hr3, hg3⟩
        have hv3 := hv2.youngN hg3 (by omega)
        have gW3 := grown_trans gW hg3
        have hs3 := hg3.size
        unfold Res at hv3
        rw [hjz] at hv3
        have HD := Lib.hid hjz
        have HO := Lib.hid hv3
        clear hjz hv2 hv3
        go_wp2_with (first | (at_builtin; refine wpList_append_own _ rfl _ _ 25 rfl (w.heap.size + 1) 3 i0 (.int .i64 0) 1 8 Try.underlying25 hi hz0 hz1 hz2 rfl (by decide) _ k _ rfl (HO.out.alloc _) ⟨w3.heap.size, 0, none⟩ 1 1 [.int .i64 z] rfl rfl (cell_one_new _ _ _) (one_cell z) (by unfold maxLen; omega) (by omega) (by simp; omega) ?_; intro v4 w4 hown' hgrow4 hnil4))
        go_ret
        exact ⟨_, zs ++ [z], rfl, by rw [List.length_append, HD.out]; simp; omega, Res.lower (Res.push (by rw [HD.out]; exact hown')) (by omega), (hr3.alloc _).own hgrow4 (HO.out.alloc (.cells #[.int .i64 z] 3)) (by omega), grown_next (grown_trans gW3 (World.grownBy_alloc w3 _ _)) hgrow4 (fun g e => by have := ((HO.out.alloc (.cells #[.int .i64 z] 3)).lt g e).1; omega)⟩
      · have hq' : (q == 0) = false := by simpa using hq
        clear hq
        go_wp2
        go_ret
        exact ⟨_, zs, rfl, by omega, hv2.lower (by omega), hr2.less (by omega), gW⟩

set_option maxRecDepth 100000 in
set_option maxHeartbeats 4000000 in
theorem drawCostNet_any (A : Option Addr) (n c : Nat) (w : World) (hn : n ≤ c) (hc : c ≤ maxLen) (hb : BytesAt w A n) :
    Calls Try.prog 38 #[.slice A n c] w (DrawCostsG w) := by
  have hpV : Past w (w.alloc (.cells #[.int .i64 0, .slice none 0 0] 29)) := (Past.refl w).alloc _
  go_enter Try.func38, Try.ntmps38
  go_wp2_with fail
  refine (open_any A n c _ hn hc (hb.below hpV)).mono ?_
  rintro e w1 ⟨R, n', c', rfl, hR, hrd, hb1⟩
  rw [World.size_alloc] at hR
  have hF : RdF w1 R _ A n' c' (60 + 83) := ⟨0, by omega, hrd⟩
  have r0 : RowN w1 w.heap.size 29 2 := by
    have r : RowN (w.alloc (.cells #[.int .i64 0, .slice none 0 0] 29)) w.heap.size 29 2 := ⟨_, heap_alloc_new w _, rfl⟩
    exact r.keep (hb1.block _ r.lt)
  have hp1 := hpV.trans hb1
  have hR1 := hF.at_
  clear hrd hb1 hpV
  go_wp2_with fail
  refine (l30AnyNet_any R _ A n' c' 60 w1 hF).mono ?_
  rintro e w2 ⟨m, B, k, cap, xs, rfl, hxk, hk, hxB, hoB, hr2, hg2⟩
  have hp2 : Past w w2 := Below.grown hp1 hg2 hp1.size (fun k e => by injection e with e; omega)
  have r2 := r0.young hg2 (by omega)
  have hBR : blk B ≠ some R := hoB.ne_blk hR1
  have hform := ownForm hoB
  have hneB : blk B ≠ some w.heap.size := hoB.ne_blk (by omega)
  have s12 := hg2.size
  obtain ⟨W, hW⟩ : ∃ W, W = w2.alloc (.cells #[.int .i64 m, .slice B k cap] 29) := ⟨_, rfl⟩
  have hpW : Past w2 W := by rw [hW]; exact (Past.refl w2).alloc _
  have b0 : W.cell? ⟨w2.heap.size, 0, none⟩ = some (.int .i64 m) := by rw [hW]; go_simp
  have b1 : W.cell? ⟨w2.heap.size, 1, none⟩ = some (.slice B k cap) := by rw [hW]; go_simp
  have hxW := hxB.below hpW
  have hrW := hr2.below hpW
  have r3 := r2.keep (hpW.block _ r2.lt)
  have hp3 := hp2.trans hpW
  have hs2 : w.heap.size < w2.heap.size := r2.lt
  have hsW := hpW.size
  go_upto_region 3 with (fail)
  rw [← hW]
  clear hW hoB hr2 hg2 hxB r0 hF
  have hNR : w2.heap.size ≠ R := by omega
  have hq0 : ∀ (u : World) (j : Nat) (x : Value), (u.setCell ⟨w.heap.size, j, none⟩ x).cell? ⟨w2.heap.size, 0, none⟩ = u.cell? ⟨w2.heap.size, 0, none⟩ := fun u j x => World.cell?_setCell_other _ _ _ _ (by intro e; injection e; omega)
  have hq1 : ∀ (u : World) (j : Nat) (x : Value), (u.setCell ⟨w.heap.size, j, none⟩ x).cell? ⟨w2.heap.size, 1, none⟩ = u.cell? ⟨w2.heap.size, 1, none⟩ := fun u j x => World.cell?_setCell_other _ _ _ _ (by intro e; injection e; omega)
  go_region_held3 (fun w' => w'.cell? ⟨w2.heap.size, 0, none⟩ = some (.int .i64 m) ∧ w'.cell? ⟨w2.heap.size, 1, none⟩ = some (.slice B k cap))
    (first | go_keep | (simp only [hq0, hq1]; assumption))
    (first
      | (go_at_call 78; refine (l30Costs_any R _ A B n' c' 0 k cap m xs _ (hrW.drew.less (by omega)) hxk hk hxW.drew hBR).mono ?_; rintro e w5 ⟨v5, zs, rfl, hzl, hv5, hr5, hg5⟩; obtain ⟨D, cd, rfl, hd5, ho5⟩ := hv5.form; have b0 := cell_far hg5 b0 hNR; have b1 := cell_far hg5 b1 hNR; have r5 : RowN w5 w.heap.size 29 2 := RowN.young (w := W.drew) r3 hg5 (by omega); obtain ⟨y0, e0⟩ := r5.cell (i := 0) (by omega); obtain ⟨y1, e1⟩ := r5.cell (i := 1) (by omega); have z0 := r5.frozen 0; have z1 := r5.frozen 1))
  have hp5 : Past w w5 := Below.grown hp3.drew hg5 hp3.size (fun k e => by injection e with e; omega)
  have hneD : blk D ≠ some w.heap.size := ho5.ne_blk (Nat.lt_of_lt_of_le hs2 hsW)
  have hx5 := ((hxW.drew.grown hg5 (fun b e => by injection e with e; rw [← e]; exact hBR)).far ⟨w.heap.size, 0, none⟩ (.int .i64 m) hneB).far ⟨w.heap.size, 1, none⟩ (.slice B k cap) hneB
  have hd6 := (hd5.farN ⟨w.heap.size, 0, none⟩ (.int .i64 m) hneD).farN ⟨w.heap.size, 1, none⟩ (.slice B k cap) hneD
  have hbel := Below.setCell (Below.setCell hp5 (p := ⟨w.heap.size, 0, none⟩) (by simp) (.int .i64 m)) (p := ⟨w.heap.size, 1, none⟩) (by simp) (.slice B k cap)
  obtain ⟨L, hL⟩ : ∃ L, L = zs.length := ⟨_, rfl⟩
  rw [← hL] at hzl ⊢
  have HL := Lib.hid hL.symm
  clear hg5 hr5 hv5 ho5 hL
  go_wp2
  exact bodyPost_ret (v := .tuple #[.agg #[.int .i64 m, .slice B k cap], .slice D L cd]) (by simp [results, Try.results38, go_sem, e0, e1]) rfl ⟨m, B, k, cap, xs, D, L, cd, zs, rfl, hxk, hk, hx5, hform, HL.out, hzl, hd6, hbel⟩

end Go.Proofs.Ytkmognandkamoaa
