/-
  FnManyServe answers true at every input: each node is served by the one of a list that reaches it cheapest. No condition.
-/
import Derived.Test.YtkmognandkamoaaDraw4
import Derived.Test.YtkmognandkamoaaResI
import Derived.Test.YtkmognandkamoaaOpenW
import Derived.Test.YtkmognandkamoaaDraw
import Derived.Test.YtkmognandkamoaaPMany
import Derived.Test.YtkmognandkamoaaPBack
import Derived.Test.YtkmognandkamoaaNTo
import Derived.Test.YtkmognandkamoaaNCosts
import Derived.Test.YtkmognandkamoaaPCost
import Derived.Test.YtkmognandkamoaaMNear
import Derived.Deep.RegionWith
import Derived.Test.YtkmognandkamoaaBack4
import Derived.Test.YtkmognandkamoaaIn
namespace Go.Proofs.Ytkmognandkamoaa
open Go.RowKit

theorem two_at (w : World) (x y : Int) : IntsAt (w.alloc (.cells #[.int .i64 x, .int .i64 y] 3)) (some ⟨w.heap.size, 0, none⟩) [x, y] := fun j a hj => by
  refine ⟨w.heap.size, 0, rfl, ?_⟩
  match j with
  | 0 => simp at hj; subst hj; go_simp
  | 1 => simp at hj; subst hj; go_simp
  | j + 2 => simp at hj

/-- A number was drawn. -/
def NumG (w : World) (R lo : Nat) (A : Option Addr) (n c f : Nat) (e : Ending) (w' : World) : Prop :=
  ∃ z : Int, e = .returned (.int .i64 z) ∧ RdF w' R lo A n c f ∧ w.grownBy w' (some R)

set_option maxRecDepth 100000 in
set_option maxHeartbeats 2000000 in
theorem l30Node_any (R lo : Nat) (A B : Option Addr) (n c f k cap : Nat) (m : Int) (w : World) (h : RdF w R lo A n c (f + 2)) :
    Calls Try.prog 81 #[.pointer (some ⟨R, 0, none⟩), .agg #[.int .i64 m, .slice B k cap]] w (NumG w R lo A n c f) := by
  have hRw := h.at_
  have hpV : Past w (w.alloc (.cells #[.int .i64 m, .slice B k cap] 29)) := (Past.refl w).alloc _
  have b0 : (w.alloc (.cells #[.int .i64 m, .slice B k cap] 29)).cell? ⟨w.heap.size, 0, none⟩ = some (.int .i64 m) := by go_simp
  have hne : w.heap.size ≠ R := by omega
  have h' : RdF (w.alloc (.cells #[.int .i64 m, .slice B k cap] 29)) R lo A n c (f + 1 + 1) := h.below hpV
  have gV : w.grownBy (w.alloc (.cells #[.int .i64 m, .slice B k cap] 29)) (some R) := World.grownBy_alloc w _ _
  go_enter Try.func81, Try.ntmps81
  go_wp2_with fail
  refine (pickF (f := f + 1) 16 h').mono ?_
  rintro e w1 ⟨q, rfl, hq0, hq1, hr1, hg1⟩
  have b0 := cell_far hg1 b0 hne
  have gW := grown_trans gV hg1
  have hs1 := gW.size
  have hR1 := hr1.at_
  clear h h' hpV hg1 gV
  by_cases hq : q = 0
  · subst hq
    have hpa : Past w1 (w1.alloc (.cells #[.int .i64 (-1), .int .i64 m] 3)) := (Past.refl w1).alloc _
    have hz := two_at w1 (-1) m
    have hne2 : w1.heap.size ≠ R := by omega
    have gA := grown_trans gW (World.grownBy_alloc w1 (.cells #[.int .i64 (-1), .int .i64 m] 3) (some R))
    have hrA := hr1.below hpa
    clear gW hpa hr1
    go_wp2_with fail
    refine (oneF (l := 2) [-1, m] hrA rfl (by omega) (by omega) hz hne2).mono ?_
    rintro e w2 ⟨z, rfl, _, hr2, hg2⟩
    go_wp2
    go_ret
    exact ⟨z, rfl, hr2, grown_trans gA hg2⟩
  · go_wp2_with fail
    refine (pickF (f := f) m hr1).mono ?_
    rintro e w2 ⟨z, rfl, _, _, hr2, hg2⟩
    go_wp2
    go_ret
    exact ⟨z, rfl, hr2, grown_trans gW hg2⟩

theorem ownForm {w : World} {lo t size n : Nat} {A : Option Addr} (h : OwnAt w lo A t size n) : (A = none ∧ n = 0) ∨ ∃ g o, A = some ⟨g, o, none⟩ := by
  rcases h with h | ⟨g, _, rfl, _⟩
  · exact .inl h
  · exact .inr ⟨g, 0, rfl⟩
/-- A net and a number were drawn. -/
def DrawNodeG (w : World) (e : Ending) (w' : World) : Prop :=
  ∃ (m : Int) (B : Option Addr) (k cap : Nat) (xs : List ArcD) (z : Int), e = .returned (.tuple #[.agg #[.int .i64 m, .slice B k cap], .int .i64 z]) ∧ xs.length = k ∧ k ≤ 13 ∧ ArcsAt w' B xs ∧ ((∀ g, g < w.heap.size → blk B ≠ some g) ∧ ((B = none ∧ k = 0) ∨ ∃ g o, B = some ⟨g, o, none⟩)) ∧ Below w.heap.size w w'

set_option maxRecDepth 100000 in
set_option maxHeartbeats 4000000 in
theorem drawNetOut_any (A : Option Addr) (n c : Nat) (w : World) (hn : n ≤ c) (hc : c ≤ maxLen) (hb : BytesAt w A n) :
    Calls Try.prog 85 #[.slice A n c] w (DrawNodeG w) := by
  have hpV : Past w (w.alloc (.cells #[.int .i64 0, .slice none 0 0] 29)) := (Past.refl w).alloc _
  go_enter Try.func85, Try.ntmps85
  go_wp2_with fail
  refine (open_any A n c _ hn hc (hb.below hpV)).mono ?_
  rintro e w1 ⟨R, n', c', rfl, hR, hrd, hb1⟩
  rw [World.size_alloc] at hR
  have hF : RdF w1 R _ A n' c' (26 + 83) := ⟨0, by omega, hrd⟩
  have r0 : RowN w1 w.heap.size 29 2 := by
    have r : RowN (w.alloc (.cells #[.int .i64 0, .slice none 0 0] 29)) w.heap.size 29 2 := ⟨_, heap_alloc_new w _, rfl⟩
    exact r.keep (hb1.block _ r.lt)
  have hp1 := hpV.trans hb1
  have hR1 := hF.at_
  clear hrd hb1 hpV
  go_wp2_with fail
  refine (l30AnyNet_any R _ A n' c' 26 w1 hF).mono ?_
  rintro e w2 ⟨m, B, k, cap, xs, rfl, hxk, hk, hxB, hoB, hr2, hg2⟩
  have hp2 : Past w w2 := Below.grown hp1 hg2 hp1.size (fun k e => by injection e with e; omega)
  have r2 := r0.young hg2 (by omega)
  have hBR : blk B ≠ some R := hoB.ne_blk hR1
  have hform := ownForm hoB
  have hfar : ∀ g, g < w.heap.size → blk B ≠ some g := fun g hg => hoB.ne_blk (Nat.lt_of_lt_of_le hg hp1.size)
  have hneB : blk B ≠ some w.heap.size := hoB.ne_blk (by omega)
  have s12 := hg2.size
  obtain ⟨W, hW⟩ : ∃ W, W = w2.alloc (.cells #[.int .i64 m, .slice B k cap] 29) := ⟨_, rfl⟩
  have hpW : Past w2 W := by rw [hW]; exact (Past.refl w2).alloc _
  have b0 : W.cell? ⟨w2.heap.size, 0, none⟩ = some (.int .i64 m) := by rw [hW]; go_simp
  have b1 : W.cell? ⟨w2.heap.size, 1, none⟩ = some (.slice B k cap) := by rw [hW]; go_simp
  have hxW := hxB.below hpW
  have hrW := hr2.below hpW
  have r3 := r2.keep (hpW.block _ r2.lt)
  have hp3 := hp2.trans hpW
  have hs2 : w.heap.size < w2.heap.size := r2.lt
  go_upto_region 3 with (fail)
  rw [← hW]
  clear hW hoB hr2 hg2 hxB r0 hF
  have hNR : w2.heap.size ≠ R := by omega
  have hq0 : ∀ (u : World) (j : Nat) (x : Value), (u.setCell ⟨w.heap.size, j, none⟩ x).cell? ⟨w2.heap.size, 0, none⟩ = u.cell? ⟨w2.heap.size, 0, none⟩ := fun u j x => World.cell?_setCell_other _ _ _ _ (by intro e; injection e; omega)
  have hq1 : ∀ (u : World) (j : Nat) (x : Value), (u.setCell ⟨w.heap.size, j, none⟩ x).cell? ⟨w2.heap.size, 1, none⟩ = u.cell? ⟨w2.heap.size, 1, none⟩ := fun u j x => World.cell?_setCell_other _ _ _ _ (by intro e; injection e; omega)
  go_region_held3 (fun w' => w'.cell? ⟨w2.heap.size, 0, none⟩ = some (.int .i64 m) ∧ w'.cell? ⟨w2.heap.size, 1, none⟩ = some (.slice B k cap))
    (first | go_keep | (simp only [hq0, hq1]; assumption))
    (first
      | (go_at_call 81; refine (l30Node_any R _ A B n' c' 24 k cap m _ hrW.drew).mono ?_; rintro e w5 ⟨z, rfl, hr5, hg5⟩; have b0 := cell_far hg5 b0 hNR; have b1 := cell_far hg5 b1 hNR; have r5 : RowN w5 w.heap.size 29 2 := RowN.young (w := W.drew) r3 hg5 (by omega); obtain ⟨y0, e0⟩ := r5.cell (i := 0) (by omega); obtain ⟨y1, e1⟩ := r5.cell (i := 1) (by omega); have z0 := r5.frozen 0; have z1 := r5.frozen 1))
  have hp5 : Past w w5 := Below.grown hp3.drew hg5 hp3.size (fun k e => by injection e with e; omega)
  have hx5 := ((hxW.drew.grown hg5 (fun b e => by injection e with e; rw [← e]; exact hBR)).far ⟨w.heap.size, 0, none⟩ (.int .i64 m) hneB).far ⟨w.heap.size, 1, none⟩ (.slice B k cap) hneB
  have hbel := Below.setCell (Below.setCell hp5 (p := ⟨w.heap.size, 0, none⟩) (by simp) (.int .i64 m)) (p := ⟨w.heap.size, 1, none⟩) (by simp) (.slice B k cap)
  clear hg5 hr5
  go_wp2
  exact bodyPost_ret (v := .tuple #[.agg #[.int .i64 m, .slice B k cap], .int .i64 z]) (by simp [results, Try.results85, go_sem, e0, e1]) rfl ⟨m, B, k, cap, xs, z, rfl, hxk, hk, hx5, ⟨hfar, hform⟩, hbel⟩

end Go.Proofs.Ytkmognandkamoaa

namespace Go.Proofs.Ytkmognandkamoaa
open Go.RowKit

theorem Res.youngN {w w' : World} {lo g : Nat} {v : Value} {zs : List Int} (h : Res w lo v zs) (hg : w.grownBy w' (some g)) (hl : g < lo) : Res w' lo v zs :=
  World.ownsRow.kept h hg (.inr fun e => own_ne h hl e.symm)

/-- Numbers were drawn into new memory. -/
def NodesG (w : World) (R lo : Nat) (A : Option Addr) (n c f : Nat) (e : Ending) (w' : World) : Prop :=
  ∃ v zs, e = .returned v ∧ zs.length ≤ 5 ∧ Res w' w.heap.size v zs ∧ RdF w' R lo A n c f ∧ w.grownBy w' (some R)

set_option maxRecDepth 100000 in
set_option maxHeartbeats 2000000 in
theorem l30Nodes_any (R lo : Nat) (A B : Option Addr) (n c f k cap : Nat) (m mo : Int) (w : World) (h : RdF w R lo A n c (f + 8)) (hm0 : 0 ≤ mo) (hm1 : mo ≤ 4) :
    Calls Try.prog 82 #[.pointer (some ⟨R, 0, none⟩), .agg #[.int .i64 m, .slice B k cap], .int .i64 mo] w (NodesG w R lo A n c f) := by
  have hRw := h.at_
  obtain ⟨i0, hi, hz0, hz1, hz2⟩ := info_parts infoInt
  obtain ⟨V, hV⟩ : ∃ V, V = (w.alloc (.cells #[.int .i64 m, .slice B k cap] 29)).alloc (.cells #[] 3) := ⟨_, rfl⟩
  have hpV : Past w V := by rw [hV]; exact ((Past.refl w).alloc _).alloc _
  have v0 : V.cell? ⟨w.heap.size, 0, none⟩ = some (.int .i64 m) := by rw [hV]; go_simp
  have hsV : V.heap.size = w.heap.size + 1 + 1 := by rw [hV]; simp
  have hres0 : Res V (w.heap.size + 1) (.slice (some ⟨w.heap.size + 1, 0, none⟩) 0 0) [] := by
    refine ⟨rfl, .inr ⟨w.heap.size + 1, 0, #[], rfl, Nat.le_refl _, ?_, Nat.le_refl _, by unfold maxLen; omega, rfl, rfl⟩⟩
    rw [hV]
    have := heap_alloc_new (w.alloc (.cells #[.int .i64 m, .slice B k cap] 29)) (.cells #[] 3)
    simpa using this
  have hrV := h.below hpV
  have HV := Lib.hid hV
  have hne : w.heap.size ≠ R := by omega
  have hw1 : IntKind.i64.wrap (mo + 1) = mo + 1 := IntWalk.i64_in _ (by omega)
  clear hV
  go_enter Try.func82, Try.ntmps82
  go_wp2_with fail
  rw [← HV.out]
  clear HV
  refine (pickF (f := f + 7) _ hrV).mono ?_
  rintro e w1 ⟨k1, rfl, k10, k11, hr1, hg1⟩
  obtain ⟨j1, rfl⟩ : ∃ j : Nat, k1 = j := ⟨k1.toNat, by omega⟩
  have hj1 : j1 ≤ 4 := by omega
  have hres1 := hres0.youngN hg1 (by omega)
  have b0 := cell_far hg1 v0 hne
  have gw1 := grown_trans (grown_of_below hpV (some R)) hg1
  clear hres0 k10 k11
  go_wp2
  go_loopw [7, 8] (fun v q wr => ∃ (j : Nat) (zs : List Int), j + zs.length ≤ 4 ∧ q = .int .i64 j ∧ Res wr (w.heap.size + 1) v zs ∧ RdF wr R lo A n c (f + 2 + j) ∧ wr.cell? ⟨w.heap.size, 0, none⟩ = some (.int .i64 m) ∧ w.grownBy wr (some R)) (fun _ q _ => (intOf q).toNat)
  case atStart => exact ⟨j1, [], by simp; omega, rfl, hres1, hr1.less (by omega), b0, gw1⟩
  case round =>
    clear hres1 b0 hr1 hg1 hrV h
    obtain ⟨j, zs, hjz, rfl, hv, hrd, b0, hgV⟩ := hrel
    have hwr : w.heap.size < wr.heap.size := lt_of_cell b0
    by_cases hj : 0 < j
    · obtain ⟨j', rfl⟩ : ∃ j', j = j' + 1 := ⟨j - 1, by omega⟩
      go_wp2_with fail
      refine (pickF (f := f + 2 + j') _ hrd).mono ?_
      rintro e w3 ⟨z, rfl, _, _, hr3, hg3⟩
      have hv3 := hv.youngN hg3 (by omega)
      have hgV3 := grown_trans hgV hg3
      have b03 := cell_far hg3 b0 hne
      have hs3 := hg3.size
      obtain ⟨D, hD⟩ : ∃ D, D = zs.length := ⟨_, rfl⟩
      unfold Res at hv3
      rw [← hD] at hv3 hjz
      have HD := Lib.hid hD
      have HO := Lib.hid hv3
      have HB := Lib.hid b03
      clear hD hv hv3 b0 b03
      go_wp2_with (first | (at_builtin; refine wpList_append_own _ rfl _ _ 25 rfl (w.heap.size + 1) 3 i0 (.int .i64 0) 1 8 Try.underlying25 hi hz0 hz1 hz2 rfl (by decide) _ D _ rfl (HO.out.alloc _) ⟨w3.heap.size, 0, none⟩ 1 1 [.int .i64 z] rfl rfl (cell_one_new _ _ _) (one_cell z) (by unfold maxLen; omega) (by omega) (by simp; omega) ?_; intro v4 w4 hown' hgrow4 hnil4))
      go_roundw
      case rel => exact ⟨j', zs ++ [z], by rw [List.length_append, ← HD.out]; simp; omega, by go_num, Res.push (by rw [← HD.out]; exact hown'), (hr3.alloc _).own hgrow4 (HO.out.alloc (.cells #[.int .i64 z] 3)) (by omega), hgrow4.cell (cell_in ((Past.refl w3).alloc (.cells #[.int .i64 z] 3)) HB.out) (own_ne (g := w.heap.size) (HO.out.alloc (.cells #[.int .i64 z] 3)) (by omega)), grown_next (grown_trans hgV3 (World.grownBy_alloc w3 _ _)) hgrow4 (fun g e => by have := ((HO.out.alloc (.cells #[.int .i64 z] 3)).lt g e).1; omega)⟩
      case measure => simp [intOf]
    · obtain rfl : j = 0 := by omega
      go_wp2_with fail
      refine (pickF (f := f + 1) 14 hrd).mono ?_
      rintro e w2 ⟨q, rfl, _, _, hr2, hg2⟩
      have b0 := cell_far hg2 b0 hne
      have hv2 := hv.youngN hg2 (by omega)
      have hgV2 := grown_trans hgV hg2
      have gW := hgV2
      have hs2 : w.heap.size < w2.heap.size := lt_of_cell b0
      clear hv hrd hgV hg2
      by_cases hq : q = 0
      · subst hq
        have hR2 := hr2.at_
        go_wp2_with fail
        refine (oneF (f := f) (l := 2) [-1, m] (hr2.alloc _) rfl (by omega) (by omega) (two_at w2 (-1) m) (by omega)).mono ?_
        rintro e w3 ⟨z, rfl, _, hr3, hg3⟩
        have hv3 := (hv2.below ((Past.refl w2).alloc (.cells #[.int .i64 (-1), .int .i64 m] 3))).youngN hg3 (by omega)
        have gW3 := grown_trans (grown_trans gW (World.grownBy_alloc w2 (.cells #[.int .i64 (-1), .int .i64 m] 3) (some R))) hg3
        have hs3 := hg3.size
        rw [World.size_alloc] at hs3
        obtain ⟨D, hD⟩ : ∃ D, D = zs.length := ⟨_, rfl⟩
        unfold Res at hv3
        rw [← hD] at hv3 hjz
        have HD := Lib.hid hD
        have HO := Lib.hid hv3
        clear hD hv2 hv3 b0
        go_wp2_with (first | (at_builtin; refine wpList_append_own _ rfl _ _ 25 rfl (w.heap.size + 1) 3 i0 (.int .i64 0) 1 8 Try.underlying25 hi hz0 hz1 hz2 rfl (by decide) _ D _ rfl (HO.out.alloc _) ⟨w3.heap.size, 0, none⟩ 1 1 [.int .i64 z] rfl rfl (cell_one_new _ _ _) (one_cell z) (by unfold maxLen; omega) (by omega) (by simp; omega) ?_; intro v4 w4 hown' hgrow4 hnil4))
        go_ret
        exact ⟨_, zs ++ [z], rfl, by rw [List.length_append, ← HD.out]; simp; omega, Res.lower (Res.push (by rw [← HD.out]; exact hown')) (by omega), (hr3.alloc _).own hgrow4 (HO.out.alloc (.cells #[.int .i64 z] 3)) (by omega), grown_next (grown_trans gW3 (World.grownBy_alloc w3 _ _)) hgrow4 (fun g e => by have := ((HO.out.alloc (.cells #[.int .i64 z] 3)).lt g e).1; omega)⟩
      · have hq' : (q == 0) = false := by simpa using hq
        clear hq
        go_wp2
        go_ret
        exact ⟨_, zs, rfl, by omega, hv2.lower (by omega), hr2.less (by omega), gW⟩

end Go.Proofs.Ytkmognandkamoaa

namespace Go.Proofs.Ytkmognandkamoaa
open Go.RowKit

theorem IntsAt.farN {w : World} {A : Option Addr} {zs : List Int} (h : IntsAt w A zs) (p : Addr) (u : Value) (hne : blk A ≠ some p.block) : IntsAt (w.setCell p u) A zs := fun k a hk => by
  obtain ⟨g, o, rfl, h5⟩ := h k a hk
  exact ⟨g, o, rfl, (World.cell?_setCell_other _ _ _ _ (by intro e; apply hne; rw [e]; rfl)).trans h5⟩

/-- A net and numbers were drawn. -/
def DrawListG (w : World) (e : Ending) (w' : World) : Prop :=
  ∃ (m : Int) (B : Option Addr) (k cap : Nat) (xs : List ArcD) (D : Option Addr) (l cd : Nat) (zs : List Int), e = .returned (.tuple #[.agg #[.int .i64 m, .slice B k cap], .slice D l cd]) ∧ xs.length = k ∧ k ≤ 13 ∧ ArcsAt w' B xs ∧ ((B = none ∧ k = 0) ∨ ∃ g o, B = some ⟨g, o, none⟩) ∧ zs.length = l ∧ l ≤ 5 ∧ IntsAt w' D zs ∧ Below w.heap.size w w'

set_option maxRecDepth 100000 in
set_option maxHeartbeats 4000000 in
theorem drawManyServe_any (A : Option Addr) (n c : Nat) (w : World) (hn : n ≤ c) (hc : c ≤ maxLen) (hb : BytesAt w A n) :
    Calls Try.prog 45 #[.slice A n c] w (DrawListG w) := by
  have hpV : Past w (w.alloc (.cells #[.int .i64 0, .slice none 0 0] 29)) := (Past.refl w).alloc _
  go_enter Try.func45, Try.ntmps45
  go_wp2_with fail
  refine (open_any A n c _ hn hc (hb.below hpV)).mono ?_
  rintro e w1 ⟨R, n', c', rfl, hR, hrd, hb1⟩
  rw [World.size_alloc] at hR
  have hF : RdF w1 R _ A n' c' (26 + 83) := ⟨0, by omega, hrd⟩
  have r0 : RowN w1 w.heap.size 29 2 := by
    have r : RowN (w.alloc (.cells #[.int .i64 0, .slice none 0 0] 29)) w.heap.size 29 2 := ⟨_, heap_alloc_new w _, rfl⟩
    exact r.keep (hb1.block _ r.lt)
  have hp1 := hpV.trans hb1
  have hR1 := hF.at_
  clear hrd hb1 hpV
  go_wp2_with fail
  refine (l30AnyNet_any R _ A n' c' 26 w1 hF).mono ?_
  rintro e w2 ⟨m, B, k, cap, xs, rfl, hxk, hk, hxB, hoB, hr2, hg2⟩
  have hp2 : Past w w2 := Below.grown hp1 hg2 hp1.size (fun k e => by injection e with e; omega)
  have r2 := r0.young hg2 (by omega)
  have hBR : blk B ≠ some R := hoB.ne_blk hR1
  have hform := ownForm hoB
  have hneB : blk B ≠ some w.heap.size := hoB.ne_blk (by omega)
  have s12 := hg2.size
  obtain ⟨W, hW⟩ : ∃ W, W = w2.alloc (.cells #[.int .i64 m, .slice B k cap] 29) := ⟨_, rfl⟩
  have hpW : Past w2 W := by rw [hW]; exact (Past.refl w2).alloc _
  have b0 : W.cell? ⟨w2.heap.size, 0, none⟩ = some (.int .i64 m) := by rw [hW]; go_simp
  have b1 : W.cell? ⟨w2.heap.size, 1, none⟩ = some (.slice B k cap) := by rw [hW]; go_simp
  have hxW := hxB.below hpW
  have hrW := hr2.below hpW
  have r3 := r2.keep (hpW.block _ r2.lt)
  have hp3 := hp2.trans hpW
  have hs2 : w.heap.size < w2.heap.size := r2.lt
  have hsW := hpW.size
  go_upto_region 3 with (fail)
  rw [← hW]
  clear hW hoB hr2 hg2 hxB r0 hF
  have hNR : w2.heap.size ≠ R := by omega
  have hq0 : ∀ (u : World) (j : Nat) (x : Value), (u.setCell ⟨w.heap.size, j, none⟩ x).cell? ⟨w2.heap.size, 0, none⟩ = u.cell? ⟨w2.heap.size, 0, none⟩ := fun u j x => World.cell?_setCell_other _ _ _ _ (by intro e; injection e; omega)
  have hq1 : ∀ (u : World) (j : Nat) (x : Value), (u.setCell ⟨w.heap.size, j, none⟩ x).cell? ⟨w2.heap.size, 1, none⟩ = u.cell? ⟨w2.heap.size, 1, none⟩ := fun u j x => World.cell?_setCell_other _ _ _ _ (by intro e; injection e; omega)
  go_region_held3 (fun w' => w'.cell? ⟨w2.heap.size, 0, none⟩ = some (.int .i64 m) ∧ w'.cell? ⟨w2.heap.size, 1, none⟩ = some (.slice B k cap))
    (first | go_keep | (simp only [hq0, hq1]; assumption))
    (first
      | (go_at_call 82; refine (l30Nodes_any R _ A B n' c' 18 k cap m 4 _ hrW.drew (by omega) (by omega)).mono ?_; rintro e w5 ⟨v5, zs, rfl, hzl, hv5, hr5, hg5⟩; obtain ⟨D, cd, rfl, hd5, ho5⟩ := hv5.form; have b0 := cell_far hg5 b0 hNR; have b1 := cell_far hg5 b1 hNR; have r5 : RowN w5 w.heap.size 29 2 := RowN.young (w := W.drew) r3 hg5 (by omega); obtain ⟨y0, e0⟩ := r5.cell (i := 0) (by omega); obtain ⟨y1, e1⟩ := r5.cell (i := 1) (by omega); have z0 := r5.frozen 0; have z1 := r5.frozen 1))
  have hp5 : Past w w5 := Below.grown hp3.drew hg5 hp3.size (fun k e => by injection e with e; omega)
  have hneD : blk D ≠ some w.heap.size := ho5.ne_blk (Nat.lt_of_lt_of_le hs2 hsW)
  have hx5 := ((hxW.drew.grown hg5 (fun b e => by injection e with e; rw [← e]; exact hBR)).far ⟨w.heap.size, 0, none⟩ (.int .i64 m) hneB).far ⟨w.heap.size, 1, none⟩ (.slice B k cap) hneB
  have hd6 := (hd5.farN ⟨w.heap.size, 0, none⟩ (.int .i64 m) hneD).farN ⟨w.heap.size, 1, none⟩ (.slice B k cap) hneD
  have hbel := Below.setCell (Below.setCell hp5 (p := ⟨w.heap.size, 0, none⟩) (by simp) (.int .i64 m)) (p := ⟨w.heap.size, 1, none⟩) (by simp) (.slice B k cap)
  obtain ⟨L, hL⟩ : ∃ L, L = zs.length := ⟨_, rfl⟩
  rw [← hL] at hzl ⊢
  have HL := Lib.hid hL.symm
  clear hg5 hr5 hv5 ho5 hL
  go_wp2
  exact bodyPost_ret (v := .tuple #[.agg #[.int .i64 m, .slice B k cap], .slice D L cd]) (by simp [results, Try.results45, go_sem, e0, e1]) rfl ⟨m, B, k, cap, xs, D, L, cd, zs, rfl, hxk, hk, hx5, hform, HL.out, hzl, hd6, hbel⟩

/-- A net, a number and numbers were drawn. -/
def DrawNumListG (w : World) (e : Ending) (w' : World) : Prop :=
  ∃ (m : Int) (B : Option Addr) (k cap : Nat) (xs : List ArcD) (s : Int) (D : Option Addr) (l cd : Nat) (zs : List Int), e = .returned (.tuple #[.agg #[.int .i64 m, .slice B k cap], .int .i64 s, .slice D l cd]) ∧ xs.length = k ∧ k ≤ 13 ∧ ArcsAt w' B xs ∧ ((B = none ∧ k = 0) ∨ ∃ g o, B = some ⟨g, o, none⟩) ∧ zs.length = l ∧ l ≤ 5 ∧ IntsAt w' D zs ∧ Below w.heap.size w w'

set_option maxRecDepth 100000 in
set_option maxHeartbeats 4000000 in
theorem drawManyNear_any (A : Option Addr) (n c : Nat) (w : World) (hn : n ≤ c) (hc : c ≤ maxLen) (hb : BytesAt w A n) :
    Calls Try.prog 43 #[.slice A n c] w (DrawNumListG w) := by
  have hpV : Past w (w.alloc (.cells #[.int .i64 0, .slice none 0 0] 29)) := (Past.refl w).alloc _
  go_enter Try.func43, Try.ntmps43
  go_wp2_with fail
  refine (open_any A n c _ hn hc (hb.below hpV)).mono ?_
  rintro e w1 ⟨R, n', c', rfl, hR, hrd, hb1⟩
  rw [World.size_alloc] at hR
  have hF : RdF w1 R _ A n' c' (26 + 83) := ⟨0, by omega, hrd⟩
  have r0 : RowN w1 w.heap.size 29 2 := by
    have r : RowN (w.alloc (.cells #[.int .i64 0, .slice none 0 0] 29)) w.heap.size 29 2 := ⟨_, heap_alloc_new w _, rfl⟩
    exact r.keep (hb1.block _ r.lt)
  have hp1 := hpV.trans hb1
  have hR1 := hF.at_
  clear hrd hb1 hpV
  go_wp2_with fail
  refine (l30AnyNet_any R _ A n' c' 26 w1 hF).mono ?_
  rintro e w2 ⟨m, B, k, cap, xs, rfl, hxk, hk, hxB, hoB, hr2, hg2⟩
  have hp2 : Past w w2 := Below.grown hp1 hg2 hp1.size (fun k e => by injection e with e; omega)
  have r2 := r0.young hg2 (by omega)
  have hBR : blk B ≠ some R := hoB.ne_blk hR1
  have hform := ownForm hoB
  have hneB : blk B ≠ some w.heap.size := hoB.ne_blk (by omega)
  have s12 := hg2.size
  obtain ⟨W, hW⟩ : ∃ W, W = w2.alloc (.cells #[.int .i64 m, .slice B k cap] 29) := ⟨_, rfl⟩
  have hpW : Past w2 W := by rw [hW]; exact (Past.refl w2).alloc _
  have b0 : W.cell? ⟨w2.heap.size, 0, none⟩ = some (.int .i64 m) := by rw [hW]; go_simp
  have b1 : W.cell? ⟨w2.heap.size, 1, none⟩ = some (.slice B k cap) := by rw [hW]; go_simp
  have hxW := hxB.below hpW
  have hrW := hr2.below hpW
  have r3 := r2.keep (hpW.block _ r2.lt)
  have hp3 := hp2.trans hpW
  have hs2 : w.heap.size < w2.heap.size := r2.lt
  have hsW := hpW.size
  have HW := Lib.hid hW
  clear hW hoB hr2 hg2 hxB r0 hF
  have hNR : w2.heap.size ≠ R := by omega
  go_wp2_with fail
  rw [← HW.out]
  clear HW
  refine (l30Node_any R _ A B n' c' 24 k cap m _ hrW).mono ?_
  rintro e w4 ⟨s, rfl, hr4, hg4⟩
  have b0 := cell_far hg4 b0 hNR
  have b1 := cell_far hg4 b1 hNR
  have hx4 := hxW.grown hg4 (fun b e => by injection e with e; rw [← e]; exact hBR)
  have r4 := r3.young hg4 (by omega)
  have hp4 : Past w w4 := Below.grown hp3 hg4 hp3.size (fun k e => by injection e with e; omega)
  have hs4 := hg4.size
  clear hg4 hrW hxW r3
  go_upto_region 4 with (fail)
  have hq0 : ∀ (u : World) (j : Nat) (x : Value), (u.setCell ⟨w.heap.size, j, none⟩ x).cell? ⟨w2.heap.size, 0, none⟩ = u.cell? ⟨w2.heap.size, 0, none⟩ := fun u j x => World.cell?_setCell_other _ _ _ _ (by intro e; injection e; omega)
  have hq1 : ∀ (u : World) (j : Nat) (x : Value), (u.setCell ⟨w.heap.size, j, none⟩ x).cell? ⟨w2.heap.size, 1, none⟩ = u.cell? ⟨w2.heap.size, 1, none⟩ := fun u j x => World.cell?_setCell_other _ _ _ _ (by intro e; injection e; omega)
  go_region_held3 (fun w' => w'.cell? ⟨w2.heap.size, 0, none⟩ = some (.int .i64 m) ∧ w'.cell? ⟨w2.heap.size, 1, none⟩ = some (.slice B k cap))
    (first | go_keep | (simp only [hq0, hq1]; assumption))
    (first
      | (go_at_call 82; refine (l30Nodes_any R _ A B n' c' 16 k cap m 4 _ hr4.drew (by omega) (by omega)).mono ?_; rintro e w5 ⟨v5, zs, rfl, hzl, hv5, hr5, hg5⟩; obtain ⟨D, cd, rfl, hd5, ho5⟩ := hv5.form; have b0 := cell_far hg5 b0 hNR; have b1 := cell_far hg5 b1 hNR; have r5 : RowN w5 w.heap.size 29 2 := RowN.young (w := w4.drew) r4 hg5 (by omega); obtain ⟨y0, e0⟩ := r5.cell (i := 0) (by omega); obtain ⟨y1, e1⟩ := r5.cell (i := 1) (by omega); have z0 := r5.frozen 0; have z1 := r5.frozen 1))
  have hp5 : Past w w5 := Below.grown hp4.drew hg5 hp4.size (fun k e => by injection e with e; omega)
  have hneD : blk D ≠ some w.heap.size := ho5.ne_blk (show w.heap.size < w4.drew.heap.size from Nat.lt_of_lt_of_le hs2 (Nat.le_trans hsW hs4))
  have hx5 := ((hx4.drew.grown hg5 (fun b e => by injection e with e; rw [← e]; exact hBR)).far ⟨w.heap.size, 0, none⟩ (.int .i64 m) hneB).far ⟨w.heap.size, 1, none⟩ (.slice B k cap) hneB
  have hd6 := (hd5.farN ⟨w.heap.size, 0, none⟩ (.int .i64 m) hneD).farN ⟨w.heap.size, 1, none⟩ (.slice B k cap) hneD
  have hbel := Below.setCell (Below.setCell hp5 (p := ⟨w.heap.size, 0, none⟩) (by simp) (.int .i64 m)) (p := ⟨w.heap.size, 1, none⟩) (by simp) (.slice B k cap)
  obtain ⟨L, hL⟩ : ∃ L, L = zs.length := ⟨_, rfl⟩
  rw [← hL] at hzl ⊢
  have HL := Lib.hid hL.symm
  clear hg5 hr5 hv5 ho5 hL
  go_wp2
  exact bodyPost_ret (v := .tuple #[.agg #[.int .i64 m, .slice B k cap], .int .i64 s, .slice D L cd]) (by simp [results, Try.results43, go_sem, e0, e1]) rfl ⟨m, B, k, cap, xs, s, D, L, cd, zs, rfl, hxk, hk, hx5, hform, HL.out, hzl, hd6, hbel⟩

end Go.Proofs.Ytkmognandkamoaa

namespace Go.Proofs.Ytkmognandkamoaa
open Go.ChangeShapes Go.WideShapes Go.ChangeAt Go.RowKit Go.Deep Go.Joins

set_option maxRecDepth 100000 in
theorem open_bytes {H : Type} {enc : TypeId × Value → H} {W : World} {r : Reach} {b0 : Nat} {v : Value} {d : DataW H} {p : List MemPlace} (hv : Value.okWide Try.prog W r b0 48 v)
    (h : DataW.Trod enc Try.prog W 0 (fun _ => true) true 48 v d p) : ∃ (A : Option Addr) (n c : Nat), v = .slice A n c ∧ n ≤ c ∧ c ≤ maxLen ∧ BytesAt W A n := by
  obtain ⟨a0, len, cap, rfl⟩ := okWide_slice Try.underlying48 hv
  obtain ⟨fuel, hf⟩ := h
  rcases open_ints Try.underlying48 Try.underlying5 (by kernel_rfl) (show DataW.trod enc Try.prog W 0 (fun _ => true) true fuel 48 [.slice a0 len cap] = some _ by simpa [Value.cells] using hf) with ⟨hcs, _⟩ | ⟨a, len', cap', zs, hcs, _, hl, hm, hz, _, hcell, hwf⟩
  · injection hcs with hcs
    injection hcs with e1 e2 e3
    subst e1 e2 e3
    exact ⟨none, 0, 0, rfl, Nat.le_refl _, Nat.zero_le _, fun k hk => absurd hk (by omega)⟩
  · injection hcs with hcs
    injection hcs with e1 e2 e3
    subst e1 e2 e3
    simp only [if_true] at hz
    refine ⟨some a, _, _, rfl, hl, hm, fun k hk => ?_⟩
    have hc := hcell k (by omega)
    obtain ⟨g, o, rfl⟩ := spotless (hcell 0 (by omega))
    rw [addr_add] at hc
    have hw := hwf (zs.getD k 0) (by rw [List.getD_eq_getElem?_getD, List.getElem?_eq_getElem (by omega)]; simp)
    refine ⟨g, o, _, rfl, hc, ?_⟩
    simp only [Lit.wf, Bool.and_eq_true, decide_eq_true_eq] at hw
    rw [show IntKind.u8.min = 0 by decide, show IntKind.u8.max = 255 by decide] at hw
    exact hw

end Go.Proofs.Ytkmognandkamoaa

namespace Go.Proofs.Ytkmognandkamoaa

def servesOf (M : Nat) (xs : List ArcD) (ys : List Int) (v : Int) : List Int := ys.map fun y => at_ (nearL M xs y) v
def serveOne (M : Nat) (xs : List ArcD) (ys : List Int) (v : Int) : Int := (least (servesOf M xs ys v) ys.length).1
def serveTo (M : Nat) (xs : List ArcD) (ys : List Int) (k : Nat) : List Int := (List.range k).map fun (v : Nat) => serveOne M xs ys (v : Int)
def serveI (m : Int) (xs : List ArcD) (ys : List Int) : List Int := if listB m xs ys then serveTo m.toNat xs ys m.toNat else []

theorem serveTo_length (M : Nat) (xs : List ArcD) (ys : List Int) (k : Nat) : (serveTo M xs ys k).length = k := by simp [serveTo]
theorem serveTo_next (M : Nat) (xs : List ArcD) (ys : List Int) (k : Nat) : serveTo M xs ys (k + 1) = serveTo M xs ys k ++ [serveOne M xs ys (k : Int)] := by simp [serveTo, List.range_succ]
theorem serveTo_at (M : Nat) (xs : List ArcD) (ys : List Int) (n k : Nat) (h : k < n) : (serveTo M xs ys n)[k]? = some (serveOne M xs ys (k : Int)) := by
  simp [serveTo, h]

theorem serveI_len (m : Int) (xs : List ArcD) (ys : List Int) : (serveI m xs ys).length ≤ 1048576 := by
  unfold serveI
  split
  · rename_i h
    obtain ⟨h1, _⟩ := (listB_iff _ _ _).1 h
    obtain ⟨M, rfl, _, h8⟩ := here_nat h1
    rw [serveTo_length, Int.toNat_natCast]
    omega
  · simp

theorem listB_flip {m : Int} {xs : List ArcD} {ys : List Int} (h : listB m xs ys = true) : listB m (xs.map flip) ys = true := by
  obtain ⟨h1, h2⟩ := (listB_iff _ _ _).1 h
  exact (listB_iff _ _ _).2 ⟨netB_flip' h1, h2⟩

/-- Nearest to a node in the net turned about is which reaches it with the least cost. -/
theorem many_back {M : Nat} {xs : List ArcD} {ys : List Int} {v : Nat} (h : listB (M : Int) xs ys = true) (hv : v < M) : manyW (M : Int) (xs.map flip) (v : Int) ys = serveOne M xs ys (v : Int) := by
  obtain ⟨h1, _, h3⟩ := (listB_iff _ _ _).1 h
  obtain ⟨M', e, _, h8⟩ := here_nat h1
  have hI : inB (v : Int) 0 ((M : Int) - 1) = true := (inB_iff _ _ _).2 (by omega)
  rw [manyW, listB_flip h, hI, Bool.and_self, if_pos rfl, serveOne]
  congr 2
  rw [costsL, servesOf, Int.toNat_natCast]
  refine List.map_congr_left fun y hy => ?_
  exact (near_back (by omega) (arcsIn_net h1) (h3 y hy) (by omega)).symm

end Go.Proofs.Ytkmognandkamoaa

namespace Go.Proofs.Ytkmognandkamoaa
open Go.RowKit

theorem res_none (w : World) (t : Nat) (cs : Array Value) : Res ((w.alloc (.cells cs t)).alloc (.cells #[] 3)) (w.heap.size + 1) (.slice (some ⟨w.heap.size + 1, 0, none⟩) 0 0) [] := by
  refine ⟨rfl, .inr ⟨w.heap.size + 1, 0, #[], rfl, Nat.le_refl _, ?_, Nat.le_refl _, by unfold maxLen; omega, rfl, rfl⟩⟩
  have := heap_alloc_new (w.alloc (.cells cs t)) (.cells #[] 3)
  simpa using this

set_option maxRecDepth 100000 in
set_option maxHeartbeats 2000000 in
theorem specCostOf_any (m : Int) (A : Option Addr) (n c : Nat) (xs : List ArcD) (p q : Int) (w : World) (hn : n ≤ 1048576) (hnx : xs.length = n) (hx : ArcsAt w A xs) :
    Calls Try.prog 25 #[.agg #[.int .i64 m, .slice A n c], .int .i64 p, .int .i64 q] w (Gives w (costOfI m xs p q)) := by
  have HX := Lib.hid hnx
  clear hnx
  obtain ⟨i0, hi, hz0, hz1, hz2⟩ := info_parts infoInt
  obtain ⟨Wb, hWb⟩ : ∃ Wb, Wb = w.alloc (.cells #[.int .i64 m, .slice A n c] 29) := ⟨_, rfl⟩
  obtain ⟨W, hW⟩ : ∃ W, W = Wb.alloc (.cells #[] 3) := ⟨_, rfl⟩
  have hb0 : Past w Wb := by rw [hWb]; exact (Past.refl _).alloc _
  have hbW : Past Wb W := by rw [hW]; exact (Past.refl _).alloc _
  have hsz : Wb.heap.size = w.heap.size + 1 := by rw [hWb]; simp
  have hres : Res W (w.heap.size + 1) (.slice (some ⟨w.heap.size + 1, 0, none⟩) 0 0) [] := by rw [hW, hWb]; exact res_none _ _ _
  have b0 : Wb.cell? ⟨w.heap.size, 0, none⟩ = some (.int .i64 m) := by rw [hWb]; go_simp
  have b1 : Wb.cell? ⟨w.heap.size, 1, none⟩ = some (.slice A n c) := by rw [hWb]; go_simp
  have b0 := cell_in hbW b0
  have b1 := cell_in hbW b1
  have HE := Lib.hid (hWb ▸ hW)
  have hx0 := hx.below hb0
  clear hW hWb
  go_enter Try.func25, Try.ntmps25
  go_wp2_with fail
  rw [← HE.out]
  clear HE
  refine (l1Ok_any m A n c xs _ hn HX.out (hx0.below hbW)).mono ?_
  rintro e w1 ⟨rfl, hb1⟩
  have b0 := cell_in hb1 b0
  have b1 := cell_in hb1 b1
  have hres := hres.below hb1
  have hb1 := hbW.trans hb1
  clear hbW
  cases hB : netB m xs with
  | false =>
    have HB := Lib.hid hB
    clear hB
    go_wp2
    go_ret
    exact ⟨_, rfl, by simp only [costOfI, ofOkB, HB.out, Bool.false_and, Bool.false_eq_true, if_false]; exact Res.nil _ _, hb0.trans hb1⟩
  | true =>
    have h16 := net_num hB
    rw [HX.out] at h16
    have HB := Lib.hid hB
    clear hB
    go_wp2_with fail
    refine (l1In_any p 0 100 _).mono ?_
    rintro e w2 ⟨rfl, rfl⟩
    cases hP : inB p 0 100 with
    | false =>
      have HP := Lib.hid hP
      clear hP
      go_wp2
      go_ret
      exact ⟨_, rfl, by simp only [costOfI, ofOkB, HP.out, Bool.false_and, Bool.and_false, Bool.false_eq_true, if_false]; exact Res.nil _ _, hb0.trans hb1⟩
    | true =>
      have hpb := (inB_iff _ _ _).1 hP
      have HP := Lib.hid hP
      clear hP
      go_wp2_with fail
      refine (l1In_any q 0 100 _).mono ?_
      rintro e w2 ⟨rfl, rfl⟩
      cases hQ : inB q 0 100 with
      | false =>
        have HQ := Lib.hid hQ
        clear hQ
        go_wp2
        go_ret
        exact ⟨_, rfl, by simp only [costOfI, ofOkB, HQ.out, Bool.and_false, Bool.false_eq_true, if_false]; exact Res.nil _ _, hb0.trans hb1⟩
      | true =>
        have hqb := (inB_iff _ _ _).1 hQ
        have HO : Hid (ofOkB m xs p q = true) := (ofOkB_iff _ _ _ _).2 ⟨HB.out, HP.out, hQ⟩
        clear hQ
        have hr0 : Res w1 (w.heap.size + 1) (.slice (some ⟨w.heap.size + 1, 0, none⟩) 0 0) (costsOf p q (xs.take 0)) := by simpa [costsOf] using hres
        clear hres
        go_wp2
        go_loopw [7, 8] (fun v i wr => ∃ k : Nat, k ≤ n ∧ i = .int .i64 k ∧ Res wr (w.heap.size + 1) v (costsOf p q (xs.take k)) ∧ Past Wb wr) (fun _ i _ => n - (intOf i).toNat)
        case atStart => exact ⟨0, by omega, rfl, hr0, hb1⟩
        case round =>
          obtain ⟨k, hk, rfl, hv, hb⟩ := hrel
          clear b0 b1 hr0
          have hz := hb.size
          have b1 := cell_in (p := ⟨w.heap.size, 1, none⟩) (v := .slice A n c) hb (by assumption)
          by_cases hlt : k < n
          · obtain ⟨⟨f, t, c', l', d⟩, ha⟩ : ∃ a, xs[k]? = some a := ⟨_, List.getElem?_eq_getElem (by have := HX.out; omega)⟩
            obtain ⟨g, o, rfl, d0, d1, d2, d3, d4⟩ := (hx0.below hb) k _ ha
            have hab := net_arc HB.out ha
            simp only at hab
            obtain ⟨x, y, z, ex, ey, ez, bx, by_, bz, ec⟩ := costOne_way (p := p) (q := q) (a := ⟨f, t, c', l', d⟩) hab hpb hqb
            simp only at ex ey
            have t1 : IntKind.i64.wrap (c' * p) = x := by rw [ex]; exact IntWalk.i64_in _ (by omega)
            have t2 : IntKind.i64.wrap (l' * q) = y := by rw [ey]; exact IntWalk.i64_in _ (by omega)
            have t3 : IntKind.i64.wrap (x + y) = x + y := IntWalk.i64_in _ (by omega)
            have t4 : IntKind.i64.wrap ((x + y).tdiv 100) = z := by rw [ez]; exact IntWalk.i64_in _ (by omega)
            have HN : Hid (costsOf p q (xs.take (k + 1)) = costsOf p q (xs.take k) ++ [costOne p q ⟨f, t, c', l', d⟩]) := costsOf_next ha
            have hkl : (costsOf p q (xs.take k)).length = k := by rw [costsOf, List.length_map, List.length_take, HX.out]; omega
            have HKL := Lib.hid hkl
            have HEC := Lib.hid ec
            unfold Res at hv
            rw [hkl] at hv
            clear ha hab ex ey ez ec hkl
            have i0' : (0 : Int) ≤ (k : Int) := by omega
            have i1 : (k : Int) < (n : Int) := by omega
            by_cases hc : 99 < z
            · rw [if_pos hc] at HEC
              go_wp2_with fail
              go_quiet (fail)
              go_wp2_with (first | (at_builtin; refine wpList_append_own _ rfl _ _ 25 rfl (w.heap.size + 1) 3 i0 (.int .i64 0) 1 8 Try.underlying25 hi hz0 hz1 hz2 rfl (by decide) _ _ _ rfl (hv.alloc _) ⟨wr.heap.size, 0, none⟩ 1 1 [.int .i64 99] rfl rfl (cell_one_new _ _ _) (one_cell 99) (by unfold maxLen; omega) (by omega) (by simp; omega) ?_; intro v' w3 hown' hgrow3 hnil3))
              go_roundw
              case rel => exact ⟨k + 1, by omega, by go_num, Res.step hown' (by rw [HN.out, List.length_append, HKL.out]; rfl) (by rw [HN.out, HEC.out]), Past.grown ((hb.drewN _).alloc _) (hv.alloc _) hgrow3 (by omega)⟩
              case measure => simp [intOf]; omega
            · rw [if_neg hc] at HEC
              go_wp2_with fail
              go_quiet (fail)
              go_wp2_with (first | (at_builtin; refine wpList_append_own _ rfl _ _ 25 rfl (w.heap.size + 1) 3 i0 (.int .i64 0) 1 8 Try.underlying25 hi hz0 hz1 hz2 rfl (by decide) _ _ _ rfl (hv.alloc _) ⟨wr.heap.size, 0, none⟩ 1 1 [.int .i64 z] rfl rfl (cell_one_new _ _ _) (one_cell z) (by unfold maxLen; omega) (by omega) (by simp; omega) ?_; intro v' w3 hown' hgrow3 hnil3))
              go_roundw
              case rel => exact ⟨k + 1, by omega, by go_num, Res.step hown' (by rw [HN.out, List.length_append, HKL.out]; rfl) (by rw [HN.out, HEC.out]), Past.grown ((hb.drewN _).alloc _) (hv.alloc _) hgrow3 (by omega)⟩
              case measure => simp [intOf]; omega
          · obtain rfl : n = k := by omega
            go_wp2
            go_ret
            rw [List.take_of_length_le (by rw [HX.out]; exact Nat.le_refl _)] at hv
            exact ⟨_, rfl, by rw [costOfI, HO.out, if_pos rfl]; exact hv.lower (by omega), hb0.trans hb⟩

end Go.Proofs.Ytkmognandkamoaa

namespace Go.Proofs.Ytkmognandkamoaa
open Go.RowKit

set_option maxRecDepth 100000 in
set_option maxHeartbeats 2000000 in
theorem specManyServe_any (m : Int) (A : Option Addr) (n c : Nat) (xs : List ArcD) (B : Option Addr) (l cb : Nat) (ys : List Int) (w : World) (hn : n ≤ 1048576) (hnx : xs.length = n) (hx : ArcsAt w A xs) (hl : l ≤ 1048576) (hly : ys.length = l) (hy : IntsAt w B ys) :
    Calls Try.prog 32 #[.agg #[.int .i64 m, .slice A n c], .slice B l cb] w (Gives w (serveI m xs ys)) := by
  have HX := Lib.hid hnx
  have HY := Lib.hid hly
  clear hnx hly
  obtain ⟨i0, hi, hz0, hz1, hz2⟩ := info_parts infoInt
  obtain ⟨Wb, hWb⟩ : ∃ Wb, Wb = w.alloc (.cells #[.int .i64 m, .slice A n c] 29) := ⟨_, rfl⟩
  obtain ⟨W, hW⟩ : ∃ W, W = Wb.alloc (.cells #[] 3) := ⟨_, rfl⟩
  have hb0 : Past w Wb := by rw [hWb]; exact (Past.refl _).alloc _
  have hbW : Past Wb W := by rw [hW]; exact (Past.refl _).alloc _
  have hsz : Wb.heap.size = w.heap.size + 1 := by rw [hWb]; simp
  have hres : Res W (w.heap.size + 1) (.slice (some ⟨w.heap.size + 1, 0, none⟩) 0 0) [] := by rw [hW, hWb]; exact res_none _ _ _
  have B0 : Wb.cell? ⟨w.heap.size, 0, none⟩ = some (.int .i64 m) := by rw [hWb]; go_simp
  have B1 : Wb.cell? ⟨w.heap.size, 1, none⟩ = some (.slice A n c) := by rw [hWb]; go_simp
  have HE := Lib.hid (hWb ▸ hW)
  have hx0 := hx.below hb0
  have hy0 := hy.below hb0
  clear hW hWb hx hy
  go_enter Try.func32, Try.ntmps32
  go_wp2_with fail
  rw [← HE.out]
  clear HE
  refine (l1Ok_any m A n c xs _ hn HX.out (hx0.below hbW)).mono ?_
  rintro e w1 ⟨rfl, hb1⟩
  have hres := hres.below hb1
  have hb1 := hbW.trans hb1
  have b0 := cell_in hb1 B0
  have b1 := cell_in hb1 B1
  clear hbW
  cases hB : netB m xs with
  | false =>
    have HB := Lib.hid hB
    clear hB
    go_wp2
    go_ret
    exact ⟨_, rfl, by simp only [serveI, listB, HB.out, Bool.false_and, Bool.false_eq_true, if_false]; exact Res.nil _ _, hb0.trans hb1⟩
  | true =>
    obtain ⟨M, rfl, h1, h8⟩ := here_nat hB
    have HB := Lib.hid hB
    clear hB
    go_wp2_with fail
    refine (l11Nodes_any (M : Int) A n c B l cb ys _ ⟨by omega, by omega⟩ hl HY.out (hy0.below hb1)).mono ?_
    rintro e w2 ⟨rfl, hb2⟩
    have hLB : listB (M : Int) xs ys = (decide (ys.length ≤ 8) && ys.all (fun z => inB z 0 ((M : Int) - 1))) := by rw [listB, HB.out, Bool.true_and]
    rw [← hLB]
    have hres := hres.below hb2
    have hb2 := hb1.trans hb2
    clear hLB hb1 b0 b1
    have b0 := cell_in hb2 B0
    have b1 := cell_in hb2 B1
    cases hC : listB (M : Int) xs ys with
    | false =>
      have HC := Lib.hid hC
      clear hC
      go_wp2
      go_ret
      exact ⟨_, rfl, by simp only [serveI, HC.out, Bool.false_eq_true, if_false]; exact Res.nil _ _, hb0.trans hb2⟩
    | true =>
      obtain ⟨_, hl8, hin⟩ := (listB_iff _ _ _).1 hC
      have HC := Lib.hid hC
      have HIN := Lib.hid hin
      rw [HY.out] at hl8
      clear hC hin
      have hr0 : Res w2 (w.heap.size + 1) (.slice (some ⟨w.heap.size + 1, 0, none⟩) 0 0) (serveTo M xs ys 0) := by simpa [serveTo] using hres
      clear hres
      go_wp2
      go_loopw [5, 6] (fun v i wr => ∃ k : Nat, k ≤ M ∧ i = .int .i64 k ∧ Res wr (w.heap.size + 1) v (serveTo M xs ys k) ∧ Past Wb wr) (fun _ i _ => M - (intOf i).toNat)
      case atStart => exact ⟨0, by omega, rfl, hr0, hb2⟩
      case round =>
        obtain ⟨k, hk, rfl, hv, hb⟩ := hrel
        clear b0 b1 hr0
        have hz := hb.size
        have b0 := cell_in hb B0
        have b1 := cell_in hb B1
        by_cases hlt : k < M
        · have k0 : (0 : Int) ≤ (k : Int) := by omega
          have k1 : (k : Int) < (M : Int) := by omega
          obtain ⟨wo, hwo⟩ : ∃ wo, wo = wr := ⟨_, rfl⟩
          rw [← hwo] at b0 b1 hv hb ⊢
          clear hwo
          have bo0 := b0
          have bo1 := b1
          go_wp2
          go_loopw [7, 8, 9] (fun b v i wr => ∃ j : Nat, j ≤ l ∧ i = .int .i64 j ∧ b = .int .i64 (least (servesOf M xs ys (k : Int)) j).2 ∧ v = .int .i64 (least (servesOf M xs ys (k : Int)) j).1 ∧ Past wo wr) (fun _ _ i _ => l - (intOf i).toNat)
          case atStart => exact ⟨0, by omega, rfl, rfl, rfl, Past.refl _⟩
          case round =>
            obtain ⟨j, hj, rfl, rfl, rfl, hbj⟩ := hrel
            clear b0 b1
            have b0 := cell_in hbj bo0
            have b1 := cell_in hbj bo1
            by_cases hlj : j < l
            · obtain ⟨y, ha⟩ : ∃ a, ys[j]? = some a := ⟨_, List.getElem?_eq_getElem (by have := HY.out; omega)⟩
              obtain ⟨g, o, rfl, c0⟩ := (hy0.below (hb.trans hbj)) j _ ha
              have hyb := HIN.out y (List.mem_of_getElem? ha)
              have HZ : Hid (at_ (servesOf M xs ys (k : Int)) (j : Int) = at_ (nearL M xs y) (k : Int)) := by rw [Hid, servesOf]; exact at_map (f := fun y => at_ (nearL M xs y) (k : Int)) ha
              clear ha
              have j0 : (0 : Int) ≤ (j : Int) := by omega
              have j1 : (j : Int) < (l : Int) := by omega
              obtain ⟨z, hzz⟩ : ∃ z, z = at_ (nearL M xs y) (k : Int) := ⟨_, rfl⟩
              have HG : Hid ((nearL M xs y)[k]? = some z) := by rw [Hid, hzz]; have := getElem_at' (nearL M xs y) (k : Int) (by omega) (by rw [nearL_length]; omega); simpa using this
              rw [← hzz] at HZ
              have hxr := hx0.below (hb.trans hbj)
              clear hzz
              obtain ⟨X, hX⟩ : ∃ X, X = (least (servesOf M xs ys (k : Int)) j).1 := ⟨_, rfl⟩
              obtain ⟨C, hC⟩ : ∃ C, C = (least (servesOf M xs ys (k : Int)) j).2 := ⟨_, rfl⟩
              rw [← hX, ← hC]
              by_cases hzc : z < C
              · have HM : Hid (least (servesOf M xs ys (k : Int)) (j + 1) = ((j : Int), z)) := least_next_lt HZ.out (by rw [← hC]; exact hzc)
                clear hC hX
                go_wp2_with fail
                go_region_with (refine (l3All_any M y A n c xs _ h8 HX.out hn hxr.drew (arcsIn_net HB.out) hyb).mono ?_; rintro e w4 ⟨v4, rfl, hv4, hb4⟩; obtain ⟨D, cd, rfl, hd4, _⟩ := hv4.form; rw [nearL_length]; obtain ⟨g', o', rfl, d0⟩ := hd4 k z HG.out; have hbj : Past wo w4 := hbj.drew.trans hb4; clear hv4 hd4 hb4)
                all_goals go_wp2
                all_goals go_roundw
                all_goals first | exact ⟨j + 1, by omega, by go_num, by rw [HM.out], by rw [HM.out], hbj⟩ | (simp [intOf]; omega)
              · have HM : Hid (least (servesOf M xs ys (k : Int)) (j + 1) = (X, C)) := by rw [Hid, least_next_ge HZ.out (by rw [← hC]; exact hzc), hX, hC]
                clear hC hX
                go_wp2_with fail
                go_region_with (refine (l3All_any M y A n c xs _ h8 HX.out hn hxr.drew (arcsIn_net HB.out) hyb).mono ?_; rintro e w4 ⟨v4, rfl, hv4, hb4⟩; obtain ⟨D, cd, rfl, hd4, _⟩ := hv4.form; rw [nearL_length]; obtain ⟨g', o', rfl, d0⟩ := hd4 k z HG.out; have hbj : Past wo w4 := hbj.drew.trans hb4; clear hv4 hd4 hb4)
                all_goals go_wp2
                all_goals go_roundw
                all_goals first | exact ⟨j + 1, by omega, by go_num, by rw [HM.out], by rw [HM.out], hbj⟩ | (simp [intOf]; omega)
            · obtain rfl : l = j := by omega
              have HN : Hid (serveTo M xs ys (k + 1) = serveTo M xs ys k ++ [(least (servesOf M xs ys (k : Int)) l).1]) := by rw [Hid, serveTo_next, serveOne, HY.out]
              have hkl : (serveTo M xs ys k).length = k := serveTo_length _ _ _ _
              have HKL := Lib.hid hkl
              have hv := hv.below hbj
              have hb := hb.trans hbj
              have hz := hb.size
              unfold Res at hv
              rw [hkl] at hv
              obtain ⟨z, hzz⟩ : ∃ z, z = (least (servesOf M xs ys (k : Int)) l).1 := ⟨_, rfl⟩
              rw [← hzz] at HN ⊢
              clear hzz hkl hbj
              go_wp2_with (first | (at_builtin; refine wpList_append_own _ rfl _ _ 25 rfl (w.heap.size + 1) 3 i0 (.int .i64 0) 1 8 Try.underlying25 hi hz0 hz1 hz2 rfl (by decide) _ _ _ rfl (hv.alloc _) ⟨wr.heap.size, 0, none⟩ 1 1 [.int .i64 z] rfl rfl (cell_one_new _ _ _) (one_cell z) (by unfold maxLen; omega) (by omega) (by simp; omega) ?_; intro v' w3 hown' hgrow3 hnil3))
              go_roundw
              case rel => exact ⟨k + 1, by omega, by go_num, Res.step hown' (by rw [HN.out, List.length_append, HKL.out]; rfl) HN.out, Past.grown (hb.alloc _) (hv.alloc _) hgrow3 (by omega)⟩
              case measure => simp [intOf]; omega
        · obtain rfl : M = k := by omega
          go_wp2
          go_ret
          exact ⟨_, rfl, by rw [serveI, HC.out, if_pos rfl, Int.toNat_natCast]; exact hv.lower (by omega), hb0.trans hb⟩

end Go.Proofs.Ytkmognandkamoaa

namespace Go.Proofs.Ytkmognandkamoaa
open Go.RowKit

set_option maxRecDepth 100000 in
set_option maxHeartbeats 1000000 in
theorem costsTo_any (M : Nat) (A : Option Addr) (n c : Nat) (xs : List ArcD) (s : Int) (B : Option Addr) (l cb : Nat) (ys : List Int) (w : World) (hn : n ≤ 1048576) (hnx : xs.length = n) (hx : ArcsAt w A xs) (hl : l ≤ 1048576) (hly : ys.length = l) (hy : IntsAt w B ys) (hH : hereB (M : Int) xs s = true) (hin : ∀ y ∈ ys, 0 ≤ y ∧ y < (M : Int)) :
    Calls Try.prog 69 #[.agg #[.int .i64 M, .slice A n c], .int .i64 s, .slice B l cb] w (Gives w (costsL (M : Int) xs s ys)) := by
  have HX := Lib.hid hnx
  have HY := Lib.hid hly
  have HIN := Lib.hid hin
  have hmk := makeInt l hl
  have hni : nearI (M : Int) xs s = nearL M xs s := by rw [nearI, hH, if_pos rfl, Int.toNat_natCast]
  have HNI := Lib.hid hni
  clear hnx hly hin hni hH
  have hb0 : Past w (w.alloc (.cells #[.int .i64 M, .slice A n c] 29)) := (Past.refl _).alloc _
  go_enter Try.func69, Try.ntmps69
  go_wp2_with fail
  refine (implNearAll_any (M : Int) A n c xs s _ hn HX.out (hx.below hb0)).mono ?_
  rintro e w1 ⟨v1, rfl, hv1, hb1⟩
  rw [HNI.out] at hv1
  obtain ⟨D, cd, rfl, hd1, _⟩ := hv1.form
  rw [nearL_length]
  obtain ⟨d, hd⟩ : ∃ d, d = nearL M xs s := ⟨_, rfl⟩
  rw [← hd] at hd1
  have hdl : d.length = M := by rw [hd, nearL_length]
  have HCS : Hid (costsL (M : Int) xs s ys = ys.map (at_ d)) := by rw [Hid, costsL, hd, Int.toNat_natCast]
  have HDL := Lib.hid hdl
  have hp1 := hb0.trans hb1
  have hy1 := hy.below hp1
  have hs1 := hp1.size
  clear hd hdl hv1 hb1 hb0 hx hy
  obtain ⟨cs, hcs⟩ : ∃ cs, cs = costsL (M : Int) xs s ys := ⟨_, rfl⟩
  rw [← hcs] at HCS
  have HCC := Lib.hid hcs
  clear hcs
  go_wp2
  go_loopw [19] (fun i wr => ∃ k : Nat, k ≤ l ∧ i = .int .i64 k ∧ Past w1 wr ∧ MadeI wr w1.heap.size 3 l cs k) (fun i _ => l - (intOf i).toNat)
  case atStart => exact ⟨0, by omega, rfl, (Past.refl w1).alloc _, MadeI.start _ _ _ _ _ (by simp [size_madeCells])⟩
  case round =>
    obtain ⟨k, hk, rfl, hb, hm⟩ := hrel
    by_cases hlt : k < l
    · obtain ⟨y, ha⟩ : ∃ a, ys[k]? = some a := ⟨_, List.getElem?_eq_getElem (by have := HY.out; omega)⟩
      obtain ⟨g, o, rfl, c0⟩ := (hy1.below hb) k _ ha
      have hyb := HIN.out y (List.mem_of_getElem? ha)
      obtain ⟨z, hz⟩ : ∃ z, z = at_ d y := ⟨_, rfl⟩
      obtain ⟨g', o', rfl, d0⟩ := (hd1.below hb) y.toNat z (by rw [hz]; exact getElem_at' d y hyb.1 (by rw [HDL.out]; exact hyb.2))
      have HA : Hid (cs[k]? = some z) := by rw [Hid, HCS.out, List.getElem?_map, ha, hz]; rfl
      clear ha hz
      have i0 : (0 : Int) ≤ (k : Int) := by omega
      have i1 : (k : Int) < (l : Int) := by omega
      have y0 := hyb.1
      have y1 := hyb.2
      obtain ⟨v0, e0⟩ := hm.1.cell (i := k) hlt
      have z0 := hm.1.frozen k
      have hnx := hm.next HA.out hlt
      go_wp2
      go_roundw
      case rel => exact ⟨k + 1, by omega, by go_num, Below.setCell hb (p := ⟨w1.heap.size, k, none⟩) (by simp) _, hnx⟩
      case measure => simp [intOf]; omega
    · obtain rfl : l = k := by omega
      go_wp2
      go_ret
      have hlc : cs.length = l := by rw [HCS.out, List.length_map, HY.out]
      exact ⟨_, rfl, by rw [← HCC.out]; exact (hm.row hlc).res hlc hs1 hl, hp1.trans hb⟩

set_option maxRecDepth 100000 in
set_option maxHeartbeats 1000000 in
theorem implManyNear_any (m : Int) (A : Option Addr) (n c : Nat) (xs : List ArcD) (s : Int) (B : Option Addr) (l cb : Nat) (ys : List Int) (w : World) (hn : n ≤ 1048576) (hnx : xs.length = n) (hx : ArcsAt w A xs) (hl : l ≤ 1048576) (hly : ys.length = l) (hy : IntsAt w B ys) :
    Calls Try.prog 31 #[.agg #[.int .i64 m, .slice A n c], .int .i64 s, .slice B l cb] w fun e w' => e = .returned (.tuple #[.int .i64 (manyW m xs s ys), .int .i64 (manyC m xs s ys)]) ∧ Below w.heap.size w w' := by
  have HX := Lib.hid hnx
  have HY := Lib.hid hly
  clear hnx hly
  have hb0 : Past w (w.alloc (.cells #[.int .i64 m, .slice A n c] 29)) := (Past.refl _).alloc _
  go_enter Try.func31, Try.ntmps31
  go_wp2_with fail
  refine (listOk_any m A n c xs B l cb ys _ hn HX.out (hx.below hb0) hl HY.out (hy.below hb0)).mono ?_
  rintro e w1 ⟨rfl, hb1⟩
  have b0 := cell_in (p := ⟨w.heap.size, 0, none⟩) (v := .int .i64 m) hb1 (by go_simp)
  have b1 := cell_in (p := ⟨w.heap.size, 1, none⟩) (v := .slice A n c) hb1 (by go_simp)
  have hp1 := hb0.trans hb1
  have hx1 := hx.below hp1
  have hy1 := hy.below hp1
  clear hb0 hb1 hx hy
  cases hC : listB m xs ys with
  | false =>
    have HC := Lib.hid hC
    clear hC
    go_wp2
    go_ret2
    exact ⟨ret_two (by simp [manyW, HC.out]) (by simp [manyC, HC.out]), hp1⟩
  | true =>
    obtain ⟨hN, hl8, hin⟩ := (listB_iff _ _ _).1 hC
    obtain ⟨M, rfl, h1, h8⟩ := here_nat hN
    have HC := Lib.hid hC
    have HIN := Lib.hid hin
    have HN := Lib.hid hN
    rw [HY.out] at hl8
    clear hC hin hN
    have hpz : Past w1 (w1.alloc (.cells #[.int .i64 s] 3)) := (Past.refl _).alloc _
    have hz : IntsAt (w1.alloc (.cells #[.int .i64 s] 3)) (some ⟨w1.heap.size, 0, none⟩) [s] := fun k y hk => by
      cases k with
      | zero => simp at hk; subst hk; exact ⟨_, _, rfl, by go_simp⟩
      | succ k => simp at hk
    go_wp2_with fail
    refine (netHas_any (M : Int) A n c xs _ 1 1 [s] _ hn HX.out (hx1.below hpz) (by omega) rfl hz).mono ?_
    rintro e w2 ⟨rfl, hb2⟩
    have hH : (netB (M : Int) xs && [s].all (fun z => inB z 0 ((M : Int) - 1))) = hereB (M : Int) xs s := by simp [hereB]
    rw [hH]
    have b0 := cell_in hb2 (cell_in hpz b0)
    have b1 := cell_in hb2 (cell_in hpz b1)
    have hx2 := (hx1.below hpz).below hb2
    have hy2 := (hy1.below hpz).below hb2
    have hp2 := (hp1.trans hpz).trans hb2
    clear hH hb2 hpz hp1 hx1 hy1 hz
    cases hB : hereB (M : Int) xs s with
    | false =>
      have hI : inB s 0 ((M : Int) - 1) = false := by
        have := hB
        rw [hereB, HN.out, Bool.true_and] at this
        exact this
      have HI := Lib.hid hI
      clear hB hI
      go_wp2
      go_ret2
      exact ⟨ret_two (by simp [manyW, HI.out]) (by simp [manyC, HI.out]), hp2⟩
    | true =>
      have hI : inB s 0 ((M : Int) - 1) = true := by
        have := hB
        rw [hereB, HN.out, Bool.true_and] at this
        exact this
      have HI := Lib.hid hI
      have HB := Lib.hid hB
      clear hB hI
      go_wp2_with fail
      refine (costsTo_any M A n c xs s B l cb ys _ hn HX.out hx2 hl HY.out hy2 HB.out HIN.out).mono ?_
      rintro e w4 ⟨v4, rfl, hv4, hb4⟩
      obtain ⟨D, cd, rfl, hd4, _⟩ := hv4.form
      obtain ⟨cs, hcs⟩ : ∃ cs, cs = costsL (M : Int) xs s ys := ⟨_, rfl⟩
      rw [← hcs] at hd4 ⊢
      have hcl : cs.length = l := by rw [hcs, costsL, List.length_map, HY.out]
      rw [hcl]
      have HCC := Lib.hid hcs
      have HCL := Lib.hid hcl
      have hp4 := hp2.trans hb4
      clear hcs hcl hv4 hb4 hp2 hx2 hy2 b0 b1
      go_wp2
      go_loopw [8, 9, 28] (fun v b i wr => ∃ k : Nat, k ≤ l ∧ i = .int .i64 k ∧ b = .int .i64 (least cs k).2 ∧ v = .int .i64 (least cs k).1 ∧ Past w4 wr) (fun _ _ i _ => l - (intOf i).toNat)
      case atStart => exact ⟨0, by omega, rfl, rfl, rfl, Past.refl _⟩
      case round =>
        obtain ⟨k, hk, rfl, rfl, rfl, hb⟩ := hrel
        by_cases hlt : k < l
        · obtain ⟨z, hz⟩ : ∃ z, z = at_ cs (k : Int) := ⟨_, rfl⟩
          obtain ⟨g', o', rfl, d0⟩ := (hd4.below hb) k z (by rw [hz]; have := getElem_at' cs (k : Int) (by omega) (by rw [HCL.out]; omega); simpa using this)
          have HZ := Lib.hid hz.symm
          clear hz
          have i0 : (0 : Int) ≤ (k : Int) := by omega
          have i1 : (k : Int) < (l : Int) := by omega
          obtain ⟨W, hW⟩ : ∃ W, W = (least cs k).1 := ⟨_, rfl⟩
          obtain ⟨C, hC⟩ : ∃ C, C = (least cs k).2 := ⟨_, rfl⟩
          rw [← hW, ← hC]
          by_cases hzc : z < C
          · have HM : Hid (least cs (k + 1) = ((k : Int), z)) := least_next_lt HZ.out (by rw [← hC]; exact hzc)
            clear hC hW
            go_wp2
            go_roundw
            case rel => exact ⟨k + 1, by omega, by go_num, by rw [HM.out], by rw [HM.out], hb⟩
            case measure => simp [intOf]; omega
          · have HM : Hid (least cs (k + 1) = (W, C)) := by rw [Hid, least_next_ge HZ.out (by rw [← hC]; exact hzc), hW, hC]
            clear hC hW
            go_wp2
            go_roundw
            case rel => exact ⟨k + 1, by omega, by go_num, by rw [HM.out], by rw [HM.out], hb⟩
            case measure => simp [intOf]; omega
        · obtain rfl : l = k := by omega
          go_wp2
          go_ret2
          exact ⟨ret_two (by rw [manyW, HC.out, HI.out, ← HCC.out, HY.out]; rfl) (by rw [manyC, HC.out, HI.out, ← HCC.out, HY.out]; rfl), hp4.trans hb⟩

end Go.Proofs.Ytkmognandkamoaa

namespace Go.Proofs.Ytkmognandkamoaa
open Go.RowKit

set_option maxRecDepth 100000 in
set_option maxHeartbeats 1000000 in
theorem implManyServe_all (m : Int) (A : Option Addr) (n c : Nat) (xs : List ArcD) (B : Option Addr) (l cb : Nat) (ys : List Int) (w : World) (hn : n ≤ 1048576) (hnx : xs.length = n) (hx : ArcsAt w A xs) (ho : (A = none ∧ n = 0) ∨ ∃ g o, A = some ⟨g, o, none⟩) (hl : l ≤ 1048576) (hly : ys.length = l) (hy : IntsAt w B ys) :
    Calls Try.prog 33 #[.agg #[.int .i64 m, .slice A n c], .slice B l cb] w (Gives w (serveI m xs ys)) := by
  have HX := Lib.hid hnx
  have HY := Lib.hid hly
  have HO := Lib.hid ho
  clear hnx hly ho
  have hb0 : Past w (w.alloc (.cells #[.int .i64 m, .slice A n c] 29)) := (Past.refl _).alloc _
  go_enter Try.func33, Try.ntmps33
  go_wp2_with fail
  refine (listOk_any m A n c xs B l cb ys _ hn HX.out (hx.below hb0) hl HY.out (hy.below hb0)).mono ?_
  rintro e w1 ⟨rfl, hb1⟩
  have b0 := cell_in (p := ⟨w.heap.size, 0, none⟩) (v := .int .i64 m) hb1 (by go_simp)
  have b1 := cell_in (p := ⟨w.heap.size, 1, none⟩) (v := .slice A n c) hb1 (by go_simp)
  have hp1 := hb0.trans hb1
  have hx1 := hx.below hp1
  have hy1 := hy.below hp1
  clear hb0 hb1 hx hy
  cases hC : listB m xs ys with
  | false =>
    have HC := Lib.hid hC
    clear hC
    go_wp2
    go_ret
    exact ⟨_, rfl, by rw [serveI, HC.out]; exact Res.nil _ _, hp1⟩
  | true =>
    obtain ⟨hN, hl8, hin⟩ := (listB_iff _ _ _).1 hC
    obtain ⟨M, rfl, h1, h8⟩ := here_nat hN
    have HC := Lib.hid hC
    have HN := Lib.hid hN
    clear hC hin hN
    go_wp2_with fail
    refine (implNetBack_all (M : Int) A n c xs _ hn HX.out hx1 HO.out).mono ?_
    rintro e w2 ⟨A2, c2, rfl, hx2, _, hb2⟩
    have hN2 : backN (M : Int) xs = (M : Int) := by rw [backN, HN.out, if_pos rfl]
    have hL2 : backL (M : Int) xs = xs.map flip := by rw [backL, HN.out, if_pos rfl]
    have hn2 : (xs.map flip).length = n := by rw [List.length_map, HX.out]
    rw [hL2] at hx2 ⊢
    rw [hN2, hn2]
    have HN2 := Lib.hid hn2
    have b0 := cell_in hb2 b0
    have hp2 := hp1.trans hb2
    have hy2 := hy1.below hb2
    clear hN2 hL2 hn2 hb2 hp1 hx1 hy1 b1
    obtain ⟨w3, hw3⟩ : ∃ w3, w3 = w2.alloc (.cells #[.int .i64 (M : Int), .slice A2 n c2] 29) := ⟨_, rfl⟩
    have hb3 : Past w2 w3 := by rw [hw3]; exact (Past.refl _).alloc _
    have hsz : w3.heap.size = w2.heap.size + 1 := by rw [hw3]; simp
    have HS := Lib.hid hsz
    have p0 : w3.cell? ⟨w2.heap.size, 0, none⟩ = some (.int .i64 (M : Int)) := by rw [hw3]; go_simp
    have p1 : w3.cell? ⟨w2.heap.size, 1, none⟩ = some (.slice A2 n c2) := by rw [hw3]; go_simp
    have HW := Lib.hid hw3
    have hx3 := hx2.below hb3
    have hy3 := hy2.below hb3
    have hp3 := hp2.trans hb3
    have hs2 := hp2.size
    have hmk := makeInt M (by omega)
    obtain ⟨cs, hcs⟩ : ∃ cs, cs = serveTo M xs ys M := ⟨_, rfl⟩
    have hlc : cs.length = M := by rw [hcs, serveTo_length]
    have HCC := Lib.hid hcs
    have HLC := Lib.hid hlc
    have b0o : ∀ o, (w2.alloc o).cell? ⟨w.heap.size, 0, none⟩ = some (.int .i64 (M : Int)) := fun o => cell_in ((Past.refl _).alloc o) b0
    clear hw3 hsz hcs hlc hb3 hp2 hx2 hy2
    go_wp2
    rw [← HW.out]
    clear HW
    clear b0o
    go_loopw [19] (fun i wr => ∃ k : Nat, k ≤ M ∧ i = .int .i64 k ∧ Past w3 wr ∧ MadeI wr (w2.heap.size + 1) 3 M cs k) (fun i _ => M - (intOf i).toNat)
    case atStart => exact ⟨0, by omega, rfl, (Past.refl w3).alloc _, by have := MadeI.start w3 3 M cs (madeCells #[.int .i64 0] M) (by simp [size_madeCells]); rw [HS.out] at this; exact this⟩
    case round =>
      obtain ⟨k, hk, rfl, hb, hm⟩ := hrel
      by_cases hlt : k < M
      · have p0 := cell_in hb p0
        have p1 := cell_in hb p1
        have HA : Hid (cs[k]? = some (manyW (M : Int) (xs.map flip) (k : Int) ys)) := by rw [Hid, HCC.out, serveTo_at _ _ _ _ _ hlt, many_back HC.out hlt]
        have i0 : (0 : Int) ≤ (k : Int) := by omega
        have i1 : (k : Int) < (M : Int) := by omega
        go_wp2_with fail
        refine (implManyNear_any (M : Int) A2 n c2 (xs.map flip) (k : Int) B l cb ys _ hn HN2.out (hx3.below hb) hl HY.out (hy3.below hb)).mono ?_
        rintro e w4 ⟨rfl, hb4⟩
        have hm := hm.below hb4
        have hb := hb.trans hb4
        clear hb4 p0 p1
        obtain ⟨z, hz⟩ : ∃ z, z = manyW (M : Int) (xs.map flip) (k : Int) ys := ⟨_, rfl⟩
        rw [← hz] at HA ⊢
        clear hz
        obtain ⟨v0, e0⟩ := hm.1.cell (i := k) hlt
        have z0 := hm.1.frozen k
        have hnx := hm.next HA.out hlt
        go_wp2
        go_roundw
        case rel => exact ⟨k + 1, by omega, by go_num, Below.setCell hb (p := ⟨w2.heap.size + 1, k, none⟩) (by rw [HS.out]; simp) _, hnx⟩
        case measure => simp [intOf]; omega
      · obtain rfl : M = k := by omega
        go_wp2
        go_ret
        exact ⟨_, rfl, by rw [serveI, HC.out, if_pos rfl, Int.toNat_natCast, ← HCC.out]; exact (hm.row HLC.out).res HLC.out (by omega) (by omega), hp3.trans hb⟩

theorem implManyServe_any (m : Int) (g : Nat) (n c : Nat) (xs : List ArcD) (B : Option Addr) (l cb : Nat) (ys : List Int) (w : World) (hn : n ≤ 1048576) (hnx : xs.length = n) (hx : ArcsAt w (some ⟨g, 0, none⟩) xs) (hl : l ≤ 1048576) (hly : ys.length = l) (hy : IntsAt w B ys) :
    Calls Try.prog 33 #[.agg #[.int .i64 m, .slice (some ⟨g, 0, none⟩) n c], .slice B l cb] w (Gives w (serveI m xs ys)) :=
  implManyServe_all m _ n c xs B l cb ys w hn hnx hx (.inr ⟨g, 0, rfl⟩) hl hly hy

end Go.Proofs.Ytkmognandkamoaa

namespace Go.Proofs.Ytkmognandkamoaa
open Go.RowKit

set_option maxRecDepth 100000 in
set_option maxHeartbeats 1000000 in
theorem wkInts_same (A B : Option Addr) (n c c' : Nat) (xs : List Int) (w : World) (hn : n ≤ 1048576) (hl : xs.length = n) (hx : IntsAt w A xs) (hy : IntsAt w B xs) :
    Calls Try.prog 42 #[.slice A n c, .slice B n c'] w fun e w' => e = .returned (.bool true) ∧ Below w.heap.size w w' := by
  go_enter Try.func42, Try.ntmps42
  go_wp2
  go_loopw [5] (fun i wr => ∃ k : Nat, k ≤ n ∧ i = .int .i64 k ∧ Past w wr) (fun i _ => n - (intOf i).toNat)
  case atStart => exact ⟨0, by omega, rfl, Past.refl _⟩
  case round =>
    obtain ⟨k, hk, rfl, hb⟩ := hrel
    by_cases hlt : k < n
    · obtain ⟨x0, ha⟩ : ∃ a, xs[k]? = some a := ⟨_, List.getElem?_eq_getElem (by omega)⟩
      obtain ⟨g, o, rfl, c0⟩ := (hx.below hb) k _ ha
      obtain ⟨g', o', rfl, d0⟩ := (hy.below hb) k _ ha
      have hi : (k : Int) < (n : Int) := by omega
      have h0 : (0 : Int) ≤ (k : Int) := by omega
      clear ha hl
      go_wp2_with fail
      go_quiet (fail)
      go_wp2
      go_roundw
      case rel => exact ⟨k + 1, by omega, by go_num, hb.drewN _⟩
      case measure => simp [intOf]; omega
    · go_wp2
      go_ret
      exact ⟨rfl, hb⟩

end Go.Proofs.Ytkmognandkamoaa

namespace Go.Proofs.Ytkmognandkamoaa
open Go.ChangeShapes Go.WideShapes Go.ChangeAt Go.RowKit

set_option maxRecDepth 100000 in
set_option maxHeartbeats 2000000 in
theorem fnManyServe_walk (A : Option Addr) (n c : Nat) (w : World) (hn : n ≤ c) (hc : c ≤ maxLen) (hb : BytesAt w A n) :
    Calls Try.prog 13 #[.slice A n c] w fun e w' => e = .returned (.bool true) ∧ Below w.heap.size w w' := by
  by_cases h1 : 1048576 < n
  · have h1' : (1048576 : Int) < (n : Int) := by omega
    go_enter Try.func13, Try.ntmps13
    go_wp2
    go_ret
    exact ⟨rfl, Below.refl _ _⟩
  have h1' : ¬ (1048576 : Int) < (n : Int) := by omega
  go_enter Try.func13, Try.ntmps13
  go_wp2_with fail
  refine (drawManyServe_any A n c w hn hc hb).mono ?_
  rintro e w1 ⟨m, B, k, cap, xs, D, l, cd, ys, rfl, hxk, hk, hx1, hform, hly, hl5, hy1, hb1⟩
  have HX := Lib.hid hxk
  have HY := Lib.hid hly
  clear hxk hly hb hn hc
  have hkk : k ≤ 1048576 := by omega
  have hll : l ≤ 1048576 := by omega
  have hpW : Past w1 (w1.alloc (.cells #[.int .i64 m, .slice B k cap] 29)) := (Past.refl w1).alloc _
  go_wp2_with fail
  refine (implManyServe_all m B k cap xs D l cd ys _ hkk HX.out (hx1.below hpW) hform hll HY.out (hy1.below hpW)).mono ?_
  rintro e w2 ⟨v2, rfl, hv2, hb2⟩
  have b0 := cell_in (p := ⟨w1.heap.size, 0, none⟩) (v := .int .i64 m) hb2 (by go_simp)
  have b1 := cell_in (p := ⟨w1.heap.size, 1, none⟩) (v := .slice B k cap) hb2 (by go_simp)
  have hx2 := (hx1.below hpW).below hb2
  have hy2 := (hy1.below hpW).below hb2
  have hp2 : Past w w2 := Past.trans hb1 (hpW.trans hb2)
  obtain ⟨X, cx, rfl, hs2, _⟩ := hv2.form
  obtain ⟨ps, hps⟩ : ∃ ps, ps = serveI m xs ys := ⟨_, rfl⟩
  rw [← hps] at hs2 ⊢
  obtain ⟨R, hR⟩ : ∃ R, R = ps.length := ⟨_, rfl⟩
  have hR1 : R ≤ 1048576 := by rw [hR, hps]; exact serveI_len m xs ys
  rw [← hR]
  have HPS := Lib.hid hps
  have HR := Lib.hid hR.symm
  clear hps hR hv2 hx1 hy1 hb1 hb2 hpW
  go_wp2_with fail
  refine (specManyServe_any m B k cap xs D l cd ys _ hkk HX.out hx2 hll HY.out hy2).mono ?_
  rintro e w3 ⟨v3, rfl, hv3, hb3⟩
  obtain ⟨F, cf, rfl, hs3, _⟩ := hv3.form
  rw [← HPS.out] at hs3 ⊢
  rw [HR.out]
  have b0 := cell_in hb3 b0
  have b1 := cell_in hb3 b1
  have hx3 := hx2.below hb3
  have hy3 := hy2.below hb3
  have hs23 := hs2.below hb3
  have hp3 := Past.trans hp2 hb3
  clear hv3 hx2 hy2 hs2 hb3 hp2
  go_wp2_with fail
  refine (wkInts_same X F R cx cf ps _ hR1 HR.out hs23 hs3).mono ?_
  rintro e w4 ⟨rfl, hb4⟩
  have b0 := cell_in hb4 b0
  have b1 := cell_in hb4 b1
  have hx4 := hx3.below hb4
  have hy4 := hy3.below hb4
  have hs4 := hs23.below hb4
  have hp4 := Past.trans hp3 hb4
  clear hx3 hy3 hs23 hs3 hb4 hp3
  cases hO : listB m xs ys with
  | false =>
    obtain rfl : R = 0 := by rw [← HR.out, HPS.out, serveI, hO]; rfl
    clear hO
    go_wp2_with fail
    refine (specManyServe_any m B k cap xs D l cd ys _ hkk HX.out hx4 hll HY.out hy4).mono ?_
    rintro e w6 ⟨v6, rfl, hv6, hb6⟩
    obtain ⟨F, cf, rfl, hs6, _⟩ := hv6.form
    rw [← HPS.out] at hs6 ⊢
    rw [HR.out]
    go_wp2_with fail
    refine (wkInts_same X F 0 cx cf ps _ hR1 HR.out (hs4.below hb6) hs6).mono ?_
    rintro e w7 ⟨rfl, hb7⟩
    go_wp2
    go_ret
    exact ⟨rfl, (Past.trans hp4 hb6).trans hb7⟩
  | true =>
    obtain ⟨hN, _, _⟩ := (listB_iff _ _ _).1 hO
    obtain ⟨M, rfl, hM1, hM8⟩ := here_nat hN
    have hps : ps = serveTo M xs ys M := by rw [HPS.out, serveI, hO, if_pos rfl, Int.toNat_natCast]
    obtain rfl : M = R := by rw [← HR.out, hps, serveTo_length]
    have HP2 := Lib.hid hps
    have HO := Lib.hid hO
    have HN := Lib.hid hN
    clear hO hN hps
    have hM0 : ¬ (M : Int) = 0 := by omega
    have hM0' : ¬ M = 0 := by omega
    have hMb : ((M : Int) == 0) = false := by simpa using hM0
    go_wp2_with fail
    refine (implNetBack_all (M : Int) B k cap xs _ hkk HX.out hx4 hform).mono ?_
    rintro e w5 ⟨Z, cz, rfl, hz5, _, hb5⟩
    have hbN : backN (M : Int) xs = (M : Int) := by rw [backN, HN.out, if_pos rfl]
    have hbL : backL (M : Int) xs = xs.map flip := by rw [backL, HN.out, if_pos rfl]
    have hbl : (xs.map flip).length = k := by rw [List.length_map, HX.out]
    rw [hbL] at hz5 ⊢
    rw [hbN, hbl]
    have HBL := Lib.hid hbl
    have b0 := cell_in hb5 b0
    have hy5 := hy4.below hb5
    have hs5 := hs4.below hb5
    have hp5 := hp4.trans hb5
    clear hbN hbL hbl hx4 hy4 hs4 hb5 hp4 b1
    obtain ⟨W, hW⟩ : ∃ W, W = w5.alloc (.cells #[.int .i64 (M : Int), .slice Z k cz] 29) := ⟨_, rfl⟩
    have hpW : Past w5 W := by rw [hW]; exact (Past.refl _).alloc _
    have p0 : W.cell? ⟨w5.heap.size, 0, none⟩ = some (.int .i64 (M : Int)) := by rw [hW]; go_simp
    have p1 : W.cell? ⟨w5.heap.size, 1, none⟩ = some (.slice Z k cz) := by rw [hW]; go_simp
    have b0 := cell_in hpW b0
    have hz6 := hz5.below hpW
    have hy6 := hy5.below hpW
    have hs6 := hs5.below hpW
    have hp6 := hp5.trans hpW
    have HW := Lib.hid hW
    clear hW hz5 hy5 hs5 hp5 hpW
    go_wp2
    rw [← HW.out]
    clear HW
    go_loopw [7] (fun i wr => ∃ j : Nat, j ≤ M ∧ i = .int .i64 j ∧ Past W wr) (fun i _ => M - (intOf i).toNat)
    case atStart => exact ⟨0, by omega, rfl, Past.refl _⟩
    case round =>
      obtain ⟨j, hj, rfl, hbr⟩ := hrel
      have b0 := cell_in hbr b0
      have p0 := cell_in hbr p0
      have p1 := cell_in hbr p1
      by_cases hlt : j < M
      · have j0 : (0 : Int) ≤ (j : Int) := by omega
        have j1 : (j : Int) < (M : Int) := by omega
        go_wp2_with fail
        refine (implManyNear_any (M : Int) Z k cz (xs.map flip) (j : Int) D l cd ys _ hkk HBL.out (hz6.below hbr) hll HY.out (hy6.below hbr)).mono ?_
        rintro e w7 ⟨rfl, hb7⟩
        obtain ⟨z, hz⟩ : ∃ z, z = manyW (M : Int) (xs.map flip) (j : Int) ys := ⟨_, rfl⟩
        have hzs : ps[j]? = some z := by rw [HP2.out, serveTo_at _ _ _ _ _ hlt, hz, many_back HO.out hlt]
        rw [← hz]
        have hbr := hbr.trans hb7
        obtain ⟨gz, oz, rfl, c0⟩ := (hs6.below hbr) j z hzs
        clear hz hzs hb7 b0 p0 p1
        go_wp2
        go_roundw
        case rel => exact ⟨j + 1, by omega, by go_num, hbr⟩
        case measure => simp [intOf]; omega
      · obtain rfl : M = j := by omega
        have e1 : ((M : Int) == (M : Int)) = true := by simp
        go_wp2
        go_ret
        exact ⟨rfl, hp6.trans hbr⟩

set_option maxRecDepth 100000 in
theorem fnManyServe_lifted (os : Os) (started : os.Started) (H : Type) (enc : TypeId × Value → H) :
    ReturnsInHanded {} Try.checked os 13 .any (Rows.fnManyServeSpec.pre6 enc Try.prog Try.f13 Rows.fnManyServeRow.domain false) (Rows.fnManyServeSpec.post enc Try.prog Try.f13 false true false false) := by
  refine returnsInHanded_of_change (C := Try.checked) own started (by kernel_rfl) Try.func13
    (ChangeSpec.witness6 (enc := enc) (C := Try.checked) false ⟨#[], #[.slice none 0 0], []⟩ 8 (by kernel_rfl) (by kernel_rfl) (by kernel_rfl) (by kernel_rfl)) ?_
  intro W base args ds gs before hval0 hW hcnd _
  have hval : ∀ (j : Nat) t v, Try.f13.params[j]? = some t → args[j]? = some v → Value.okWide Try.prog W .any base t v := hval0
  have hW' := hW
  obtain ⟨p, q, hA0, hV, rfl, hfz, hnd⟩ := hW
  have hA : DataW.TrodAll enc Try.prog W 0 (fun _ => true) true Try.f13.params.toList args.toList ds p := hA0
  rw [Try.params13] at hA hval
  obtain ⟨v0, vs0, d0, ds0, p0, q0, hargs, rfl, rfl, h0, r0⟩ := trodAll_cons hA
  obtain ⟨rfl, rfl, rfl⟩ := trodAll_nil r0
  obtain rfl : args = #[v0] := by cases args; simp_all
  obtain ⟨rfl, rfl⟩ := trodVars_none hV
  have k0 := h0
  have lt0 := places_lt k0
  obtain ⟨A0, n0, c0, rfl, hn0, hc0, hb0⟩ := open_bytes (hval 0 48 v0 rfl rfl) h0
  clear hA0 hval0
  refine (fnManyServe_walk A0 n0 c0 W hn0 hc0 hb0).mono fun e W' ⟨he, bel⟩ => ?_
  subst he
  exact ⟨_, rfl, _, _, _, [], _, [], hW', trodAll_mk1 (shut_bool Try.underlying4 _), (trodAll_cons_mk (Below.trod laidOut (by kernel_rfl) (of_decide_eq_true (by kernel_rfl)) k0 bel lt0) trodAll_mk0), rfl, bel.frame _, fun h => by cases h⟩

/-- The given statement. -/
theorem fnManyServe_proved : Rows.FnManyServeSaid :=
  OpenClaim.holds_of_wide 13 Try.f13 rfl rfl rfl rfl rfl rfl rfl ⟨rfl, rfl, rfl, rfl, rfl⟩ rfl rfl rfl rfl rfl (by kernel_rfl) Try.func13 (by kernel_rfl)
    (of_decide_eq_true (by kernel_rfl)) (by unfold Func.isWrapper; first | (rw [if_pos (by decide +kernel)]; kernel_rfl) | (rw [if_neg (by decide +kernel)]; exact ⟨rfl, rfl⟩))
    (fun os started H enc _ => fnManyServe_lifted os started H enc)

end Go.Proofs.Ytkmognandkamoaa
