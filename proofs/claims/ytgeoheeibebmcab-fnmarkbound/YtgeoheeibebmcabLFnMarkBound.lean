/-
  FnMarkBound answers true at every input: what is known of marks is no more than what it costs, of the first node as a mark just that, and of no marks nothing. No condition.
-/
import Derived.Test.YtgeoheeibebmcabDrawNetOut
import Derived.Test.YtgeoheeibebmcabResI
import Derived.Test.YtgeoheeibebmcabPMany
import Derived.Test.YtgeoheeibebmcabPBack
import Derived.Test.YtgeoheeibebmcabNTo
import Derived.Test.YtgeoheeibebmcabMList
import Derived.Test.YtgeoheeibebmcabQPast
import Derived.Test.YtgeoheeibebmcabQTail
import Derived.Test.YtgeoheeibebmcabNRepI
import Derived.Laws.AppendOwnNone
import Derived.Test.YtgeoheeibebmcabOpenB
import Derived.Test.YtgeoheeibebmcabRInS
namespace Go.Proofs.Ytgeoheeibebmcab
open Go.RowKit

theorem Res.youngN {w w' : World} {lo g : Nat} {v : Value} {zs : List Int} (h : Res w lo v zs) (hg : w.grownBy w' (some g)) (hl : g < lo) : Res w' lo v zs :=
  World.ownsRow.kept h hg (.inr fun e => own_ne h hl e.symm)

/-- Numbers were drawn into new memory. -/
def NodesG (w : World) (R lo : Nat) (A : Option Addr) (n c f : Nat) (e : Ending) (w' : World) : Prop :=
  ∃ v zs, e = .returned v ∧ zs.length ≤ 5 ∧ Res w' w.heap.size v zs ∧ RdF w' R lo A n c f ∧ w.grownBy w' (some R)

set_option maxRecDepth 100000 in
set_option maxHeartbeats 2000000 in
theorem l30Nodes_any (R lo : Nat) (A B : Option Addr) (n c f k cap : Nat) (m mo : Int) (w : World) (h : RdF w R lo A n c (f + 8)) (hm0 : 0 ≤ mo) (hm1 : mo ≤ 4) :
    Calls Try.prog 72 #[.pointer (some ⟨R, 0, none⟩), .agg #[.int .i64 m, .slice B k cap], .int .i64 mo] w (NodesG w R lo A n c f) := by
  have hRw := h.at_
  obtain ⟨i0, hi, hz0, hz1, hz2⟩ := info_parts infoInt
  obtain ⟨V, hV⟩ : ∃ V, V = (w.alloc (.cells #[.int .i64 m, .slice B k cap] 25)).alloc (.cells #[] 3) := ⟨_, rfl⟩
  have hpV : Past w V := by rw [hV]; exact ((Past.refl w).alloc _).alloc _
  have v0 : V.cell? ⟨w.heap.size, 0, none⟩ = some (.int .i64 m) := by rw [hV]; go_simp
  have hsV : V.heap.size = w.heap.size + 1 + 1 := by rw [hV]; simp
  have hres0 : Res V (w.heap.size + 1) (.slice (some ⟨w.heap.size + 1, 0, none⟩) 0 0) [] := by
    refine ⟨rfl, .inr ⟨w.heap.size + 1, 0, #[], rfl, Nat.le_refl _, ?_, Nat.le_refl _, by unfold maxLen; omega, rfl, rfl⟩⟩
    rw [hV]
    have := heap_alloc_new (w.alloc (.cells #[.int .i64 m, .slice B k cap] 25)) (.cells #[] 3)
    simpa using this
  have hrV := h.below hpV
  have HV := Lib.hid hV
  have hne : w.heap.size ≠ R := by omega
  have hw1 : IntKind.i64.wrap (mo + 1) = mo + 1 := IntWalk.i64_in _ (by omega)
  clear hV
  go_enter Try.func72, Try.ntmps72
  go_wp2_with fail
  rw [← HV.out]
  clear HV
  refine (pickF (f := f + 7) _ hrV).mono ?_
  rintro e w1 ⟨k1, rfl, k10, k11, hr1, hg1⟩
  obtain ⟨j1, rfl⟩ : ∃ j : Nat, k1 = j := ⟨k1.toNat, by omega⟩
  have hj1 : j1 ≤ 4 := by omega
  have hres1 := hres0.youngN hg1 (by omega)
  have b0 := cell_far hg1 v0 hne
  have gw1 := grown_trans (grown_of_below hpV (some R)) hg1
  clear hres0 k10 k11
  go_wp2
  go_loopw [7, 8] (fun v q wr => ∃ (j : Nat) (zs : List Int), j + zs.length ≤ 4 ∧ q = .int .i64 j ∧ Res wr (w.heap.size + 1) v zs ∧ RdF wr R lo A n c (f + 2 + j) ∧ wr.cell? ⟨w.heap.size, 0, none⟩ = some (.int .i64 m) ∧ w.grownBy wr (some R)) (fun _ q _ => (intOf q).toNat)
  case atStart => exact ⟨j1, [], by simp; omega, rfl, hres1, hr1.less (by omega), b0, gw1⟩
  case round =>
    clear hres1 b0 hr1 hg1 hrV h
    obtain ⟨j, zs, hjz, rfl, hv, hrd, b0, hgV⟩ := hrel
    have hwr : w.heap.size < wr.heap.size := lt_of_cell b0
    by_cases hj : 0 < j
    · obtain ⟨j', rfl⟩ : ∃ j', j = j' + 1 := ⟨j - 1, by omega⟩
      go_wp2_with fail
      refine (pickF (f := f + 2 + j') _ hrd).mono ?_
      rintro e w3 ⟨z, rfl, _, _, hr3, hg3⟩
      have hv3 := hv.youngN hg3 (by omega)
      have hgV3 := grown_trans hgV hg3
      have b03 := cell_far hg3 b0 hne
      have hs3 := hg3.size
      obtain ⟨D, hD⟩ : ∃ D, D = zs.length := ⟨_, rfl⟩
      unfold Res at hv3
      rw [← hD] at hv3 hjz
      have HD := Lib.hid hD
      have HO := Lib.hid hv3
      have HB := Lib.hid b03
      clear hD hv hv3 b0 b03
      go_wp2_with (first | (at_builtin; refine wpList_append_own _ rfl _ _ 28 rfl (w.heap.size + 1) 3 i0 (.int .i64 0) 1 8 Try.underlying28 hi hz0 hz1 hz2 rfl (by decide) _ D _ rfl (HO.out.alloc _) ⟨w3.heap.size, 0, none⟩ 1 1 [.int .i64 z] rfl rfl (cell_one_new _ _ _) (one_cell z) (by unfold maxLen; omega) (by omega) (by simp; omega) ?_; intro v4 w4 hown' hgrow4 hnil4))
      go_roundw
      case rel => exact ⟨j', zs ++ [z], by rw [List.length_append, ← HD.out]; simp; omega, by go_num, Res.push (by rw [← HD.out]; exact hown'), (hr3.alloc _).own hgrow4 (HO.out.alloc (.cells #[.int .i64 z] 3)) (by omega), hgrow4.cell (cell_in ((Past.refl w3).alloc (.cells #[.int .i64 z] 3)) HB.out) (own_ne (g := w.heap.size) (HO.out.alloc (.cells #[.int .i64 z] 3)) (by omega)), grown_next (grown_trans hgV3 (World.grownBy_alloc w3 _ _)) hgrow4 (fun g e => by have := ((HO.out.alloc (.cells #[.int .i64 z] 3)).lt g e).1; omega)⟩
      case measure => simp [intOf]
    · obtain rfl : j = 0 := by omega
      go_wp2_with fail
      refine (pickF (f := f + 1) 14 hrd).mono ?_
      rintro e w2 ⟨q, rfl, _, _, hr2, hg2⟩
      have b0 := cell_far hg2 b0 hne
      have hv2 := hv.youngN hg2 (by omega)
      have hgV2 := grown_trans hgV hg2
      have gW := hgV2
      have hs2 : w.heap.size < w2.heap.size := lt_of_cell b0
      clear hv hrd hgV hg2
      by_cases hq : q = 0
      · subst hq
        have hR2 := hr2.at_
        go_wp2_with fail
        refine (oneF (f := f) (l := 2) [-1, m] (hr2.alloc _) rfl (by omega) (by omega) (two_at w2 (-1) m) (by omega)).mono ?_
        rintro e w3 ⟨z, rfl, _, hr3, hg3⟩
        have hv3 := (hv2.below ((Past.refl w2).alloc (.cells #[.int .i64 (-1), .int .i64 m] 3))).youngN hg3 (by omega)
        have gW3 := grown_trans (grown_trans gW (World.grownBy_alloc w2 (.cells #[.int .i64 (-1), .int .i64 m] 3) (some R))) hg3
        have hs3 := hg3.size
        rw [World.size_alloc] at hs3
        obtain ⟨D, hD⟩ : ∃ D, D = zs.length := ⟨_, rfl⟩
        unfold Res at hv3
        rw [← hD] at hv3 hjz
        have HD := Lib.hid hD
        have HO := Lib.hid hv3
        clear hD hv2 hv3 b0
        go_wp2_with (first | (at_builtin; refine wpList_append_own _ rfl _ _ 28 rfl (w.heap.size + 1) 3 i0 (.int .i64 0) 1 8 Try.underlying28 hi hz0 hz1 hz2 rfl (by decide) _ D _ rfl (HO.out.alloc _) ⟨w3.heap.size, 0, none⟩ 1 1 [.int .i64 z] rfl rfl (cell_one_new _ _ _) (one_cell z) (by unfold maxLen; omega) (by omega) (by simp; omega) ?_; intro v4 w4 hown' hgrow4 hnil4))
        go_ret
        exact ⟨_, zs ++ [z], rfl, by rw [List.length_append, ← HD.out]; simp; omega, Res.lower (Res.push (by rw [← HD.out]; exact hown')) (by omega), (hr3.alloc _).own hgrow4 (HO.out.alloc (.cells #[.int .i64 z] 3)) (by omega), grown_next (grown_trans gW3 (World.grownBy_alloc w3 _ _)) hgrow4 (fun g e => by have := ((HO.out.alloc (.cells #[.int .i64 z] 3)).lt g e).1; omega)⟩
      · have hq' : (q == 0) = false := by simpa using hq
        clear hq
        go_wp2
        go_ret
        exact ⟨_, zs, rfl, by omega, hv2.lower (by omega), hr2.less (by omega), gW⟩

end Go.Proofs.Ytgeoheeibebmcab

namespace Go.Proofs.Ytgeoheeibebmcab
open Go.RowKit

theorem IntsAt.farN {w : World} {A : Option Addr} {zs : List Int} (h : IntsAt w A zs) (p : Addr) (u : Value) (hne : blk A ≠ some p.block) : IntsAt (w.setCell p u) A zs := fun k a hk => by
  obtain ⟨g, o, rfl, h5⟩ := h k a hk
  exact ⟨g, o, rfl, (World.cell?_setCell_other _ _ _ _ (by intro e; apply hne; rw [e]; rfl)).trans h5⟩

/-- A net and numbers were drawn. -/
def DrawListG (w : World) (e : Ending) (w' : World) : Prop :=
  ∃ (m : Int) (B : Option Addr) (k cap : Nat) (xs : List ArcD) (D : Option Addr) (l cd : Nat) (zs : List Int), e = .returned (.tuple #[.agg #[.int .i64 m, .slice B k cap], .slice D l cd]) ∧ xs.length = k ∧ k ≤ 13 ∧ ArcsAt w' B xs ∧ ((B = none ∧ k = 0) ∨ ∃ g o, B = some ⟨g, o, none⟩) ∧ zs.length = l ∧ l ≤ 5 ∧ IntsAt w' D zs ∧ Below w.heap.size w w'

/-- A net, a number and numbers were drawn. -/
def DrawNumListG (w : World) (e : Ending) (w' : World) : Prop :=
  ∃ (m : Int) (B : Option Addr) (k cap : Nat) (xs : List ArcD) (s : Int) (D : Option Addr) (l cd : Nat) (zs : List Int), e = .returned (.tuple #[.agg #[.int .i64 m, .slice B k cap], .int .i64 s, .slice D l cd]) ∧ xs.length = k ∧ k ≤ 13 ∧ ArcsAt w' B xs ∧ ((B = none ∧ k = 0) ∨ ∃ g o, B = some ⟨g, o, none⟩) ∧ zs.length = l ∧ l ≤ 5 ∧ IntsAt w' D zs ∧ Below w.heap.size w w'

end Go.Proofs.Ytgeoheeibebmcab

namespace Go.Proofs.Ytgeoheeibebmcab
open Go.RowKit

/-- A net, numbers and two numbers were drawn. -/
def DrawMarkG (w : World) (e : Ending) (w' : World) : Prop :=
  ∃ (m : Int) (B : Option Addr) (k cap : Nat) (xs : List ArcD) (D : Option Addr) (l cd : Nat) (zs : List Int) (a b : Int), e = .returned (.tuple #[.agg #[.int .i64 m, .slice B k cap], .slice D l cd, .int .i64 a, .int .i64 b]) ∧ xs.length = k ∧ k ≤ 13 ∧ ArcsAt w' B xs ∧ ((B = none ∧ k = 0) ∨ ∃ g o, B = some ⟨g, o, none⟩) ∧ zs.length = l ∧ l ≤ 5 ∧ IntsAt w' D zs ∧ Below w.heap.size w w' ∧ ((D = none ∧ l = 0 ∧ cd = 0) ∨ ∃ g, D = some ⟨g, 0, none⟩)

set_option maxRecDepth 100000 in
set_option maxHeartbeats 4000000 in
theorem drawMarkBound_any (A : Option Addr) (n c : Nat) (w : World) (hn : n ≤ c) (hc : c ≤ maxLen) (hb : BytesAt w A n) :
    Calls Try.prog 33 #[.slice A n c] w (DrawMarkG w) := by
  have hpV : Past w (w.alloc (.cells #[.int .i64 0, .slice none 0 0] 25)) := (Past.refl w).alloc _
  go_enter Try.func33, Try.ntmps33
  go_wp2_with fail
  refine (open_any A n c _ hn hc (hb.below hpV)).mono ?_
  rintro e w1 ⟨R, n', c', rfl, hR, hrd, hb1⟩
  rw [World.size_alloc] at hR
  have hF : RdF w1 R _ A n' c' (26 + 83) := ⟨0, by omega, hrd⟩
  have r0 : RowN w1 w.heap.size 25 2 := by
    have r : RowN (w.alloc (.cells #[.int .i64 0, .slice none 0 0] 25)) w.heap.size 25 2 := ⟨_, heap_alloc_new w _, rfl⟩
    exact r.keep (hb1.block _ r.lt)
  have hp1 := hpV.trans hb1
  have hR1 := hF.at_
  clear hrd hb1 hpV
  go_wp2_with fail
  refine (l30AnyNet_any R _ A n' c' 26 w1 hF).mono ?_
  rintro e w2 ⟨m, B, k, cap, xs, rfl, hxk, hk, hxB, hoB, hr2, hg2⟩
  have hp2 : Past w w2 := Below.grown hp1 hg2 hp1.size (fun k e => by injection e with e; omega)
  have r2 := r0.young hg2 (by omega)
  have hBR : blk B ≠ some R := hoB.ne_blk hR1
  have hform := ownForm hoB
  have hfar : ∀ g, g < w.heap.size → blk B ≠ some g := fun g hg => hoB.ne_blk (Nat.lt_of_lt_of_le hg hp1.size)
  have hneB : blk B ≠ some w.heap.size := hoB.ne_blk (by omega)
  have s12 := hg2.size
  obtain ⟨W, hW⟩ : ∃ W, W = w2.alloc (.cells #[.int .i64 m, .slice B k cap] 25) := ⟨_, rfl⟩
  have hpW : Past w2 W := by rw [hW]; exact (Past.refl w2).alloc _
  have b0 : W.cell? ⟨w2.heap.size, 0, none⟩ = some (.int .i64 m) := by rw [hW]; go_simp
  have b1 : W.cell? ⟨w2.heap.size, 1, none⟩ = some (.slice B k cap) := by rw [hW]; go_simp
  have hxW := hxB.below hpW
  have hrW := hr2.below hpW
  have r3 := r2.keep (hpW.block _ r2.lt)
  have hp3 := hp2.trans hpW
  have hs2 : w.heap.size < w2.heap.size := r2.lt
  have hNR : w2.heap.size ≠ R := by omega
  have hxBs := hxB.below hpW
  go_upto_region 3 with (fail)
  rw [← hW]
  clear hW hoB hr2 hg2 hxB r0 hF
  go_wp2_with fail
  refine (l30Nodes_any R _ A B n' c' 18 k cap m 3 _ hrW (by omega) (by omega)).mono ?_
  rintro e w3 ⟨v3, zs, rfl, hzl, hv3, hr3, hg3⟩
  have hff : ∃ D cd, v3 = .slice D zs.length cd ∧ IntsAt w3 D zs ∧ OwnAt w3 W.heap.size D 3 1 zs.length ∧ ((D = none ∧ zs.length = 0 ∧ cd = 0) ∨ ∃ g, D = some ⟨g, 0, none⟩) := by
    obtain ⟨D, cd, e1, h1, h2⟩ := hv3.form
    rcases hv3.2 with ⟨e0, h0⟩ | ⟨g, cp, cur, e0, _⟩
    · rw [e0] at e1
      injection e1 with e2 e3 e4
      exact ⟨D, cd, by rw [e0, ← e2, ← e4, h0], h1, h2, .inl ⟨e2.symm, h0, e4.symm⟩⟩
    · rw [e0] at e1
      injection e1 with e2 e3 e4
      exact ⟨D, cd, by rw [e0, ← e2, ← e4], h1, h2, .inr ⟨g, e2.symm⟩⟩
  obtain ⟨D, cd, rfl, hd3, ho3, hDf⟩ := hff
  have hsW := hpW.size
  have hDR : blk D ≠ some R := ho3.ne_blk (by omega)
  have hneD : blk D ≠ some w.heap.size := ho3.ne_blk (by omega)
  have b0 := cell_far hg3 b0 hNR
  have b1 := cell_far hg3 b1 hNR
  have r3 : RowN w3 w.heap.size 25 2 := RowN.young r3 hg3 (by omega)
  have hp3 : Past w w3 := Below.grown hp3 hg3 hp3.size (fun k e => by injection e with e; omega)
  have hxW := hxW.grown hg3 (fun b e => by injection e with e; rw [← e]; exact hBR)
  have hrW := hr3
  obtain ⟨L, hL⟩ : ∃ L, L = zs.length := ⟨_, rfl⟩
  rw [← hL] at hzl hDf ⊢
  have HL := Lib.hid hL.symm
  clear hg3 hr3 hv3 ho3 hL
  go_wp2_with fail
  refine (l30Node_any R _ A B n' c' 16 k cap m _ hrW).mono ?_
  rintro e w4 ⟨zA, rfl, hr4, hg4⟩
  have b0 := cell_far hg4 b0 hNR
  have b1 := cell_far hg4 b1 hNR
  have r3 : RowN w4 w.heap.size 25 2 := RowN.young r3 hg4 (by omega)
  have hp3 : Past w w4 := Below.grown hp3 hg4 hp3.size (fun k e => by injection e with e; omega)
  have hxW := hxW.grown hg4 (fun b e => by injection e with e; rw [← e]; exact hBR)
  have hd4 := hd3.grown hg4 (fun b e => by injection e with e; rw [← e]; exact hDR)
  have hrW := hr4
  obtain ⟨W4, hW4⟩ : ∃ W4, W4 = w4 := ⟨_, rfl⟩
  subst hW4
  clear hg4 hr4 hxBs
  go_upto_region 5 with (fail)
  have hq0 : ∀ (u : World) (j : Nat) (x : Value), (u.setCell ⟨w.heap.size, j, none⟩ x).cell? ⟨w2.heap.size, 0, none⟩ = u.cell? ⟨w2.heap.size, 0, none⟩ := fun u j x => World.cell?_setCell_other _ _ _ _ (by intro e; injection e; omega)
  have hq1 : ∀ (u : World) (j : Nat) (x : Value), (u.setCell ⟨w.heap.size, j, none⟩ x).cell? ⟨w2.heap.size, 1, none⟩ = u.cell? ⟨w2.heap.size, 1, none⟩ := fun u j x => World.cell?_setCell_other _ _ _ _ (by intro e; injection e; omega)
  go_region_held3 (fun w' => w'.cell? ⟨w2.heap.size, 0, none⟩ = some (.int .i64 m) ∧ w'.cell? ⟨w2.heap.size, 1, none⟩ = some (.slice B k cap))
    (first | go_keep | (simp only [hq0, hq1]; assumption))
    (first
      | (go_at_call 54; refine (l30Node_any R _ A B n' c' 14 k cap m _ hrW.drew).mono ?_; rintro e w5 ⟨z, rfl, hr5, hg5⟩; have b0 := cell_far hg5 b0 hNR; have b1 := cell_far hg5 b1 hNR; have r5 : RowN w5 w.heap.size 25 2 := RowN.young (w := W4.drew) r3 hg5 (by omega); obtain ⟨y0, e0⟩ := r5.cell (i := 0) (by omega); obtain ⟨y1, e1⟩ := r5.cell (i := 1) (by omega); have z0 := r5.frozen 0; have z1 := r5.frozen 1))
  have hp5 : Past w w5 := Below.grown hp3.drew hg5 hp3.size (fun k e => by injection e with e; omega)
  have hx5 := ((hxW.drew.grown hg5 (fun b e => by injection e with e; rw [← e]; exact hBR)).far ⟨w.heap.size, 0, none⟩ (.int .i64 m) hneB).far ⟨w.heap.size, 1, none⟩ (.slice B k cap) hneB
  have hd6 := ((hd4.drew.grown hg5 (fun b e => by injection e with e; rw [← e]; exact hDR)).farN ⟨w.heap.size, 0, none⟩ (.int .i64 m) hneD).farN ⟨w.heap.size, 1, none⟩ (.slice B k cap) hneD
  have hbel := Below.setCell (Below.setCell hp5 (p := ⟨w.heap.size, 0, none⟩) (by simp) (.int .i64 m)) (p := ⟨w.heap.size, 1, none⟩) (by simp) (.slice B k cap)
  clear hg5 hr5
  go_wp2
  exact bodyPost_ret (v := .tuple #[.agg #[.int .i64 m, .slice B k cap], .slice D L cd, .int .i64 zA, .int .i64 z]) (by simp [results, Try.results33, go_sem, e0, e1]) rfl ⟨m, B, k, cap, xs, D, L, cd, zs, zA, z, rfl, hxk, hk, hx5, hform, HL.out, hzl, hd6, hbel, hDf⟩

end Go.Proofs.Ytgeoheeibebmcab

namespace Go.Proofs.Ytgeoheeibebmcab
open Go.RowKit

/-- What can be reached costs little. -/
theorem nearL_small {m : Nat} {xs : List ArcD} {s v : Int} (hm : m ≤ 17) (hx : ArcsIn m xs) (hs : 0 ≤ s ∧ s < m) (hv : 0 ≤ v ∧ v < m) (h : at_ (nearL m xs s) v ≠ 99999) : at_ (nearL m xs s) v ≤ 11200 := by
  obtain ⟨_, h2⟩ := (nearL_sound hx hs).2 v hv.1 hv.2
  rcases h2 with h2 | ⟨l, h2⟩
  · exact absurd h2 h
  · obtain ⟨c2, l2, h1, _, _, h4⟩ := h2.simple hx
    have hf := h1.few hx hs h4
    have hc := h1.cost hx
    have := nearL_le hm hx hs h1
    omega

theorem near_tri {m : Nat} {xs : List ArcD} {s u v : Int} (hm : m ≤ 17) (hx : ArcsIn m xs) (hs : 0 ≤ s ∧ s < m) (hu : 0 ≤ u ∧ u < m) (hv : 0 ≤ v ∧ v < m) : at_ (nearL m xs s) v ≤ at_ (nearL m xs s) u + at_ (nearL m xs u) v := by
  have b1 := nearL_bound hx hs hu
  have b2 := nearL_bound hx hu hv
  have b3 := nearL_bound hx hs hv
  by_cases h1 : at_ (nearL m xs s) u < farI
  · by_cases h2 : at_ (nearL m xs u) v < farI
    · exact near_over hm hx hs hu hv h1 h2
    · omega
  · omega

/-- How much more one distance is than another one. -/
def surI (a b : Int) : Int := if b = 99999 then 0 else if 49999 < a - b then 99999 else a - b
/-- What is known of one mark: d from it, b to it. -/
def lessM (d b : List Int) (f t : Int) : Int :=
  let p := if at_ d f < 99999 ∧ 0 < at_ d t - at_ d f then at_ d t - at_ d f else 0
  let q := if at_ b t < 99999 ∧ p < at_ b f - at_ b t then at_ b f - at_ b t else p
  if 49999 < q then 99999 else q
theorem sur_less {d b : List Int} {f t z : Int} (h1 : 0 ≤ at_ d f ∧ at_ d f ≤ 99999) (h2 : 0 ≤ at_ d t ∧ at_ d t ≤ 99999) (h3 : 0 ≤ at_ b f ∧ at_ b f ≤ 99999) (h4 : 0 ≤ at_ b t ∧ at_ b t ≤ 99999) (hz : 0 ≤ z) :
    max (max z (surI (at_ d t) (at_ d f))) (surI (at_ b f) (at_ b t)) = max z (lessM d b f t) := by
  unfold surI lessM
  simp only
  split <;> split <;> (repeat' split) <;> omega
theorem lessM_bound {d b : List Int} {f t : Int} (_h1 : 0 ≤ at_ d f ∧ at_ d f ≤ 99999) (_h2 : 0 ≤ at_ d t ∧ at_ d t ≤ 99999) (_h3 : 0 ≤ at_ b f ∧ at_ b f ≤ 99999) (_h4 : 0 ≤ at_ b t ∧ at_ b t ≤ 99999) :
    0 ≤ lessM d b f t ∧ lessM d b f t ≤ 99999 := by
  unfold lessM
  simp only
  repeat' split
  all_goals omega

/-- What is known of the first k marks. -/
def boundTo (M : Nat) (xs : List ArcD) (ks : List Int) (f t : Int) : Nat → Int
  | 0 => 0
  | k + 1 => max (boundTo M xs ks f t k) (lessM (nearL M xs (at_ ks (k : Int))) (nearL M (xs.map flip) (at_ ks (k : Int))) f t)
def boundI (m : Int) (xs : List ArcD) (ks : List Int) (f t : Int) : Int := if listB m xs ks && (inB f 0 (m - 1) && inB t 0 (m - 1)) then boundTo m.toNat xs ks f t ks.length else -1

theorem at_mem {ks : List Int} {k : Nat} (h : k < ks.length) : at_ ks (k : Int) ∈ ks := by
  have : at_ ks (k : Int) = ks[k] := by simp [at_, h]
  rw [this]
  exact List.getElem_mem h

section
variable {M : Nat} {xs : List ArcD} {ks : List Int} {f t : Int}
theorem four (hx : ArcsIn M xs) (hf : 0 ≤ f ∧ f < M) (ht : 0 ≤ t ∧ t < M) {s : Int} (hs : 0 ≤ s ∧ s < M) :
    (0 ≤ at_ (nearL M xs s) f ∧ at_ (nearL M xs s) f ≤ 99999) ∧ (0 ≤ at_ (nearL M xs s) t ∧ at_ (nearL M xs s) t ≤ 99999) ∧ (0 ≤ at_ (nearL M (xs.map flip) s) f ∧ at_ (nearL M (xs.map flip) s) f ≤ 99999) ∧ (0 ≤ at_ (nearL M (xs.map flip) s) t ∧ at_ (nearL M (xs.map flip) s) t ≤ 99999) :=
  ⟨nearL_bound hx hs hf, nearL_bound hx hs ht, nearL_bound (arcsIn_back hx) hs hf, nearL_bound (arcsIn_back hx) hs ht⟩
theorem boundTo_bound (hx : ArcsIn M xs) (hk : ∀ y ∈ ks, 0 ≤ y ∧ y < M) (hf : 0 ≤ f ∧ f < M) (ht : 0 ≤ t ∧ t < M) : ∀ k, k ≤ ks.length → 0 ≤ boundTo M xs ks f t k ∧ boundTo M xs ks f t k ≤ 99999
  | 0, _ => by unfold boundTo; omega
  | k + 1, h => by
    have ih := boundTo_bound hx hk hf ht k (by omega)
    obtain ⟨h1, h2, h3, h4⟩ := four hx hf ht (hk _ (at_mem (ks := ks) (k := k) (by omega)))
    have := lessM_bound h1 h2 h3 h4
    unfold boundTo
    omega
/-- One mark says no more than what it costs. -/
theorem lessM_le (hM : M ≤ 17) (hx : ArcsIn M xs) (hf : 0 ≤ f ∧ f < M) (ht : 0 ≤ t ∧ t < M) {s : Int} (hs : 0 ≤ s ∧ s < M) :
    lessM (nearL M xs s) (nearL M (xs.map flip) s) f t ≤ at_ (nearL M xs f) t := by
  obtain ⟨h1, h2, h3, h4⟩ := four hx hf ht hs
  have c1 := near_tri hM hx hs hf ht
  have c2 := near_tri hM hx hf ht hs
  have e1 := near_back hM hx hf hs
  have e2 := near_back hM hx ht hs
  have b0 := nearL_bound hx hf ht
  have s1 := fun h => nearL_small hM hx hs hf h
  have s2 := fun h => nearL_small hM (arcsIn_back hx) hs ht h
  have s3 := fun h => nearL_small hM hx hf ht h
  unfold lessM
  simp only
  unfold farI at *
  rw [e1, e2] at c2
  repeat' split
  all_goals omega
theorem boundTo_le (hM : M ≤ 17) (hx : ArcsIn M xs) (hk : ∀ y ∈ ks, 0 ≤ y ∧ y < M) (hf : 0 ≤ f ∧ f < M) (ht : 0 ≤ t ∧ t < M) : ∀ k, k ≤ ks.length → boundTo M xs ks f t k ≤ at_ (nearL M xs f) t
  | 0, _ => by
    have := nearL_bound hx hf ht
    unfold boundTo
    omega
  | k + 1, h => by
    have ih := boundTo_le hM hx hk hf ht k (by omega)
    have := lessM_le hM hx hf ht (hk _ (at_mem (ks := ks) (k := k) (by omega)))
    unfold boundTo
    omega
/-- The first node as a mark says what it costs. -/
theorem lessM_self (hM : M ≤ 17) (hx : ArcsIn M xs) (hf : 0 ≤ f ∧ f < M) (ht : 0 ≤ t ∧ t < M) :
    lessM (nearL M xs f) (nearL M (xs.map flip) f) f t = at_ (nearL M xs f) t := by
  have hle := lessM_le hM hx hf ht hf
  obtain ⟨h1, h2, h3, h4⟩ := four hx hf ht hf
  have e0 := nearL_start hM hx hf
  have e1 := nearL_start hM (arcsIn_back hx) hf
  have s3 := fun h => nearL_small hM hx hf ht h
  unfold lessM at hle ⊢
  simp only at hle ⊢
  rw [e0, e1] at hle ⊢
  repeat' split at hle
  all_goals (repeat' split) <;> omega
theorem boundTo_app (js : List Int) : ∀ k, k ≤ ks.length → boundTo M xs (ks ++ js) f t k = boundTo M xs ks f t k
  | 0, _ => rfl
  | k + 1, h => by
    have ih := boundTo_app js k (by omega)
    have e : at_ (ks ++ js) (k : Int) = at_ ks (k : Int) := by simp [at_, List.getD_eq_getElem?_getD, List.getElem?_append_left (show k < ks.length by omega)]
    rw [boundTo, boundTo, ih, e]
theorem boundTo_with (hM : M ≤ 17) (hx : ArcsIn M xs) (hk : ∀ y ∈ ks, 0 ≤ y ∧ y < M) (hf : 0 ≤ f ∧ f < M) (ht : 0 ≤ t ∧ t < M) : boundTo M xs (ks ++ [f]) f t (ks.length + 1) = at_ (nearL M xs f) t := by
  have hle := boundTo_le hM hx hk hf ht ks.length (Nat.le_refl _)
  have e : at_ (ks ++ [f]) ((ks.length : Nat) : Int) = f := by simp [at_]
  rw [boundTo, boundTo_app _ _ (Nat.le_refl _), e, lessM_self hM hx hf ht]
  omega
/-- Over an arc. -/
theorem lessM_arc (hM : M ≤ 17) (hx : ArcsIn M xs) (ht : 0 ≤ t ∧ t < M) {s : Int} (hs : 0 ≤ s ∧ s < M) {a : ArcD} (ha : a ∈ xs) (hfar : lessM (nearL M xs s) (nearL M (xs.map flip) s) a.t t < 99999) :
    lessM (nearL M xs s) (nearL M (xs.map flip) s) a.f t ≤ a.c + lessM (nearL M xs s) (nearL M (xs.map flip) s) a.t t := by
  have hb := hx a ha
  have hf : 0 ≤ a.f ∧ a.f < M := ⟨hb.1, hb.2.1⟩
  have hg : 0 ≤ a.t ∧ a.t < M := ⟨hb.2.2.1, hb.2.2.2.1⟩
  obtain ⟨h1, h2, h3, h4⟩ := four hx hf ht hs
  obtain ⟨g1, _, g3, _⟩ := four hx hg ht hs
  have c1 : at_ (nearL M xs s) a.f < 99999 → at_ (nearL M xs s) a.t ≤ at_ (nearL M xs s) a.f + a.c := fun h => nearL_arc hM hx hs ha h
  have c2 : at_ (nearL M (xs.map flip) s) a.t < 99999 → at_ (nearL M (xs.map flip) s) a.f ≤ at_ (nearL M (xs.map flip) s) a.t + a.c := fun h => nearL_arc hM (arcsIn_back hx) hs (a := flip a) (List.mem_map_of_mem ha) h
  have s1 := fun h => nearL_small hM hx hs hf h
  have s2 := fun h => nearL_small hM hx hs hg h
  have s3 := fun h => nearL_small hM hx hs ht h
  have r1 := fun h => nearL_small hM (arcsIn_back hx) hs hf h
  have r2 := fun h => nearL_small hM (arcsIn_back hx) hs hg h
  have r3 := fun h => nearL_small hM (arcsIn_back hx) hs ht h
  unfold lessM at hfar ⊢
  simp only at hfar ⊢
  repeat' split at hfar
  all_goals (repeat' split) <;> omega
theorem boundTo_arc (hM : M ≤ 17) (hx : ArcsIn M xs) (hk : ∀ y ∈ ks, 0 ≤ y ∧ y < M) (ht : 0 ≤ t ∧ t < M) {a : ArcD} (ha : a ∈ xs) : ∀ k, k ≤ ks.length → boundTo M xs ks a.t t k < 99999 → boundTo M xs ks a.f t k ≤ a.c + boundTo M xs ks a.t t k
  | 0, _, _ => by
    have := hx a ha
    unfold boundTo
    omega
  | k + 1, h, hb => by
    have hs := hk _ (at_mem (ks := ks) (k := k) (by omega))
    unfold boundTo at hb ⊢
    have ih := boundTo_arc hM hx hk ht ha k (by omega) (by omega)
    have := lessM_arc hM hx ht hs ha (by omega)
    omega
theorem boundTo_self (hx : ArcsIn M xs) : ∀ k, boundTo M xs ks t t k = 0
  | 0 => rfl
  | k + 1 => by
    rw [boundTo, boundTo_self hx k]
    unfold lessM
    simp only [Int.sub_self]
    simp
end

end Go.Proofs.Ytgeoheeibebmcab

namespace Go.Proofs.Ytgeoheeibebmcab
open Go.RowKit

set_option maxRecDepth 100000 in
set_option maxHeartbeats 2000000 in
theorem l12Less_any (M : Nat) (A : Option Addr) (n c : Nat) (xs : List ArcD) (k f t : Int) (w : World) (hM : M ≤ 8) (hn : n ≤ 16) (hnx : xs.length = n) (hx : ArcsAt w A xs) (hB : netB (M : Int) xs = true) (hk : 0 ≤ k ∧ k < M) (hf : 0 ≤ f ∧ f < M) (ht : 0 ≤ t ∧ t < M) :
    Calls Try.prog 114 #[.agg #[.int .i64 (M : Int), .slice A n c], .int .i64 k, .int .i64 f, .int .i64 t] w fun e w' => e = .returned (.int .i64 (lessM (nearL M xs k) (nearL M (xs.map flip) k) f t)) ∧ Below w.heap.size w w' := by
  have HX := Lib.hid hnx
  have HB := Lib.hid hB
  clear hnx hB
  have hb0 : Past w (w.alloc (.cells #[.int .i64 (M : Int), .slice A n c] 25)) := (Past.refl _).alloc _
  go_enter Try.func114, Try.ntmps114
  go_wp2_with fail
  refine (l3All_any M k A n c xs _ hM HX.out (by omega) (hx.below hb0) (arcsIn_net HB.out) hk).mono ?_
  rintro e w1 ⟨v1, rfl, hv1, hb1⟩
  obtain ⟨D, cd, rfl, hd1, _⟩ := hv1.form
  rw [nearL_length]
  obtain ⟨d, hd⟩ : ∃ d, d = nearL M xs k := ⟨_, rfl⟩
  rw [← hd] at hd1
  have HD := Lib.hid hd
  have hx1 := (hx.below hb0).below hb1
  have b0 := cell_in (p := ⟨w.heap.size, 0, none⟩) (v := .int .i64 (M : Int)) hb1 (by go_simp)
  have b1 := cell_in (p := ⟨w.heap.size, 1, none⟩) (v := .slice A n c) hb1 (by go_simp)
  clear hv1
  go_wp2_with fail
  refine (l1Back_any (M : Int) A n c xs _ hn HX.out hx1).mono ?_
  rintro e w2 ⟨A2, c2, rfl, hx2, _, hb2⟩
  obtain ⟨N2, hN2⟩ : ∃ N2, (xs.map flip).length = N2 := ⟨_, rfl⟩
  have h2 : N2 ≤ 16 := by rw [← hN2, List.length_map, HX.out]; exact hn
  rw [hN2]
  have HN2 := Lib.hid hN2
  clear hN2
  go_wp2_with fail
  refine (l3All_any M k A2 N2 c2 (xs.map flip) _ hM HN2.out (by omega) hx2 (arcsIn_net (netB_flip' HB.out)) hk).mono ?_
  rintro e w3 ⟨v3, rfl, hv3, hb3⟩
  obtain ⟨E, ce, rfl, he3, _⟩ := hv3.form
  rw [nearL_length]
  obtain ⟨b, hb⟩ : ∃ b, b = nearL M (xs.map flip) k := ⟨_, rfl⟩
  rw [← hb] at he3
  have HE := Lib.hid hb
  have hd3 := (hd1.below hb2).below hb3
  have hp : Past w w3 := hb0.trans (Past.trans hb1 (Past.trans hb2 hb3))
  obtain ⟨q1, q2, q3, q4⟩ := four (arcsIn_net HB.out) hf ht hk
  rw [← hd] at q1 q2
  rw [← hb] at q3 q4
  have hdl : d.length = M := by rw [hd, nearL_length]
  have hbl : b.length = M := by rw [hb, nearL_length]
  obtain ⟨x1, hx1'⟩ : ∃ x, x = at_ d f := ⟨_, rfl⟩
  obtain ⟨x2, hx2'⟩ : ∃ x, x = at_ d t := ⟨_, rfl⟩
  obtain ⟨x3, hx3'⟩ : ∃ x, x = at_ b f := ⟨_, rfl⟩
  obtain ⟨x4, hx4'⟩ : ∃ x, x = at_ b t := ⟨_, rfl⟩
  have e1 := getElem_at d f.toNat (by omega)
  have e2 := getElem_at d t.toNat (by omega)
  have e3 := getElem_at b f.toNat (by omega)
  have e4 := getElem_at b t.toNat (by omega)
  rw [Int.toNat_of_nonneg hf.1] at e1 e3
  rw [Int.toNat_of_nonneg ht.1] at e2 e4
  obtain ⟨g, o, rfl, d0⟩ := hd3 _ _ e1
  obtain ⟨g', o', eg, d1⟩ := hd3 _ _ e2
  injection eg with eg; injection eg with eg1 eg2; subst eg1 eg2
  obtain ⟨h, r, rfl, f0⟩ := he3 _ _ e3
  obtain ⟨h', r', eh, f1⟩ := he3 _ _ e4
  injection eh with eh; injection eh with eh1 eh2; subst eh1 eh2
  have HL : Hid (lessM d b f t = (let p := if x1 < 99999 ∧ 0 < x2 - x1 then x2 - x1 else 0
    let q := if x4 < 99999 ∧ p < x3 - x4 then x3 - x4 else p
    if 49999 < q then 99999 else q)) := by rw [Hid, lessM, hx1', hx2', hx3', hx4']
  rw [← hx1'] at q1 d0
  rw [← hx2'] at q2 d1
  rw [← hx3'] at q3 f0
  rw [← hx4'] at q4 f1
  have t1 : IntKind.i64.wrap (x2 - x1) = x2 - x1 := IntWalk.i64_in _ (by omega)
  have t2 : IntKind.i64.wrap (x3 - x4) = x3 - x4 := IntWalk.i64_in _ (by omega)
  have i0 := hf.1
  have i1 := hf.2
  have i2 := ht.1
  have i3 := ht.2
  clear hd hb hx1' hx2' hx3' hx4' e1 e2 e3 e4 hd3 he3 hv3 hd1 hx1 hx2 hdl hbl
  have hfin : ∀ (y : Int), lessM d b f t = y → ∀ W, Past w3 W → (Ending.returned (.int .i64 y) = Ending.returned (.int .i64 (lessM (nearL M xs k) (nearL M (xs.map flip) k) f t)) ∧ Below w.heap.size w W) := fun y h W hW => ⟨ret_int (by rw [← HD.out, ← HE.out, h]), hp.trans hW⟩
  have FIN := Lib.hid hfin
  clear hfin hp
  by_cases c1 : x1 < 99999
  · by_cases c2 : 0 < x2 - x1
    · skip
      by_cases c3 : x4 < 99999
      · by_cases c4 : x2 - x1 < x3 - x4
        · skip
          by_cases c5 : 49999 < x3 - x4
          · go_wp2_with fail
            go_quiet (fail)
            go_wp2_with fail
            go_quiet (fail)
            go_wp2_with fail
            go_quiet (fail)
            go_wp2_with fail
            go_quiet (fail)
            go_wp2
            go_ret
            exact FIN.out (99999) (by rw [HL.out]; (try simp only); (repeat' split) <;> omega) _ ((Past.refl w3).drewN _)
          · go_wp2_with fail
            go_quiet (fail)
            go_wp2_with fail
            go_quiet (fail)
            go_wp2_with fail
            go_quiet (fail)
            go_wp2_with fail
            go_quiet (fail)
            go_wp2
            go_ret
            exact FIN.out (x3 - x4) (by rw [HL.out]; (try simp only); (repeat' split) <;> omega) _ ((Past.refl w3).drewN _)
        · skip
          by_cases c5 : 49999 < x2 - x1
          · go_wp2_with fail
            go_quiet (fail)
            go_wp2_with fail
            go_quiet (fail)
            go_wp2_with fail
            go_quiet (fail)
            go_wp2
            go_ret
            exact FIN.out (99999) (by rw [HL.out]; (try simp only); (repeat' split) <;> omega) _ ((Past.refl w3).drewN _)
          · go_wp2_with fail
            go_quiet (fail)
            go_wp2_with fail
            go_quiet (fail)
            go_wp2_with fail
            go_quiet (fail)
            go_wp2
            go_ret
            exact FIN.out (x2 - x1) (by rw [HL.out]; (try simp only); (repeat' split) <;> omega) _ ((Past.refl w3).drewN _)
      · have g3 : decide (x4 < 99999) = false := decide_eq_false c3
        by_cases c5 : 49999 < x2 - x1
        · go_wp2_with fail
          go_quiet (fail)
          go_wp2_with fail
          go_quiet (fail)
          go_wp2_with fail
          go_quiet (fail)
          go_wp2
          go_ret
          exact FIN.out (99999) (by rw [HL.out]; (try simp only); (repeat' split) <;> omega) _ ((Past.refl w3).drewN _)
        · go_wp2_with fail
          go_quiet (fail)
          go_wp2_with fail
          go_quiet (fail)
          go_wp2_with fail
          go_quiet (fail)
          go_wp2
          go_ret
          exact FIN.out (x2 - x1) (by rw [HL.out]; (try simp only); (repeat' split) <;> omega) _ ((Past.refl w3).drewN _)
    · skip
      by_cases c3 : x4 < 99999
      · by_cases c4 : 0 < x3 - x4
        · skip
          by_cases c5 : 49999 < x3 - x4
          · go_wp2_with fail
            go_quiet (fail)
            go_wp2_with fail
            go_quiet (fail)
            go_wp2_with fail
            go_quiet (fail)
            go_wp2
            go_ret
            exact FIN.out (99999) (by rw [HL.out]; (try simp only); (repeat' split) <;> omega) _ ((Past.refl w3).drewN _)
          · go_wp2_with fail
            go_quiet (fail)
            go_wp2_with fail
            go_quiet (fail)
            go_wp2_with fail
            go_quiet (fail)
            go_wp2
            go_ret
            exact FIN.out (x3 - x4) (by rw [HL.out]; (try simp only); (repeat' split) <;> omega) _ ((Past.refl w3).drewN _)
        · skip
          go_wp2_with fail
          go_quiet (fail)
          go_wp2_with fail
          go_quiet (fail)
          go_wp2
          go_ret
          exact FIN.out (0) (by rw [HL.out]; (try simp only); (repeat' split) <;> omega) _ ((Past.refl w3).drewN _)
      · have g3 : decide (x4 < 99999) = false := decide_eq_false c3
        go_wp2_with fail
        go_quiet (fail)
        go_wp2_with fail
        go_quiet (fail)
        go_wp2
        go_ret
        exact FIN.out (0) (by rw [HL.out]; (try simp only); (repeat' split) <;> omega) _ ((Past.refl w3).drewN _)
  · have g1 : decide (x1 < 99999) = false := decide_eq_false c1
    by_cases c3 : x4 < 99999
    · by_cases c4 : 0 < x3 - x4
      · skip
        by_cases c5 : 49999 < x3 - x4
        · go_wp2_with fail
          go_quiet (fail)
          go_wp2_with fail
          go_quiet (fail)
          go_wp2_with fail
          go_quiet (fail)
          go_wp2
          go_ret
          exact FIN.out (99999) (by rw [HL.out]; (try simp only); (repeat' split) <;> omega) _ ((Past.refl w3).drewN _)
        · go_wp2_with fail
          go_quiet (fail)
          go_wp2_with fail
          go_quiet (fail)
          go_wp2_with fail
          go_quiet (fail)
          go_wp2
          go_ret
          exact FIN.out (x3 - x4) (by rw [HL.out]; (try simp only); (repeat' split) <;> omega) _ ((Past.refl w3).drewN _)
      · skip
        go_wp2_with fail
        go_quiet (fail)
        go_wp2_with fail
        go_quiet (fail)
        go_wp2
        go_ret
        exact FIN.out (0) (by rw [HL.out]; (try simp only); (repeat' split) <;> omega) _ ((Past.refl w3).drewN _)
    · have g3 : decide (x4 < 99999) = false := decide_eq_false c3
      go_wp2_with fail
      go_quiet (fail)
      go_wp2_with fail
      go_quiet (fail)
      go_wp2
      go_ret
      exact FIN.out (0) (by rw [HL.out]; (try simp only); (repeat' split) <;> omega) _ ((Past.refl w3).drewN _)

set_option maxRecDepth 100000 in
set_option maxHeartbeats 1000000 in
theorem l12Bound_any (M : Nat) (A : Option Addr) (n c : Nat) (xs : List ArcD) (B : Option Addr) (l cb : Nat) (ks : List Int) (f t : Int) (w : World) (hM : M ≤ 8) (hn : n ≤ 16) (hnx : xs.length = n) (hx : ArcsAt w A xs) (hB : netB (M : Int) xs = true) (hl : l ≤ 8) (hlk : ks.length = l) (hk : IntsAt w B ks) (hin : ∀ y ∈ ks, 0 ≤ y ∧ y < (M : Int)) (hf : 0 ≤ f ∧ f < M) (ht : 0 ≤ t ∧ t < M) :
    Calls Try.prog 76 #[.agg #[.int .i64 (M : Int), .slice A n c], .slice B l cb, .int .i64 f, .int .i64 t] w fun e w' => e = .returned (.int .i64 (boundTo M xs ks f t l)) ∧ Below w.heap.size w w' := by
  have HX := Lib.hid hnx
  have HB := Lib.hid hB
  have HK := Lib.hid hlk
  have HIN := Lib.hid hin
  clear hnx hB hlk hin
  have hb0 : Past w (w.alloc (.cells #[.int .i64 (M : Int), .slice A n c] 25)) := (Past.refl _).alloc _
  go_enter Try.func76, Try.ntmps76
  go_wp2
  go_loopw [9, 10] (fun b i wr => ∃ k : Nat, k ≤ l ∧ i = .int .i64 k ∧ b = .int .i64 (boundTo M xs ks f t k) ∧ Past (w.alloc (.cells #[.int .i64 (M : Int), .slice A n c] 25)) wr) (fun _ i _ => l - (intOf i).toNat)
  case atStart => exact ⟨0, by omega, rfl, rfl, Past.refl _⟩
  case round =>
    obtain ⟨k, hkl, rfl, rfl, hb⟩ := hrel
    have b0 := cell_in (p := ⟨w.heap.size, 0, none⟩) (v := .int .i64 (M : Int)) hb (by go_simp)
    have b1 := cell_in (p := ⟨w.heap.size, 1, none⟩) (v := .slice A n c) hb (by go_simp)
    by_cases hlt : k < l
    · obtain ⟨y, ha⟩ : ∃ a, ks[k]? = some a := ⟨_, List.getElem?_eq_getElem (by have := HK.out; omega)⟩
      obtain ⟨g, o, rfl, c0⟩ := ((hk.below hb0).below hb) k _ ha
      have hyb := HIN.out y (List.mem_of_getElem? ha)
      have HY : Hid (at_ ks (k : Int) = y) := by rw [Hid, at_, Int.toNat_natCast, List.getD_eq_getElem?_getD, ha]; rfl
      have i0 : (0 : Int) ≤ (k : Int) := by omega
      have i1 : (k : Int) < (l : Int) := by omega
      clear ha
      obtain ⟨z, hz⟩ : ∃ z, z = lessM (nearL M xs y) (nearL M (xs.map flip) y) f t := ⟨_, rfl⟩
      obtain ⟨b, hbb⟩ : ∃ b, b = boundTo M xs ks f t k := ⟨_, rfl⟩
      have HS : Hid (boundTo M xs ks f t (k + 1) = max b z) := by rw [Hid, boundTo, HY.out, hz, hbb]
      have C1 : Hid (∀ q : PastOf wr, Calls Try.prog 114 #[.agg #[.int .i64 (M : Int), .slice A n c], .int .i64 y, .int .i64 f, .int .i64 t] q.W fun e w' => e = .returned (.int .i64 z) ∧ Below q.W.heap.size q.W w') := fun q => by
        rw [hz]
        exact l12Less_any M A n c xs y f t _ hM hn HX.out (((hx.below hb0).below hb).below q.h) HB.out hyb hf ht
      have B0 := past_cell b0
      have B1 := past_cell b1
      have C0 := past_cell c0
      rw [← hbb]
      clear hz hbb b0 b1 c0
      go_wp2_with fail
      refine wp_region_past (by kernel_rfl) (by kernel_rfl) ?_
      repeat (quiet_step (with_reducible exact rfl))
      quiet_step ((go_at_call 114; exact past_call (C1.out _)))
      repeat (quiet_step (with_reducible exact rfl))
      refine wpQuiet_nil ?_
      rintro _ ⟨⟨W8, hW8⟩, rfl⟩
      have hb := hb.trans hW8
      by_cases hlz : b < z
      · have HS : Hid (boundTo M xs ks f t (k + 1) = z) := by rw [Hid, HS.out]; omega
        go_wp2
        go_roundw
        case rel => exact ⟨k + 1, by omega, by go_num, by rw [HS.out], hb⟩
        case measure => simp [intOf]; omega
      · have HS : Hid (boundTo M xs ks f t (k + 1) = b) := by rw [Hid, HS.out]; omega
        go_wp2
        go_roundw
        case rel => exact ⟨k + 1, by omega, by go_num, by rw [HS.out], hb⟩
        case measure => simp [intOf]; omega
    · obtain rfl : l = k := by omega
      go_wp2
      go_ret
      exact ⟨rfl, hb0.trans hb⟩

set_option maxRecDepth 100000 in
set_option maxHeartbeats 1000000 in
theorem specMarkBound_any (m : Int) (A : Option Addr) (n c : Nat) (xs : List ArcD) (B : Option Addr) (l cb : Nat) (ks : List Int) (f t : Int) (w : World) (hn : n ≤ 1048576) (hnx : xs.length = n) (hx : ArcsAt w A xs) (hl : l ≤ 1048576) (hlk : ks.length = l) (hk : IntsAt w B ks) :
    Calls Try.prog 35 #[.agg #[.int .i64 m, .slice A n c], .slice B l cb, .int .i64 f, .int .i64 t] w fun e w' => e = .returned (.int .i64 (boundI m xs ks f t)) ∧ Below w.heap.size w w' := by
  have HX := Lib.hid hnx
  have HK := Lib.hid hlk
  clear hnx hlk
  have hb0 : Past w (w.alloc (.cells #[.int .i64 m, .slice A n c] 25)) := (Past.refl _).alloc _
  go_enter Try.func35, Try.ntmps35
  go_wp2_with fail
  refine (l1Ok_any m A n c xs _ hn HX.out (hx.below hb0)).mono ?_
  rintro e w1 ⟨rfl, hb1⟩
  have b0 := cell_in (p := ⟨w.heap.size, 0, none⟩) (v := .int .i64 m) hb1 (by go_simp)
  have b1 := cell_in (p := ⟨w.heap.size, 1, none⟩) (v := .slice A n c) hb1 (by go_simp)
  have hp1 := hb0.trans hb1
  have hx1 := hx.below hp1
  have hk1 := hk.below hp1
  clear hb0 hb1 hx hk
  cases hB : netB m xs with
  | false =>
    have HB := Lib.hid hB
    clear hB
    go_wp2
    go_ret
    exact ⟨ret_int (by simp [boundI, listB, HB.out]), hp1⟩
  | true =>
    obtain ⟨M, rfl, h1, h8⟩ := here_nat hB
    have HB := Lib.hid hB
    clear hB
    have hw : IntKind.i64.wrap ((M : Int) - 1) = (M : Int) - 1 := IntWalk.i64_in _ (by omega)
    go_wp2_with fail
    refine (l11Nodes_any (M : Int) A n c B l cb ks _ ⟨by omega, by omega⟩ hl HK.out hk1).mono ?_
    rintro e w3 ⟨rfl, hb3⟩
    have hLB : listB (M : Int) xs ks = (decide (ks.length ≤ 8) && ks.all (fun z => inB z 0 ((M : Int) - 1))) := by rw [listB, HB.out, Bool.true_and]
    rw [← hLB]
    have b0 := cell_in hb3 b0
    have b1 := cell_in hb3 b1
    have hp3 := hp1.trans hb3
    have hx3 := hx1.below hb3
    have hk3 := hk1.below hb3
    clear hLB hb3 hp1 hx1 hk1
    cases hC : listB (M : Int) xs ks with
    | false =>
      have HC := Lib.hid hC
      clear hC
      go_wp2
      go_ret
      exact ⟨ret_int (by simp [boundI, HC.out]), hp3⟩
    | true =>
      obtain ⟨_, hl8, hin⟩ := (listB_iff _ _ _).1 hC
      have HC := Lib.hid hC
      have HIN := Lib.hid hin
      rw [HK.out] at hl8
      clear hC hin
      go_wp2_with fail
      refine (l1In_any _ _ _ _).mono ?_
      rintro e w4 ⟨rfl, rfl⟩
      cases hI : inB f 0 ((M : Int) - 1) with
      | false =>
        have HI := Lib.hid hI
        clear hI
        go_wp2
        go_ret
        exact ⟨ret_int (by simp [boundI, HI.out]), hp3⟩
      | true =>
        have hs := (inB_iff _ _ _).1 hI
        have HI := Lib.hid hI
        clear hI
        go_wp2_with fail
        refine (l1In_any _ _ _ _).mono ?_
        rintro e w4 ⟨rfl, rfl⟩
        cases hJ : inB t 0 ((M : Int) - 1) with
        | false =>
          have HJ := Lib.hid hJ
          clear hJ
          go_wp2
          go_ret
          exact ⟨ret_int (by simp [boundI, HJ.out]), hp3⟩
        | true =>
          have ht := (inB_iff _ _ _).1 hJ
          have HJ := Lib.hid hJ
          have h16 := ((netB_iff _ _).1 HB.out).2.1
          rw [HX.out] at h16
          clear hJ
          go_wp2_with fail
          refine (l12Bound_any M A n c xs B l cb ks f t _ h8 h16 HX.out hx3 HB.out hl8 HK.out hk3 HIN.out (by omega) (by omega)).mono ?_
          rintro e w5 ⟨rfl, hb5⟩
          go_wp2
          go_ret
          exact ⟨ret_int (by rw [boundI, HC.out, HI.out, HJ.out, HK.out]; rfl), hp3.trans hb5⟩

end Go.Proofs.Ytgeoheeibebmcab

namespace Go.Proofs.Ytgeoheeibebmcab
open Go.RowKit

set_option maxRecDepth 100000 in
theorem surplus_any (a b : Int) (w : World) (ha : 0 ≤ a ∧ a ≤ 99999) (hb : 0 ≤ b ∧ b ≤ 99999) :
    Calls Try.prog 113 #[.int .i64 a, .int .i64 b] w fun e w' => e = .returned (.int .i64 (surI a b)) ∧ w' = w := by
  have t1 : IntKind.i64.wrap (a - b) = a - b := IntWalk.i64_in _ (by omega)
  go_enter Try.func113, Try.ntmps113
  by_cases h1 : b = 99999
  · subst h1
    go_wp2
    go_ret
    exact ⟨ret_int (by unfold surI; rw [if_pos rfl]), rfl⟩
  · by_cases h2 : 49999 < a - b
    · go_wp2
      go_ret
      exact ⟨ret_int (by unfold surI; rw [if_neg h1, if_pos (by omega)]), rfl⟩
    · go_wp2
      go_ret
      exact ⟨ret_int (by unfold surI; rw [if_neg h1, if_neg (by omega)]), rfl⟩

theorem run_max3 (P : Program) (w : World) (ts : Array TypeId) (t : TypeId) (x y z : Int) : (Builtin.max_ ts t #[.int .i64 x, .int .i64 y, .int .i64 z]).run P w = .ok (.int .i64 (max (max x y) z)) w := by
  have e : (if z > (if y > x then y else x) then z else (if y > x then y else x)) = max (max x y) z := by
    repeat' split
    all_goals omega
  rw [← e]
  simp [Builtin.max_, Builtin.max2]

/-- The bounds, while those of the first j nodes are of one mark more. -/
def bndRow (M : Nat) (xs : List ArcD) (ks : List Int) (t : Int) (k j : Nat) : List Int := (List.range M).map fun v => if v < j then boundTo M xs ks (v : Int) t (k + 1) else boundTo M xs ks (v : Int) t k
theorem bndRow_len (M : Nat) (xs : List ArcD) (ks : List Int) (t : Int) (k j : Nat) : (bndRow M xs ks t k j).length = M := by simp [bndRow]
theorem bndRow_get {M : Nat} {xs : List ArcD} {ks : List Int} {t : Int} {k j v : Nat} (hv : v < M) : (bndRow M xs ks t k j)[v]? = some (if v < j then boundTo M xs ks (v : Int) t (k + 1) else boundTo M xs ks (v : Int) t k) := by simp [bndRow, hv]
theorem bndRow_zero (M : Nat) (xs : List ArcD) (ks : List Int) (t : Int) : bndRow M xs ks t 0 0 = List.replicate M 0 := by
  apply List.ext_getElem?
  intro v
  by_cases hv : v < M
  · rw [bndRow_get hv]; simp [boundTo, hv]
  · rw [List.getElem?_eq_none (by rw [bndRow_len]; omega), List.getElem?_eq_none (by simp; omega)]
theorem bndRow_step {M : Nat} {xs : List ArcD} {ks : List Int} {t : Int} {k j : Nat} : (bndRow M xs ks t k j).set j (boundTo M xs ks (j : Int) t (k + 1)) = bndRow M xs ks t k (j + 1) := by
  apply List.ext_getElem?
  intro v
  by_cases hv : v < M
  · rw [List.getElem?_set, bndRow_get hv, bndRow_get hv, bndRow_len]
    by_cases e : j = v
    · subst e; simp [hv]
    · rw [if_neg e]
      by_cases h : v < j
      · rw [if_pos h, if_pos (by omega)]
      · rw [if_neg h, if_neg (by omega)]
  · rw [List.getElem?_eq_none (by rw [List.length_set, bndRow_len]; omega), List.getElem?_eq_none (by rw [bndRow_len]; omega)]
theorem bndRow_next (M : Nat) (xs : List ArcD) (ks : List Int) (t : Int) (k : Nat) : bndRow M xs ks t k M = bndRow M xs ks t (k + 1) 0 := by
  apply List.ext_getElem?
  intro v
  by_cases hv : v < M
  · rw [bndRow_get hv, bndRow_get hv, if_pos hv, if_neg (by omega)]
  · rw [List.getElem?_eq_none (by rw [bndRow_len]; omega), List.getElem?_eq_none (by rw [bndRow_len]; omega)]
theorem RowI.of_zeros {w : World} {g n : Nat} (hn : n ≤ 17) (h : w.heap[g]? = some (.cells (madeCells #[.int .i64 0] n) 3 (0, 0))) : RowI w g (List.replicate n 0) := by
  rw [repI_made 0 n hn] at h
  exact RowI.of_rep (by simpa [repI] using h)

set_option maxRecDepth 100000 in
set_option maxHeartbeats 4000000 in
theorem boundsTo_any (M : Nat) (A : Option Addr) (n c : Nat) (xs : List ArcD) (B : Option Addr) (l cb : Nat) (ks : List Int) (t : Int) (w : World) (hM : M ≤ 8) (hn : n ≤ 16) (hnx : xs.length = n) (hx : ArcsAt w A xs) (hA : (A = none ∧ n = 0) ∨ ∃ g o, A = some ⟨g, o, none⟩) (hB : netB (M : Int) xs = true) (hl : l ≤ 8) (hlk : ks.length = l) (hk : IntsAt w B ks) (hin : ∀ y ∈ ks, 0 ≤ y ∧ y < (M : Int)) (ht : 0 ≤ t ∧ t < M) :
    Calls Try.prog 74 #[.agg #[.int .i64 (M : Int), .slice A n c], .slice B l cb, .int .i64 t] w (Gives w (bndRow M xs ks t l 0)) := by
  have HX := Lib.hid hnx
  have HK := Lib.hid hlk
  have HB := Lib.hid hB
  have HIN := Lib.hid hin
  have hmk := makeInt M (by omega)
  have hM1 : 1 ≤ M := by have := ((netB_iff _ _).1 hB).1; omega
  clear hnx hlk hB hin
  obtain ⟨W0, hW0⟩ : ∃ W0, W0 = w.alloc (.cells #[.int .i64 (M : Int), .slice A n c] 25) := ⟨_, rfl⟩
  have hpW : Past w W0 := by rw [hW0]; exact (Past.refl _).alloc _
  have b0 : W0.cell? ⟨w.heap.size, 0, none⟩ = some (.int .i64 (M : Int)) := by rw [hW0]; go_simp
  have b1 : W0.cell? ⟨w.heap.size, 1, none⟩ = some (.slice A n c) := by rw [hW0]; go_simp
  have hsz : W0.heap.size = w.heap.size + 1 := by rw [hW0]; simp
  have HW := Lib.hid hW0
  have hx0 := hx.below hpW
  have hk0 := hk.below hpW
  clear hW0 hx hk
  go_enter Try.func74, Try.ntmps74
  go_wp2
  rw [← HW.out]
  clear HW
  have hrow0 := RowI.of_zeros (w := W0.alloc (.cells (madeCells #[.int .i64 0] M) 3)) (by omega) (heap_alloc_new W0 _)
  rw [← bndRow_zero M xs ks t, hsz] at hrow0
  go_loopw [18] (fun i wr => ∃ k : Nat, k ≤ l ∧ i = .int .i64 k ∧ RowI wr (w.heap.size + 1) (bndRow M xs ks t k 0) ∧ Past W0 wr) (fun i _ => l - (intOf i).toNat)
  case atStart => exact ⟨0, by omega, rfl, hrow0, (Past.refl _).alloc _⟩
  case round =>
    obtain ⟨k, hkl, rfl, hrow, hb⟩ := hrel
    by_cases hlt : k < l
    · obtain ⟨y, ha⟩ : ∃ a, ks[k]? = some a := ⟨_, List.getElem?_eq_getElem (by have := HK.out; omega)⟩
      obtain ⟨gy, oy, rfl, c0⟩ := (hk0.below hb) k _ ha
      have hyb := HIN.out y (List.mem_of_getElem? ha)
      have HY : Hid (at_ ks (k : Int) = y) := by rw [Hid, at_, Int.toNat_natCast, List.getD_eq_getElem?_getD, ha]; rfl
      have i0 : (0 : Int) ≤ (k : Int) := by omega
      have i1 : (k : Int) < (l : Int) := by omega
      have hH : hereB (M : Int) xs y = true := (hereB_iff _ _ _).2 ⟨HB.out, hyb⟩
      have hN1 : nearI (M : Int) xs y = nearL M xs y := by rw [nearI, if_pos hH, Int.toNat_natCast]
      have hN2 : nearTI (M : Int) xs y = nearL M (xs.map flip) y := by rw [nearTI, if_pos hH, Int.toNat_natCast]
      have HN1 := Lib.hid hN1
      have HN2 := Lib.hid hN2
      clear ha hH hN1 hN2
      have b0 := cell_in hb b0
      have b1 := cell_in hb b1
      have hxr := hx0.below hb
      go_wp2_with fail
      go_region_held3 (fun w' => w'.cell? ⟨w.heap.size, 0, none⟩ = some (.int .i64 (M : Int)) ∧ w'.cell? ⟨w.heap.size, 1, none⟩ = some (.slice A n c)) (go_keep)
        (first
          | (go_at_call 20; refine (implNearAll_any (M : Int) A n c xs y _ (by omega) HX.out hxr.drew).mono ?_; rintro e w1 ⟨v1, rfl, hv1, hb1⟩; rw [HN1.out] at hv1; obtain ⟨D, cd, rfl, hd1, ho1⟩ := hv1.form; rw [nearL_length] at ho1 ⊢; have b0 := cell_in hb1 b0; have b1 := cell_in hb1 b1)
          | (go_at_call 28; refine (implNearTo_all (M : Int) A n c xs y _ (by omega) HX.out (hxr.drew.below hb1) hA).mono ?_; rintro e w2 ⟨v2, rfl, hv2, hb2⟩; rw [HN2.out] at hv2; obtain ⟨E, ce, rfl, he2, ho2⟩ := hv2.form; rw [nearL_length] at ho2 ⊢; have b0 := cell_in hb2 b0; have b1 := cell_in hb2 b1))
      obtain ⟨d, hd⟩ : ∃ d, d = nearL M xs y := ⟨_, rfl⟩
      rw [← hd] at hd1
      obtain ⟨q, hq⟩ : ∃ q, q = nearL M (xs.map flip) y := ⟨_, rfl⟩
      rw [← hq] at he2
      have hd2 := hd1.below hb2
      have hrow2 := ((show RowI wr.drew _ _ from hrow).below hb1).below hb2
      have hbb := hb.drew.trans (Past.trans hb1 hb2)
      have hdl : d.length = M := by rw [hd, nearL_length]
      have hql : q.length = M := by rw [hq, nearL_length]
      have hgr := hrow.1.lt
      have HST : Hid (∀ v : Nat, v < M → boundTo M xs ks (v : Int) t (k + 1) = max (max (boundTo M xs ks (v : Int) t k) (surI (at_ d t) (at_ d (v : Int)))) (surI (at_ q (v : Int)) (at_ q t))) := fun v hv => by
        obtain ⟨p1, p2, p3, p4⟩ := four (arcsIn_net HB.out) (f := (v : Int)) ⟨by omega, by omega⟩ ht hyb
        have p5 := boundTo_bound (arcsIn_net HB.out) HIN.out (f := (v : Int)) ⟨by omega, by omega⟩ ht k (by rw [HK.out]; omega)
        rw [hd, hq, boundTo, HY.out, sur_less p1 p2 p3 p4 p5.1]
      have HBD : Hid (∀ v : Int, 0 ≤ v → v < M → (0 ≤ at_ d v ∧ at_ d v ≤ 99999) ∧ (0 ≤ at_ q v ∧ at_ q v ≤ 99999)) := fun v h0 h1 => by
        obtain ⟨p1, p2, p3, p4⟩ := four (arcsIn_net HB.out) (f := v) ⟨h0, h1⟩ ht hyb
        rw [hd, hq]
        exact ⟨p1, p3⟩
      have HDL := Lib.hid hdl
      have HQL := Lib.hid hql
      have hs1 : wr.heap.size ≤ w1.heap.size := hb1.size
      have hneE : blk E ≠ some (w.heap.size + 1) := ho2.ne_blk (by omega)
      have hneD : blk D ≠ some (w.heap.size + 1) := ho1.ne_blk hgr
      clear hv1 hv2 hd hq hb1 hb2 ho1 ho2 hd1 hrow hb c0 hdl hql hxr hs1
      go_wp2
      go_loopw [30] (fun i wr => ∃ j : Nat, j ≤ M ∧ i = .int .i64 j ∧ RowI wr (w.heap.size + 1) (bndRow M xs ks t k j) ∧ w2.grownBy wr (some (w.heap.size + 1)) ∧ Past W0 wr) (fun i _ => M - (intOf i).toNat)
      case atStart => exact ⟨0, by omega, rfl, hrow2, grown_refl _ _, hbb⟩
      case round =>
        obtain ⟨j, hj, rfl, hrow, hg, hb⟩ := hrel
        by_cases hlj : j < M
        · have hdw := hd2.grown hg (fun b e => by injection e with e; rw [← e]; exact hneD)
          have hew := he2.grown hg (fun b e => by injection e with e; rw [← e]; exact hneE)
          obtain ⟨x1, hx1⟩ : ∃ x, x = at_ d t := ⟨_, rfl⟩
          obtain ⟨x2, hx2⟩ : ∃ x, x = at_ d (j : Int) := ⟨_, rfl⟩
          obtain ⟨x3, hx3⟩ : ∃ x, x = at_ q (j : Int) := ⟨_, rfl⟩
          obtain ⟨x4, hx4⟩ : ∃ x, x = at_ q t := ⟨_, rfl⟩
          obtain ⟨z, hz⟩ : ∃ z, z = boundTo M xs ks (j : Int) t k := ⟨_, rfl⟩
          have e1 := getElem_at d t.toNat (by have := HDL.out; omega)
          have e2 := getElem_at d j (by have := HDL.out; omega)
          have e3 := getElem_at q j (by have := HQL.out; omega)
          have e4 := getElem_at q t.toNat (by have := HQL.out; omega)
          rw [Int.toNat_of_nonneg ht.1] at e1 e4
          obtain ⟨gd, od, rfl, d1⟩ := hdw _ _ e1
          obtain ⟨gd', od', eg, d2⟩ := hdw _ _ e2
          injection eg with eg; injection eg with eg1 eg2; subst eg1 eg2
          obtain ⟨ge, oe, rfl, f3⟩ := hew _ _ e3
          obtain ⟨ge', oe', eh, f4⟩ := hew _ _ e4
          injection eh with eh; injection eh with eh1 eh2; subst eh1 eh2
          obtain ⟨r1, r2⟩ := HBD.out t ht.1 ht.2
          obtain ⟨r3, r4⟩ := HBD.out (j : Int) (by omega) (by omega)
          have r0 : (w.heap.size + 1) = (w.heap.size + 1) := rfl
          obtain ⟨gr, or, er, c0⟩ := hrow.2 j z (by rw [bndRow_get hlj, if_neg (by omega), hz])
          injection er with er; injection er with er1 er2; subst er1 er2
          rw [Nat.zero_add] at c0
          have z0 := hrow.1.frozen j
          have HS := HST.out j hlj
          rw [← hx1] at HS r1 d1
          rw [← hx2] at HS r3 d2
          rw [← hx3] at HS r4 f3
          rw [← hx4] at HS r2 f4
          rw [← hz] at HS
          have hset := hrow.set j (boundTo M xs ks (j : Int) t (k + 1)) (by rw [bndRow_len]; exact hlj)
          rw [bndRow_step, HS] at hset
          have HSET := Lib.hid hset
          obtain ⟨s1, hs1⟩ : ∃ s, s = surI x1 x2 := ⟨_, rfl⟩
          obtain ⟨s2, hs2⟩ : ∃ s, s = surI x3 x4 := ⟨_, rfl⟩
          have C1 := Lib.hid (fun u : World => surplus_any x1 x2 u r1 r3)
          have C2 := Lib.hid (fun u : World => surplus_any x3 x4 u r4 r2)
          rw [← hs1] at C1
          rw [← hs2] at C2
          rw [← hs1, ← hs2] at HSET
          have i2 := ht.1
          have i3 := ht.2
          have j0 : (0 : Int) ≤ (j : Int) := by omega
          have j1 : (j : Int) < (M : Int) := by omega
          clear hx1 hx2 hx3 hx4 hz e1 e2 e3 e4 hset HS hs1 hs2 hdw hew
          have HG2 := Lib.hid (grown_set hg j (.int .i64 (max (max z s1) s2)))
          have HB2 := Lib.hid (show Past W0 (wr.drew.setCell ⟨(w.heap.size + 1), j, none⟩ (.int .i64 (max (max z s1) s2))) from Below.setCell hb.drew (by simp only; omega) _)
          have hass : max (max z s1) s2 = max z (max s1 s2) := by omega
          rw [hass] at HSET HG2 HB2
          have hmx := fun (u : World) (ts : Array TypeId) (ty : TypeId) => run_max3 Try.prog u ts ty z s1 s2
          go_wp2_with fail
          refine wp_region_quiet_tail 26 (by kernel_rfl) (by kernel_rfl) ?_
          simp only [List.take_succ_cons, List.take_zero, List.drop_succ_cons, List.drop_zero]
          repeat (go_big_quiet_step (fail))
          go_big_quiet_want
          go_big_quiet_op
          refine ⟨_, C1.out _, ?_⟩
          go_big_quiet_on
          repeat (go_big_quiet_step (fail))
          go_big_quiet_want
          go_big_quiet_op
          refine ⟨_, C2.out _, ?_⟩
          go_big_quiet_on
          repeat (go_big_quiet_step (fail))
          refine wpQuiet_nil ?_
          go_wp2
          go_roundw
          case rel => exact ⟨j + 1, by omega, by go_num, (HSET.out).drewN 1, grown_drew HG2.out, HB2.out⟩
          case measure => simp [intOf]; omega
        · obtain rfl : j = M := by omega
          go_wp2
          go_roundw
          case rel => exact ⟨k + 1, by omega, by go_num, by rw [← bndRow_next]; exact hrow, hb⟩
          case measure => simp [intOf]; omega
    · obtain rfl : k = l := by omega
      go_wp2
      go_ret
      exact ⟨_, rfl, hrow.res (bndRow_len _ _ _ _ _ _) (by omega) (by omega), hpW.trans hb⟩

set_option maxRecDepth 100000 in
set_option maxHeartbeats 1000000 in
theorem implMarkBound_all (m : Int) (A : Option Addr) (n c : Nat) (xs : List ArcD) (B : Option Addr) (l cb : Nat) (ks : List Int) (f t : Int) (w : World) (hn : n ≤ 1048576) (hnx : xs.length = n) (hx : ArcsAt w A xs) (hA : (A = none ∧ n = 0) ∨ ∃ g o, A = some ⟨g, o, none⟩) (hl : l ≤ 1048576) (hlk : ks.length = l) (hk : IntsAt w B ks) :
    Calls Try.prog 34 #[.agg #[.int .i64 m, .slice A n c], .slice B l cb, .int .i64 f, .int .i64 t] w fun e w' => e = .returned (.int .i64 (boundI m xs ks f t)) ∧ Below w.heap.size w w' := by
  have HX := Lib.hid hnx
  have HK := Lib.hid hlk
  clear hnx hlk
  have hb0 : Past w (w.alloc (.cells #[.int .i64 m, .slice A n c] 25)) := (Past.refl _).alloc _
  go_enter Try.func34, Try.ntmps34
  go_wp2_with fail
  refine (listOk_any m A n c xs B l cb ks _ hn HX.out (hx.below hb0) hl HK.out (hk.below hb0)).mono ?_
  rintro e w1 ⟨rfl, hb1⟩
  have b0 := cell_in (p := ⟨w.heap.size, 0, none⟩) (v := .int .i64 m) hb1 (by go_simp)
  have b1 := cell_in (p := ⟨w.heap.size, 1, none⟩) (v := .slice A n c) hb1 (by go_simp)
  have hp1 := hb0.trans hb1
  have hx1 := hx.below hp1
  have hk1 := hk.below hp1
  clear hb0 hb1 hx hk
  cases hC : listB m xs ks with
  | false =>
    have HC := Lib.hid hC
    clear hC
    go_wp2
    go_ret
    exact ⟨ret_int (by simp [boundI, HC.out]), hp1⟩
  | true =>
    obtain ⟨hN, hl8, hin⟩ := (listB_iff _ _ _).1 hC
    obtain ⟨M, rfl, h1, h8⟩ := here_nat hN
    have HC := Lib.hid hC
    have HIN := Lib.hid hin
    have HN := Lib.hid hN
    rw [HK.out] at hl8
    clear hC hin hN
    obtain ⟨W, hW⟩ : ∃ W, W = w1.alloc (.cells #[.int .i64 f, .int .i64 t] 3) := ⟨_, rfl⟩
    have hpz : Past w1 W := by rw [hW]; exact (Past.refl _).alloc _
    have hz : IntsAt W (some ⟨w1.heap.size, 0, none⟩) [f, t] := fun k y hk => by
      rw [hW]
      match k, hk with
      | 0, hk => simp at hk; subst hk; exact ⟨_, _, rfl, by go_simp⟩
      | 1, hk => simp at hk; subst hk; exact ⟨_, _, rfl, by go_simp⟩
      | k + 2, hk => simp at hk
    have HW := Lib.hid hW
    clear hW
    go_wp2_with fail
    rw [← HW.out]
    clear HW
    refine (netHas_any (M : Int) A n c xs _ 2 2 [f, t] _ hn HX.out (hx1.below hpz) (by omega) rfl hz).mono ?_
    rintro e w2 ⟨rfl, hb2⟩
    have hH : (netB (M : Int) xs && [f, t].all (fun z => inB z 0 ((M : Int) - 1))) = (inB f 0 ((M : Int) - 1) && inB t 0 ((M : Int) - 1)) := by rw [HN.out]; simp
    rw [hH]
    have b0 := cell_in hb2 (cell_in hpz b0)
    have b1 := cell_in hb2 (cell_in hpz b1)
    have hx2 := (hx1.below hpz).below hb2
    have hk2 := (hk1.below hpz).below hb2
    have hp2 := (hp1.trans hpz).trans hb2
    clear hH hb2 hpz hp1 hx1 hk1 hz
    cases hB : (inB f 0 ((M : Int) - 1) && inB t 0 ((M : Int) - 1)) with
    | false =>
      have HB := Lib.hid hB
      clear hB
      go_wp2
      go_ret
      exact ⟨ret_int (by rw [boundI, HB.out, Bool.and_false]; rfl), hp2⟩
    | true =>
      have HB := Lib.hid hB
      simp only [Bool.and_eq_true, inB_iff] at hB
      have h16 := ((netB_iff _ _).1 HN.out).2.1
      rw [HX.out] at h16
      go_wp2_with fail
      refine (boundsTo_any M A n c xs B l cb ks t _ h8 h16 HX.out hx2 hA HN.out hl8 HK.out hk2 HIN.out (by omega)).mono ?_
      rintro e w3 ⟨v3, rfl, hv3, hb3⟩
      obtain ⟨D, cd, rfl, hd3, _⟩ := hv3.form
      rw [bndRow_len]
      obtain ⟨F, rfl⟩ : ∃ F : Nat, f = (F : Int) := ⟨f.toNat, by omega⟩
      obtain ⟨z, hz⟩ : ∃ z, z = boundTo M xs ks (F : Int) t l := ⟨_, rfl⟩
      obtain ⟨g, o, rfl, d0⟩ := hd3 F z (by rw [bndRow_get (by omega), if_neg (by omega), hz])
      have HZ := Lib.hid hz
      have i0 : (0 : Int) ≤ (F : Int) := by omega
      have i1 : (F : Int) < (M : Int) := by omega
      clear hz hd3 hv3 hB
      go_wp2
      go_ret
      exact ⟨ret_int (by rw [boundI, HC.out, HB.out, HZ.out, HK.out]; rfl), hp2.trans hb3⟩

theorem implMarkBound_any (m : Int) (g0 n c : Nat) (xs : List ArcD) (B : Option Addr) (l cb : Nat) (ks : List Int) (f t : Int) (w : World) (hn : n ≤ 1048576) (hnx : xs.length = n) (hx : ArcsAt w (some ⟨g0, 0, none⟩) xs) (hl : l ≤ 1048576) (hlk : ks.length = l) (hk : IntsAt w B ks) :
    Calls Try.prog 34 #[.agg #[.int .i64 m, .slice (some ⟨g0, 0, none⟩) n c], .slice B l cb, .int .i64 f, .int .i64 t] w fun e w' => e = .returned (.int .i64 (boundI m xs ks f t)) ∧ Below w.heap.size w w' :=
  implMarkBound_all m _ n c xs B l cb ks f t w hn hnx hx (.inr ⟨_, _, rfl⟩) hl hlk hk

end Go.Proofs.Ytgeoheeibebmcab

namespace Go.Proofs.Ytgeoheeibebmcab
open Go.ChangeShapes Go.WideShapes Go.ChangeAt Go.RowKit

theorem boundI_of' {M : Nat} {xs : List ArcD} {ks : List Int} {f t : Int} (h : listB (M : Int) xs ks = true) (hf : 0 ≤ f ∧ f < (M : Int)) (ht : 0 ≤ t ∧ t < (M : Int)) : boundI (M : Int) xs ks f t = boundTo M xs ks f t ks.length := by
  rw [boundI, h, (inB_iff _ _ _).2 ⟨hf.1, by omega⟩, (inB_iff _ _ _).2 ⟨ht.1, by omega⟩, Int.toNat_natCast]
  rfl
theorem ints_news {w : World} {g o : Nat} {zs : List Int} (h : IntsAt w (some ⟨g, o, none⟩) zs) : ∀ j u, (ints zs)[j]? = some u → w.cell? ((⟨g, o, none⟩ : Addr).add j) = some u := fun j u hu => by
  unfold ints at hu
  rw [List.getElem?_map] at hu
  cases hz : zs[j]? with
  | none => rw [hz] at hu; cases hu
  | some z =>
    rw [hz] at hu
    simp at hu
    subst hu
    obtain ⟨g', o', e, hc⟩ := h j z hz
    injection e with e
    injection e with e1 e2
    subst e1 e2
    rw [Addr.add_lit]
    exact hc
theorem ints_each (xs : List Int) : ∀ v ∈ ints xs, v.oneCell' = true := fun v hv => by
  obtain ⟨x, _, rfl⟩ := List.mem_map.1 hv
  rfl

set_option maxRecDepth 100000 in
set_option maxHeartbeats 4000000 in
theorem fnMarkBound_walk (A : Option Addr) (n c : Nat) (w : World) (hn : n ≤ c) (hc : c ≤ maxLen) (hb : BytesAt w A n) :
    Calls Try.prog 7 #[.slice A n c] w fun e w' => e = .returned (.bool true) ∧ Below w.heap.size w w' := by
  obtain ⟨i0, hi, hz0, hz1, hz2⟩ := info_parts infoInt
  by_cases h1 : 1048576 < n
  · have h1' : (1048576 : Int) < (n : Int) := by omega
    go_enter Try.func7, Try.ntmps7
    go_wp2
    go_ret
    exact ⟨rfl, Below.refl _ _⟩
  have h1' : ¬ (1048576 : Int) < (n : Int) := by omega
  go_enter Try.func7, Try.ntmps7
  go_wp2_with fail
  refine (drawMarkBound_any A n c w hn hc hb).mono ?_
  rintro e w1 ⟨m, B, k, cap, xs, D, l, cd, zs, s, b, rfl, hxk, hk, hx1, hform, hzl, hl, hz1', hb1, hDf⟩
  have HX := Lib.hid hxk
  have HZ := Lib.hid hzl
  clear hxk hzl hb hn hc
  have hpW : Past w1 (w1.alloc (.cells #[.int .i64 m, .slice B k cap] 25)) := (Past.refl w1).alloc _
  have hkk : k ≤ 1048576 := by omega
  have hll : l ≤ 1048576 := by omega
  have hl5 : ¬ (5 : Int) < (l : Int) := by omega
  go_wp2_with fail
  refine (implMarkBound_all m B k cap xs D l cd zs s b _ hkk HX.out (hx1.below hpW) hform hll HZ.out (hz1'.below hpW)).mono ?_
  rintro e w2 ⟨rfl, hb2⟩
  have b0 := cell_in (p := ⟨w1.heap.size, 0, none⟩) (v := .int .i64 m) hb2 (by go_simp)
  have b1 := cell_in (p := ⟨w1.heap.size, 1, none⟩) (v := .slice B k cap) hb2 (by go_simp)
  have hx2 := (hx1.below hpW).below hb2
  have hd2 := (hz1'.below hpW).below hb2
  have hp2 : Past w w2 := Past.trans hb1 (hpW.trans hb2)
  obtain ⟨z, hz⟩ : ∃ z, z = boundI m xs zs s b := ⟨_, rfl⟩
  rw [← hz]
  have HB := Lib.hid hz
  clear hz hx1 hz1' hb1 hb2 hpW
  go_wp2_with fail
  refine (specMarkBound_any m B k cap xs D l cd zs s b _ hkk HX.out hx2 hll HZ.out hd2).mono ?_
  rintro e w3 ⟨rfl, hb3⟩
  rw [← HB.out]
  have b0 := cell_in hb3 b0
  have b1 := cell_in hb3 b1
  have hx3 := hx2.below hb3
  have hd3 := hd2.below hb3
  have hp3 := hp2.trans hb3
  clear hx2 hd2 hb3 hp2
  cases hO : (listB m xs zs && (inB s 0 (m - 1) && inB b 0 (m - 1))) with
  | false =>
    obtain rfl : z = -1 := by rw [HB.out, boundI, hO]; rfl
    clear hO
    go_wp2_with fail
    refine (specMarkBound_any m B k cap xs D l cd zs s b _ hkk HX.out hx3 hll HZ.out hd3).mono ?_
    rintro e w4 ⟨rfl, hb4⟩
    rw [← HB.out]
    go_wp2
    go_ret
    exact ⟨rfl, hp3.trans hb4⟩
  | true =>
    simp only [Bool.and_eq_true] at hO
    obtain ⟨hL, hs, hbb⟩ := hO
    obtain ⟨hN, hl8, hin⟩ := (listB_iff _ _ _).1 hL
    obtain ⟨M, rfl, hM1, hM8⟩ := here_nat hN
    have hs := (inB_iff _ _ _).1 hs
    have hbb := (inB_iff _ _ _).1 hbb
    have hs2 : 0 ≤ s ∧ s < (M : Int) := by omega
    have hb2 : 0 ≤ b ∧ b < (M : Int) := by omega
    have hzv : z = boundTo M xs zs s b zs.length := by rw [HB.out]; exact boundI_of' hL hs2 hb2
    have hz0' := boundTo_bound (arcsIn_net hN) hin (f := s) (t := b) hs2 hb2 zs.length (Nat.le_refl _)
    have hzd := boundTo_le (by omega) (arcsIn_net hN) hin (f := s) (t := b) hs2 hb2 zs.length (Nat.le_refl _)
    rw [← hzv] at hz0' hzd
    have hnz : ¬ z < 0 := by omega
    obtain ⟨x, hx⟩ : ∃ x, x = at_ (nearL M xs s) b := ⟨_, rfl⟩
    rw [← hx] at hzd
    have hmore : boundI (M : Int) xs (zs ++ [s]) s b = x := by
      have hL2 : listB (M : Int) xs (zs ++ [s]) = true := (listB_iff _ _ _).2 ⟨hN, by rw [List.length_append, HZ.out]; simp; omega, fun y hy => by
        rcases List.mem_append.1 hy with h | h
        · exact hin y h
        · simp at h; rw [h]; exact hs2⟩
      rw [boundI_of' hL2 hs2 hb2, List.length_append, hx]
      exact boundTo_with (by omega) (arcsIn_net hN) hin hs2 hb2
    have hnone : boundI (M : Int) xs [] s b = 0 := by
      have hL2 : listB (M : Int) xs [] = true := (listB_iff _ _ _).2 ⟨hN, by simp, fun y hy => by simp at hy⟩
      rw [boundI_of' hL2 hs2 hb2]
      rfl
    have hds : nearI (M : Int) xs s = nearL M xs s := by rw [nearI, (hereB_iff _ _ _).2 ⟨hN, hs2⟩, if_pos rfl, Int.toNat_natCast]
    have HDS := Lib.hid hds
    have HXX := Lib.hid hx
    have HMORE := Lib.hid hmore
    have HNONE := Lib.hid hnone
    clear hL hN hin hzv hx hmore hnone hds hs hbb
    go_wp2_with fail
    refine (implNearAll_any (M : Int) B k cap xs s _ hkk HX.out hx3).mono ?_
    rintro e w4 ⟨v4, rfl, hv4, hb4⟩
    rw [HDS.out] at hv4
    obtain ⟨E, ce, rfl, he4, _⟩ := hv4.form
    rw [nearL_length]
    obtain ⟨T, rfl⟩ : ∃ T : Nat, b = (T : Int) := ⟨b.toNat, by omega⟩
    obtain ⟨ge, oe, rfl, c0⟩ := he4 T x (by rw [HXX.out]; exact getElem_at _ T (by rw [nearL_length]; omega))
    have t0 : (0 : Int) ≤ (T : Int) := by omega
    have t1 : (T : Int) < (M : Int) := hb2.2
    have b0 := cell_in hb4 b0
    have b1 := cell_in hb4 b1
    have hx4 := hx3.below hb4
    have hd4 := hd3.below hb4
    have hp4 := hp3.trans hb4
    have hr0 := Res.empty_new w4
    unfold Res at hr0
    have hpE : Past w4 (w4.alloc (.cells #[] 3)) := (Past.refl w4).alloc _
    have hdE := hd4.below hpE
    clear hv4 he4 hx3 hd3 hb4 hp3
    rcases hDf with ⟨rfl, rfl, rfl⟩ | ⟨gD, rfl⟩
    · skip
      have HNW := cell_one_new (w4.alloc (.cells #[] 3)) (.int .i64 s) 3
      rw [World.size_alloc] at HNW
      go_wp2_with (first | (at_builtin; refine wpList_append_own _ rfl _ _ 28 rfl w4.heap.size 3 i0 (.int .i64 0) 1 8 Try.underlying28 hi hz0 hz1 hz2 rfl (by decide) (.slice (some ⟨w4.heap.size, 0, none⟩) 0 0) 0 (ints []) rfl (hr0.alloc _) ⟨w4.heap.size + 1, 0, none⟩ 1 1 [.int .i64 s] rfl rfl HNW (one_cell _) (by unfold maxLen; omega) (by omega) (by simp; omega) ?_; intro v8 w8 hown8 hgrow8 hnil8; have hp8 : Past w4 w8 := Past.grown (hpE.alloc _) (hr0.alloc _) hgrow8 (Nat.le_refl _); have b0 := cell_in hp8 b0; have b1 := cell_in hp8 b1) | (at_builtin; refine wpList_append_own_none rfl _ _ 28 rfl w4.heap.size 3 i0 1 Try.underlying28 hi (.slice (some ⟨w4.heap.size, 0, none⟩) 0 0) 0 (ints []) rfl hr0 rfl ?_; have hMID := Lib.hid True.intro))
      have hres : Res w8 w4.heap.size v8 (zs ++ [s]) := by
        have : zs = [] := List.eq_nil_of_length_eq_zero HZ.out
        rw [this]
        exact hown8
      obtain ⟨D8, c8, rfl, hd8, _⟩ := hres.form
      obtain ⟨L8, hL8⟩ : ∃ L8, L8 = (zs ++ [s]).length := ⟨_, rfl⟩
      rw [← hL8]
      have hl8' : L8 ≤ 1048576 := by rw [hL8, List.length_append, HZ.out]; simp only [List.length_cons, List.length_nil]; omega
      have HL8 := Lib.hid hL8.symm
      have hx8 := hx4.below hp8
      clear hL8
      refine (implMarkBound_all (M : Int) B k cap xs D8 L8 c8 (zs ++ [s]) s (T : Int) _ hkk HX.out hx8 hform hl8' HL8.out hd8).mono ?_
      rintro e w9 ⟨rfl, hb9⟩
      rw [HMORE.out]
      have b0 := cell_in hb9 b0
      have b1 := cell_in hb9 b1
      go_wp2_with fail
      refine (implMarkBound_all (M : Int) B k cap xs none 0 0 [] s (T : Int) _ hkk HX.out (hx8.below hb9) hform (by omega) rfl (fun k y hk => by simp at hk)).mono ?_
      rintro e w10 ⟨rfl, hb10⟩
      rw [HNONE.out]
      go_wp2
      go_ret
      exact ⟨rfl, ((hp4.trans hp8).trans hb9).trans hb10⟩
    · skip
      have HLEN : (ints zs).length = l * 1 := by rw [ints, List.length_map, HZ.out, Nat.mul_one]
      go_wp2_with (first | (at_builtin; refine wpList_append_own _ rfl _ _ 28 rfl w4.heap.size 3 i0 (.int .i64 0) 1 8 Try.underlying28 hi hz0 hz1 hz2 rfl (by decide) v7 (0 + l) (ints [] ++ ints zs) rfl (hown7.alloc _) ⟨w7.heap.size, 0, none⟩ 1 1 [.int .i64 s] rfl rfl (cell_one_new _ _ _) (one_cell _) (by unfold maxLen; omega) (by omega) (by have := hgrow7.size; simp at this ⊢; omega) ?_; intro v8 w8 hown8 hgrow8 hnil8; have hp7 : Past w4 w7 := Past.grown hpE hr0 hgrow7 (Nat.le_refl _); have hp8 : Past w4 w8 := Past.grown (hp7.alloc _) (hown7.alloc _) hgrow8 (Nat.le_refl _); have b0 := cell_in hp8 b0; have b1 := cell_in hp8 b1) | (at_builtin; refine wpList_append_own _ rfl _ _ 28 rfl w4.heap.size 3 i0 (.int .i64 0) 1 8 Try.underlying28 hi hz0 hz1 hz2 rfl (by decide) (.slice (some ⟨w4.heap.size, 0, none⟩) 0 0) 0 (ints []) rfl hr0 ⟨gD, 0, none⟩ l cd (ints zs) rfl HLEN (ints_news hdE) (ints_each zs) (by unfold maxLen; omega) (by omega) (by simp) ?_; intro v7 w7 hown7 hgrow7 hnil7))
      have hres : Res w8 w4.heap.size v8 (zs ++ [s]) := by
        unfold Res
        rw [ints_append, List.length_append, HZ.out]
        have := hown8
        rw [Nat.zero_add] at this
        exact this
      obtain ⟨D8, c8, rfl, hd8, _⟩ := hres.form
      obtain ⟨L8, hL8⟩ : ∃ L8, L8 = (zs ++ [s]).length := ⟨_, rfl⟩
      rw [← hL8]
      have hl8' : L8 ≤ 1048576 := by rw [hL8, List.length_append, HZ.out]; simp only [List.length_cons, List.length_nil]; omega
      have HL8 := Lib.hid hL8.symm
      have hx8 := hx4.below hp8
      clear hL8
      refine (implMarkBound_all (M : Int) B k cap xs D8 L8 c8 (zs ++ [s]) s (T : Int) _ hkk HX.out hx8 hform hl8' HL8.out hd8).mono ?_
      rintro e w9 ⟨rfl, hb9⟩
      rw [HMORE.out]
      have b0 := cell_in hb9 b0
      have b1 := cell_in hb9 b1
      go_wp2_with fail
      refine (implMarkBound_all (M : Int) B k cap xs none 0 0 [] s (T : Int) _ hkk HX.out (hx8.below hb9) hform (by omega) rfl (fun k y hk => by simp at hk)).mono ?_
      rintro e w10 ⟨rfl, hb10⟩
      rw [HNONE.out]
      go_wp2
      go_ret
      exact ⟨rfl, ((hp4.trans hp8).trans hb9).trans hb10⟩

set_option maxRecDepth 100000 in
theorem fnMarkBound_lifted (os : Os) (started : os.Started) (H : Type) (enc : TypeId × Value → H) :
    ReturnsInHanded {} Try.checked os 7 .any (Rows.fnMarkBoundSpec.pre6 enc Try.prog Try.f7 Rows.fnMarkBoundRow.domain false) (Rows.fnMarkBoundSpec.post enc Try.prog Try.f7 false true false false) := by
  refine returnsInHanded_of_change (C := Try.checked) own started (by kernel_rfl) Try.func7
    (ChangeSpec.witness6 (enc := enc) (C := Try.checked) false ⟨#[], #[.slice none 0 0], []⟩ 8 (by kernel_rfl) (by kernel_rfl) (by kernel_rfl) (by kernel_rfl)) ?_
  intro W base args ds gs before hval0 hW hcnd _
  have hval : ∀ (j : Nat) t v, Try.f7.params[j]? = some t → args[j]? = some v → Value.okWide Try.prog W .any base t v := hval0
  have hW' := hW
  obtain ⟨p, q, hA0, hV, rfl, hfz, hnd⟩ := hW
  have hA : DataW.TrodAll enc Try.prog W 0 (fun _ => true) true Try.f7.params.toList args.toList ds p := hA0
  rw [Try.params7] at hA hval
  obtain ⟨v0, vs0, d0, ds0, p0, q0, hargs, rfl, rfl, h0, r0⟩ := trodAll_cons hA
  obtain ⟨rfl, rfl, rfl⟩ := trodAll_nil r0
  obtain rfl : args = #[v0] := by cases args; simp_all
  obtain ⟨rfl, rfl⟩ := trodVars_none hV
  have k0 := h0
  have lt0 := places_lt k0
  obtain ⟨A0, n0, c0, rfl, hn0, hc0, hb0⟩ := open_bytes (hval 0 22 v0 rfl rfl) h0
  clear hA0 hval0
  refine (fnMarkBound_walk A0 n0 c0 W hn0 hc0 hb0).mono fun e W' ⟨he, bel⟩ => ?_
  subst he
  exact ⟨_, rfl, _, _, _, [], _, [], hW', trodAll_mk1 (shut_bool Try.underlying4 _), (trodAll_cons_mk (Below.trod laidOut (by kernel_rfl) (of_decide_eq_true (by kernel_rfl)) k0 bel lt0) trodAll_mk0), rfl, bel.frame _, fun h => by cases h⟩

/-- The given statement. -/
theorem fnMarkBound_proved : Rows.FnMarkBoundSaid :=
  OpenClaim.holds_of_wide 7 Try.f7 rfl rfl rfl rfl rfl rfl rfl ⟨rfl, rfl, rfl, rfl, rfl⟩ rfl rfl rfl rfl rfl (by kernel_rfl) Try.func7 (by kernel_rfl)
    (of_decide_eq_true (by kernel_rfl)) (by unfold Func.isWrapper; first | (rw [if_pos (by decide +kernel)]; kernel_rfl) | (rw [if_neg (by decide +kernel)]; exact ⟨rfl, rfl⟩))
    (fun os started H enc _ => fnMarkBound_lifted os started H enc)

end Go.Proofs.Ytgeoheeibebmcab
