/-
  FnLoadWalk answers true at every input: so much may go over each arc of the way that is told. No condition.
-/
import Derived.Test.YtaojognjkiifmabDraw4
import Derived.Test.YtaojognjkiifmabOpenW
import Derived.Test.YtaojognjkiifmabDraw
import Derived.Sort.QuietThIn
import Derived.Sort.BigQuietIn
import Derived.OwnWalkIn
import Derived.Test.YtaojognjkiifmabQPast
import Derived.Test.YtaojognjkiifmabNArcs
import Derived.Test.YtaojognjkiifmabNLess
import Derived.Test.YtaojognjkiifmabPTree
import Derived.Test.YtaojognjkiifmabNCh
import Derived.Test.YtaojognjkiifmabNear
import Derived.Test.YtaojognjkiifmabNLen
import Derived.Test.YtaojognjkiifmabBack
import Derived.Test.YtaojognjkiifmabOwnL
import Derived.Test.YtaojognjkiifmabInfoI
import Derived.Test.YtaojognjkiifmabMarkB
import Derived.Test.YtaojognjkiifmabTo
import Derived.Deep.DeepCutAuto
import Derived.Test.YtaojognjkiifmabPTree2
import Derived.Test.YtaojognjkiifmabWalkT
import Derived.Maps.AppendAt
import Derived.Test.YtaojognjkiifmabPReach
import Derived.Test.YtaojognjkiifmabSLoad
import Derived.Test.YtaojognjkiifmabCost
import Derived.Test.YtaojognjkiifmabResI
import Derived.Test.YtaojognjkiifmabPWay
import Derived.Laws.OwnMore
import Derived.Test.YtaojognjkiifmabPNear
import Derived.Test.YtaojognjkiifmabWalk2
import Derived.Test.YtaojognjkiifmabIn
import Derived.Deep.RegionWith
namespace Go.Proofs.Ytaojognjkiifmab
open Go.RowKit

theorem two_at (w : World) (x y : Int) : IntsAt (w.alloc (.cells #[.int .i64 x, .int .i64 y] 3)) (some ⟨w.heap.size, 0, none⟩) [x, y] := fun j a hj => by
  refine ⟨w.heap.size, 0, rfl, ?_⟩
  match j with
  | 0 => simp at hj; subst hj; go_simp
  | 1 => simp at hj; subst hj; go_simp
  | j + 2 => simp at hj

/-- A number was drawn. -/
def NumG (w : World) (R lo : Nat) (A : Option Addr) (n c f : Nat) (e : Ending) (w' : World) : Prop :=
  ∃ z : Int, e = .returned (.int .i64 z) ∧ RdF w' R lo A n c f ∧ w.grownBy w' (some R)

set_option maxRecDepth 100000 in
set_option maxHeartbeats 2000000 in
theorem l30Node_any (R lo : Nat) (A B : Option Addr) (n c f k cap : Nat) (m : Int) (w : World) (h : RdF w R lo A n c (f + 2)) :
    Calls Try.prog 62 #[.pointer (some ⟨R, 0, none⟩), .agg #[.int .i64 m, .slice B k cap]] w (NumG w R lo A n c f) := by
  have hRw := h.at_
  have hpV : Past w (w.alloc (.cells #[.int .i64 m, .slice B k cap] 25)) := (Past.refl w).alloc _
  have b0 : (w.alloc (.cells #[.int .i64 m, .slice B k cap] 25)).cell? ⟨w.heap.size, 0, none⟩ = some (.int .i64 m) := by go_simp
  have hne : w.heap.size ≠ R := by omega
  have h' : RdF (w.alloc (.cells #[.int .i64 m, .slice B k cap] 25)) R lo A n c (f + 1 + 1) := h.below hpV
  have gV : w.grownBy (w.alloc (.cells #[.int .i64 m, .slice B k cap] 25)) (some R) := World.grownBy_alloc w _ _
  go_enter Try.func62, Try.ntmps62
  go_wp2_with fail
  refine (pickF (f := f + 1) 16 h').mono ?_
  rintro e w1 ⟨q, rfl, hq0, hq1, hr1, hg1⟩
  have b0 := cell_far hg1 b0 hne
  have gW := grown_trans gV hg1
  have hs1 := gW.size
  have hR1 := hr1.at_
  clear h h' hpV hg1 gV
  by_cases hq : q = 0
  · subst hq
    have hpa : Past w1 (w1.alloc (.cells #[.int .i64 (-1), .int .i64 m] 3)) := (Past.refl w1).alloc _
    have hz := two_at w1 (-1) m
    have hne2 : w1.heap.size ≠ R := by omega
    have gA := grown_trans gW (World.grownBy_alloc w1 (.cells #[.int .i64 (-1), .int .i64 m] 3) (some R))
    have hrA := hr1.below hpa
    clear gW hpa hr1
    go_wp2_with fail
    refine (oneF (l := 2) [-1, m] hrA rfl (by omega) (by omega) hz hne2).mono ?_
    rintro e w2 ⟨z, rfl, _, hr2, hg2⟩
    go_wp2
    go_ret
    exact ⟨z, rfl, hr2, grown_trans gA hg2⟩
  · go_wp2_with fail
    refine (pickF (f := f) m hr1).mono ?_
    rintro e w2 ⟨z, rfl, _, _, hr2, hg2⟩
    go_wp2
    go_ret
    exact ⟨z, rfl, hr2, grown_trans gW hg2⟩

theorem ownForm {w : World} {lo t size n : Nat} {A : Option Addr} (h : OwnAt w lo A t size n) : (A = none ∧ n = 0) ∨ ∃ g o, A = some ⟨g, o, none⟩ := by
  rcases h with h | ⟨g, _, rfl, _⟩
  · exact .inl h
  · exact .inr ⟨g, 0, rfl⟩
/-- A net and a number were drawn. -/
def DrawNodeG (w : World) (e : Ending) (w' : World) : Prop :=
  ∃ (m : Int) (B : Option Addr) (k cap : Nat) (xs : List ArcD) (z : Int), e = .returned (.tuple #[.agg #[.int .i64 m, .slice B k cap], .int .i64 z]) ∧ xs.length = k ∧ k ≤ 13 ∧ ArcsAt w' B xs ∧ ((∀ g, g < w.heap.size → blk B ≠ some g) ∧ ((B = none ∧ k = 0) ∨ ∃ g o, B = some ⟨g, o, none⟩)) ∧ Below w.heap.size w w'

set_option maxRecDepth 100000 in
set_option maxHeartbeats 4000000 in
theorem drawNetOut_any (A : Option Addr) (n c : Nat) (w : World) (hn : n ≤ c) (hc : c ≤ maxLen) (hb : BytesAt w A n) :
    Calls Try.prog 53 #[.slice A n c] w (DrawNodeG w) := by
  have hpV : Past w (w.alloc (.cells #[.int .i64 0, .slice none 0 0] 25)) := (Past.refl w).alloc _
  go_enter Try.func53, Try.ntmps53
  go_wp2_with fail
  refine (open_any A n c _ hn hc (hb.below hpV)).mono ?_
  rintro e w1 ⟨R, n', c', rfl, hR, hrd, hb1⟩
  rw [World.size_alloc] at hR
  have hF : RdF w1 R _ A n' c' (26 + 83) := ⟨0, by omega, hrd⟩
  have r0 : RowN w1 w.heap.size 25 2 := by
    have r : RowN (w.alloc (.cells #[.int .i64 0, .slice none 0 0] 25)) w.heap.size 25 2 := ⟨_, heap_alloc_new w _, rfl⟩
    exact r.keep (hb1.block _ r.lt)
  have hp1 := hpV.trans hb1
  have hR1 := hF.at_
  clear hrd hb1 hpV
  go_wp2_with fail
  refine (l30AnyNet_any R _ A n' c' 26 w1 hF).mono ?_
  rintro e w2 ⟨m, B, k, cap, xs, rfl, hxk, hk, hxB, hoB, hr2, hg2⟩
  have hp2 : Past w w2 := Below.grown hp1 hg2 hp1.size (fun k e => by injection e with e; omega)
  have r2 := r0.young hg2 (by omega)
  have hBR : blk B ≠ some R := hoB.ne_blk hR1
  have hform := ownForm hoB
  have hfar : ∀ g, g < w.heap.size → blk B ≠ some g := fun g hg => hoB.ne_blk (Nat.lt_of_lt_of_le hg hp1.size)
  have hneB : blk B ≠ some w.heap.size := hoB.ne_blk (by omega)
  have s12 := hg2.size
  obtain ⟨W, hW⟩ : ∃ W, W = w2.alloc (.cells #[.int .i64 m, .slice B k cap] 25) := ⟨_, rfl⟩
  have hpW : Past w2 W := by rw [hW]; exact (Past.refl w2).alloc _
  have b0 : W.cell? ⟨w2.heap.size, 0, none⟩ = some (.int .i64 m) := by rw [hW]; go_simp
  have b1 : W.cell? ⟨w2.heap.size, 1, none⟩ = some (.slice B k cap) := by rw [hW]; go_simp
  have hxW := hxB.below hpW
  have hrW := hr2.below hpW
  have r3 := r2.keep (hpW.block _ r2.lt)
  have hp3 := hp2.trans hpW
  have hs2 : w.heap.size < w2.heap.size := r2.lt
  go_upto_region 3 with (fail)
  rw [← hW]
  clear hW hoB hr2 hg2 hxB r0 hF
  have hNR : w2.heap.size ≠ R := by omega
  have hq0 : ∀ (u : World) (j : Nat) (x : Value), (u.setCell ⟨w.heap.size, j, none⟩ x).cell? ⟨w2.heap.size, 0, none⟩ = u.cell? ⟨w2.heap.size, 0, none⟩ := fun u j x => World.cell?_setCell_other _ _ _ _ (by intro e; injection e; omega)
  have hq1 : ∀ (u : World) (j : Nat) (x : Value), (u.setCell ⟨w.heap.size, j, none⟩ x).cell? ⟨w2.heap.size, 1, none⟩ = u.cell? ⟨w2.heap.size, 1, none⟩ := fun u j x => World.cell?_setCell_other _ _ _ _ (by intro e; injection e; omega)
  go_region_held3 (fun w' => w'.cell? ⟨w2.heap.size, 0, none⟩ = some (.int .i64 m) ∧ w'.cell? ⟨w2.heap.size, 1, none⟩ = some (.slice B k cap))
    (first | go_keep | (simp only [hq0, hq1]; assumption))
    (first
      | (go_at_call 62; refine (l30Node_any R _ A B n' c' 24 k cap m _ hrW.drew).mono ?_; rintro e w5 ⟨z, rfl, hr5, hg5⟩; have b0 := cell_far hg5 b0 hNR; have b1 := cell_far hg5 b1 hNR; have r5 : RowN w5 w.heap.size 25 2 := RowN.young (w := W.drew) r3 hg5 (by omega); obtain ⟨y0, e0⟩ := r5.cell (i := 0) (by omega); obtain ⟨y1, e1⟩ := r5.cell (i := 1) (by omega); have z0 := r5.frozen 0; have z1 := r5.frozen 1))
  have hp5 : Past w w5 := Below.grown hp3.drew hg5 hp3.size (fun k e => by injection e with e; omega)
  have hx5 := ((hxW.drew.grown hg5 (fun b e => by injection e with e; rw [← e]; exact hBR)).far ⟨w.heap.size, 0, none⟩ (.int .i64 m) hneB).far ⟨w.heap.size, 1, none⟩ (.slice B k cap) hneB
  have hbel := Below.setCell (Below.setCell hp5 (p := ⟨w.heap.size, 0, none⟩) (by simp) (.int .i64 m)) (p := ⟨w.heap.size, 1, none⟩) (by simp) (.slice B k cap)
  clear hg5 hr5
  go_wp2
  exact bodyPost_ret (v := .tuple #[.agg #[.int .i64 m, .slice B k cap], .int .i64 z]) (by simp [results, Try.results53, go_sem, e0, e1]) rfl ⟨m, B, k, cap, xs, z, rfl, hxk, hk, hx5, ⟨hfar, hform⟩, hbel⟩

end Go.Proofs.Ytaojognjkiifmab

namespace Go.Proofs.Ytaojognjkiifmab
open Go.RowKit

/-- What is known between the draws of one statement. -/
structure CoI (w0 : World) (R lo : Nat) (A : Option Addr) (n c f rb nb : Nat) (m : Int) (B : Option Addr) (k cap : Nat) (xs : List ArcD) (u : World) : Prop where
  rd : RdF u R lo A n c f
  n0 : u.cell? ⟨nb, 0, none⟩ = some (.int .i64 m)
  n1 : u.cell? ⟨nb, 1, none⟩ = some (.slice B k cap)
  row : RowN u rb 25 2
  arcs : ArcsAt u B xs
  gr : w0.grownBy u (some R)

theorem CoI.alloc {w0 u : World} {R lo n c f rb nb k cap : Nat} {A B : Option Addr} {m : Int} {xs : List ArcD} (h : CoI w0 R lo A n c f rb nb m B k cap xs u) (o : Obj) : CoI w0 R lo A n c f rb nb m B k cap xs (u.alloc o) :=
  ⟨h.rd.alloc o, cell_in ((Past.refl u).alloc o) h.n0, cell_in ((Past.refl u).alloc o) h.n1, h.row.keep (Below.heap_alloc u o _ h.row.lt), h.arcs.below ((Past.refl u).alloc o), grown_trans h.gr (World.grownBy_alloc u o _)⟩
theorem CoI.drew {w0 u : World} {R lo n c f rb nb k cap : Nat} {A B : Option Addr} {m : Int} {xs : List ArcD} (h : CoI w0 R lo A n c f rb nb m B k cap xs u) : CoI w0 R lo A n c f rb nb m B k cap xs u.drew :=
  ⟨h.rd.drew, h.n0, h.n1, h.row, h.arcs, ⟨h.gr.os, h.gr.tape, h.gr.output, h.gr.size, h.gr.block⟩⟩
theorem CoI.step {w0 u u' : World} {R lo n c f f' rb nb k cap : Nat} {A B : Option Addr} {m : Int} {xs : List ArcD} (h : CoI w0 R lo A n c f rb nb m B k cap xs u) (hr : RdF u' R lo A n c f') (hg : u.grownBy u' (some R)) (h1 : nb ≠ R) (h2 : rb ≠ R) (h3 : blk B ≠ some R) : CoI w0 R lo A n c f' rb nb m B k cap xs u' :=
  ⟨hr, cell_far hg h.n0 h1, cell_far hg h.n1 h1, h.row.young hg h2, h.arcs.grown hg (fun b e => by injection e with e; rw [← e]; exact h3), grown_trans h.gr hg⟩

end Go.Proofs.Ytaojognjkiifmab

namespace Go.Proofs.Ytaojognjkiifmab
open Go.RowKit

/-- A net, two nodes and a load were drawn. -/
def DrawLoadWG (w : World) (e : Ending) (w' : World) : Prop :=
  ∃ (m : Int) (B : Option Addr) (k cap : Nat) (xs : List ArcD) (a b d : Int), e = .returned (.tuple #[.agg #[.int .i64 m, .slice B k cap], .int .i64 a, .int .i64 b, .int .i64 d]) ∧ xs.length = k ∧ k ≤ 13 ∧ ArcsAt w' B xs ∧ ((B = none ∧ k = 0) ∨ ∃ g o, B = some ⟨g, o, none⟩) ∧ d ∈ [0, 2, 5, 9, 10] ∧ Below w.heap.size w w' ∧ ∀ g, g < w.heap.size → blk B ≠ some g

set_option maxRecDepth 100000 in
set_option maxHeartbeats 4000000 in
theorem drawLoadWalk_any (A : Option Addr) (n c : Nat) (w : World) (hn : n ≤ c) (hc : c ≤ maxLen) (hb : BytesAt w A n) :
    Calls Try.prog 20 #[.slice A n c] w (DrawLoadWG w) := by
  have hpV : Past w (w.alloc (.cells #[.int .i64 0, .slice none 0 0] 25)) := (Past.refl w).alloc _
  go_enter Try.func20, Try.ntmps20
  go_wp2_with fail
  refine (open_any A n c _ hn hc (hb.below hpV)).mono ?_
  rintro e w1 ⟨R, n', c', rfl, hR, hrd, hb1⟩
  rw [World.size_alloc] at hR
  have hF : RdF w1 R _ A n' c' (26 + 83) := ⟨0, by omega, hrd⟩
  have r0 : RowN w1 w.heap.size 25 2 := by
    have r : RowN (w.alloc (.cells #[.int .i64 0, .slice none 0 0] 25)) w.heap.size 25 2 := ⟨_, heap_alloc_new w _, rfl⟩
    exact r.keep (hb1.block _ r.lt)
  have hp1 := hpV.trans hb1
  have hR1 := hF.at_
  clear hrd hb1 hpV
  go_wp2_with fail
  refine (l30AnyNet_any R _ A n' c' 26 w1 hF).mono ?_
  rintro e w2 ⟨m, B, k, cap, xs, rfl, hxk, hk, hxB, hoB, hr2, hg2⟩
  have hp2 : Past w w2 := Below.grown hp1 hg2 hp1.size (fun k e => by injection e with e; omega)
  have r2 := r0.young hg2 (by omega)
  have hBR : blk B ≠ some R := hoB.ne_blk hR1
  have hform := ownForm hoB
  have hfar : ∀ g, g < w.heap.size → blk B ≠ some g := fun g hg => hoB.ne_blk (Nat.lt_of_lt_of_le hg hp1.size)
  have hneB : blk B ≠ some w.heap.size := hoB.ne_blk (by omega)
  have s12 := hg2.size
  have hs2 : w.heap.size < w2.heap.size := r2.lt
  have hNR : w2.heap.size ≠ R := by omega
  have hwR : w.heap.size ≠ R := by omega
  obtain ⟨V, hV⟩ : ∃ V, V = w2.alloc (.cells #[.int .i64 m, .slice B k cap] 25) := ⟨_, rfl⟩
  have hpV : Past w2 V := by rw [hV]; exact (Past.refl w2).alloc _
  obtain ⟨lo, hV0⟩ : ∃ lo, CoI V R lo A n' c' (24 + 2) w.heap.size w2.heap.size m B k cap xs V := by
    rw [hV]
    exact ⟨_, hr2.alloc _, by go_simp, by go_simp, r2.keep (Below.heap_alloc _ _ _ r2.lt), hxB.below ((Past.refl w2).alloc _), grown_refl _ _⟩
  have hpV3 := hp2.trans hpV
  have hsV := hpV.size
  go_upto_region 3 with (fail)
  rw [← hV]
  clear hV hoB hr2 hg2 hxB r0 r2 hF hpV
  have b0 := hV0.n0
  have b1 := hV0.n1
  go_wp2_with fail
  refine (l30Node_any R _ A B n' c' 24 k cap m _ hV0.rd).mono ?_
  rintro e W ⟨zA, rfl, hr4, hg4⟩
  have hp3 : Past w W := Below.grown hpV3 hg4 hpV3.size (fun k e => by injection e with e; omega)
  have hI0 := hV0.step hr4 hg4 hNR hwR hBR
  have hI : CoI W R _ A n' c' 24 w.heap.size w2.heap.size m B k cap xs W := ⟨hI0.rd, hI0.n0, hI0.n1, hI0.row, hI0.arcs, grown_refl _ _⟩
  have hRW : R < W.heap.size := hI.rd.at_
  have hsW := hg4.size
  obtain ⟨W4, hW4⟩ : ∃ W4, W4 = W := ⟨_, rfl⟩
  subst hW4
  have b0 := hI.n0
  have b1 := hI.n1
  clear hI0 hr4 hg4 hV0 hpV3
  go_wp2_with fail
  refine (l30Node_any R _ A B n' c' 22 k cap m _ hI.rd).mono ?_
  rintro e W6 ⟨zB, rfl, hr6, hg6⟩
  have hp3 : Past w W6 := Below.grown hp3 hg6 hp3.size (fun k e => by injection e with e; omega)
  have hI0 := hI.step hr6 hg6 hNR hwR hBR
  have hI : CoI W6 R _ A n' c' 22 w.heap.size w2.heap.size m B k cap xs W6 := ⟨hI0.rd, hI0.n0, hI0.n1, hI0.row, hI0.arcs, grown_refl _ _⟩
  have hRW : R < W6.heap.size := hI.rd.at_
  have hsW6 := hg6.size
  have b0 := hI.n0
  have b1 := hI.n1
  clear hI0 hr6 hg6
  go_upto_region 5 with (fail)
  have hq0 : ∀ (u : World) (j : Nat) (x : Value), (u.setCell ⟨w.heap.size, j, none⟩ x).cell? ⟨w2.heap.size, 0, none⟩ = u.cell? ⟨w2.heap.size, 0, none⟩ := fun u j x => World.cell?_setCell_other _ _ _ _ (by intro e; injection e; omega)
  have hq1 : ∀ (u : World) (j : Nat) (x : Value), (u.setCell ⟨w.heap.size, j, none⟩ x).cell? ⟨w2.heap.size, 1, none⟩ = u.cell? ⟨w2.heap.size, 1, none⟩ := fun u j x => World.cell?_setCell_other _ _ _ _ (by intro e; injection e; omega)
  have nb0 := World.new_ne W6 _ b0
  have nb1 := World.new_ne W6 _ b1
  have hIa := (hI.alloc (.cells #[.int .i64 0, .int .i64 2, .int .i64 5, .int .i64 9, .int .i64 10] 3)).drew
  have ia1 : IntsAt (W6.alloc (.cells #[.int .i64 0, .int .i64 2, .int .i64 5, .int .i64 9, .int .i64 10] 3)).drew (some ⟨W6.heap.size, 0, none⟩) [0, 2, 5, 9, 10] := ints_new W6 [0, 2, 5, 9, 10] rfl _
  have cA := oneF (f := 21) (l := 5) (cb := 5) [0, 2, 5, 9, 10] hIa.rd rfl (by omega) (by omega) ia1 (by omega)
  clear ia1 hI
  go_region_held3 (fun w' => w'.cell? ⟨w2.heap.size, 0, none⟩ = some (.int .i64 m) ∧ w'.cell? ⟨w2.heap.size, 1, none⟩ = some (.slice B k cap))
    (first | go_keep | (simp only [hq0, hq1]; assumption))
    (first
      | (go_at_call 63; (with_reducible refine cA.mono ?_); rintro e w7 ⟨q, rfl, hqm, hr7, hg7⟩; have hI := hIa.step hr7 hg7 hNR hwR hBR; clear cA hIa; have b0 := hI.n0; have b1 := hI.n1; obtain ⟨y0, e0⟩ := hI.row.cell (i := 0) (by omega); obtain ⟨y1, e1⟩ := hI.row.cell (i := 1) (by omega); have z0 := hI.row.frozen 0; have z1 := hI.row.frozen 1))
  all_goals (
    have hp7 : Past w w7 := Below.grown hp3 hI.gr hp3.size (fun k e => by injection e with e; omega)
    have hx5 := (hI.arcs.far ⟨w.heap.size, 0, none⟩ (.int .i64 m) hneB).far ⟨w.heap.size, 1, none⟩ (.slice B k cap) hneB
    have hbel := Below.setCell (Below.setCell hp7 (p := ⟨w.heap.size, 0, none⟩) (by simp) (.int .i64 m)) (p := ⟨w.heap.size, 1, none⟩) (by simp) (.slice B k cap)
    go_wp2
    exact bodyPost_ret (v := .tuple #[.agg #[.int .i64 m, .slice B k cap], .int .i64 zA, .int .i64 zB, .int .i64 q]) (by simp [results, Try.results20, go_sem, e0, e1]) rfl ⟨m, B, k, cap, xs, zA, zB, q, rfl, hxk, hk, hx5, hform, hqm, hbel, hfar⟩)

end Go.Proofs.Ytaojognjkiifmab

namespace Go.Proofs.Ytaojognjkiifmab
open Go.ChangeShapes Go.WideShapes Go.ChangeAt Go.RowKit Go.Deep Go.Joins

set_option maxRecDepth 100000 in
theorem open_bytes {H : Type} {enc : TypeId × Value → H} {W : World} {r : Reach} {b0 : Nat} {v : Value} {d : DataW H} {p : List MemPlace} (hv : Value.okWide Try.prog W r b0 22 v)
    (h : DataW.Trod enc Try.prog W 0 (fun _ => true) true 22 v d p) : ∃ (A : Option Addr) (n c : Nat), v = .slice A n c ∧ n ≤ c ∧ c ≤ maxLen ∧ BytesAt W A n := by
  obtain ⟨a0, len, cap, rfl⟩ := okWide_slice Try.underlying22 hv
  obtain ⟨fuel, hf⟩ := h
  rcases open_ints Try.underlying22 Try.underlying5 (by kernel_rfl) (show DataW.trod enc Try.prog W 0 (fun _ => true) true fuel 22 [.slice a0 len cap] = some _ by simpa [Value.cells] using hf) with ⟨hcs, _⟩ | ⟨a, len', cap', zs, hcs, _, hl, hm, hz, _, hcell, hwf⟩
  · injection hcs with hcs
    injection hcs with e1 e2 e3
    subst e1 e2 e3
    exact ⟨none, 0, 0, rfl, Nat.le_refl _, Nat.zero_le _, fun k hk => absurd hk (by omega)⟩
  · injection hcs with hcs
    injection hcs with e1 e2 e3
    subst e1 e2 e3
    simp only [if_true] at hz
    refine ⟨some a, _, _, rfl, hl, hm, fun k hk => ?_⟩
    have hc := hcell k (by omega)
    obtain ⟨g, o, rfl⟩ := spotless (hcell 0 (by omega))
    rw [addr_add] at hc
    have hw := hwf (zs.getD k 0) (by rw [List.getD_eq_getElem?_getD, List.getElem?_eq_getElem (by omega)]; simp)
    refine ⟨g, o, _, rfl, hc, ?_⟩
    simp only [Lit.wf, Bool.and_eq_true, decide_eq_true_eq] at hw
    rw [show IntKind.u8.min = 0 by decide, show IntKind.u8.max = 255 by decide] at hw
    exact hw

end Go.Proofs.Ytaojognjkiifmab

namespace Go.Proofs.Ytaojognjkiifmab
open Go.RowKit

section
variable {F : Fence} {n : Nat} {P : Program} {C : World → Prop}

/-- What is asked of an operation in every world of a class holds in one of them, whatever the frame is, unless it defers. -/
theorem op_round {o : Oper} {a : Act} {K : Act → Prop} {K' : Act → World → Prop} {Q' : Exit → Act → World → Prop} {w : World} (hd : ∀ c, o.op ≠ .defer c) (hw : C w) (h : ∀ a w', C w' → K a → K' a w')
    (ha : o.askedIn F P a C) (hh : o.quietIn F n P a C K) : o.wpIn F n P a w K' Q' := by
  obtain ⟨v, h1, h2⟩ := hh
  have h3 := h1 w hw
  refine ⟨ha w hw, ?_⟩
  rw [Oper.semAt_plain F _ _ hd]
  unfold Oper.quietAtIn at h3
  generalize (execOp a.eval o).run P w = r at h3 ⊢
  match r, h3 with
  | .ok (.value u) w', h3 => obtain ⟨rfl, rfl⟩ := h3; exact h _ _ hw h2
  | .ok .skip w', h3 => obtain ⟨rfl, rfl⟩ := h3; exact h _ _ hw h2
  | .ok (.enter f args) w', h3 =>
    obtain ⟨rfl, hdp, hc⟩ := h3
    refine ⟨hdp, hc.mono fun e w'' q => ?_⟩
    obtain ⟨rfl, hw''⟩ := q
    exact h _ _ hw'' h2
theorem any_round {md : Region.Mode} {ops : Array Oper} {Q : Act → Prop} {Q' : Exit → Act → World → Prop} (hd : ∀ (i : Nat) o, ops[i]? = some o → ∀ c, o.op ≠ .defer c) (hQ : ∀ a w, C w → Q a → Q' .normal a w) : ∀ (fuel : Nat) (listed : Array Bool) (a : Act) (w : World), C w →
    wpAnyQIn F n P md ops C Q fuel listed a → wpAnyIn F n P md ops Q' fuel listed a w
  | 0, _, _, _, hw, h => ⟨h.1, hQ _ _ hw h.2⟩
  | fuel + 1, listed, a, w, hw, h => by
    refine ⟨fun h0 => hQ _ _ hw (h.1 h0), fun i hi => ?_⟩
    have hq := h.2 i hi
    have next := fun a' w' (hw' : C w') => any_round (md := md) hd hQ fuel (listed.setIfInBounds i true) a' w' hw'
    unfold qOpIn at hq
    unfold wpOpIn
    split
    · rename_i ho
      simp only [ho] at hq
      exact next _ _ hw hq
    · rename_i o ho
      simp only [ho] at hq
      obtain ⟨ha, hq⟩ := hq
      split
      · rename_i hwt
        simp only [hwt, if_true] at hq
        exact op_round (hd i o ho) hw next ha hq
      · rename_i hwt
        simp only [hwt] at hq
        exact ⟨ha w hw, next _ _ hw hq⟩
theorem wpIn_region_past {id : Nat} {Q : Exit → Act → World → Prop} {a : Act} {w : World} {l : List Oper} (hm : P.follows .mixedOrders = true) (hB : Region.lexB .any l.toArray = true) (hd : ∀ o ∈ l, ∀ c, o.op ≠ .defer c)
    (h : wpQuietIn F n P l.toArray (fun w' => ∃ p : PastOf w, w' = p.W) (fun a' => ∀ w', (∃ p : PastOf w, w' = p.W) → Q .normal a' w') l a) : (Code.region id l.toArray true).wpIn F n P Q a w := by
  simp only [Region.lexB, Bool.and_eq_true] at hB
  refine wpIn_region_any hm (any_round (C := fun w' => ∃ p : PastOf w, w' = p.W) (Q := fun a' => ∀ w', (∃ p : PastOf w, w' = p.W) → Q .normal a' w') (fun i o ho => hd o (by have := List.mem_of_getElem? (l := l) (i := i) (a := o) (by simpa using ho); exact this)) (fun _ w' hw' h => h w' hw') _ _ _ _ ⟨⟨w.drew, (Past.refl w).drew⟩, rfl⟩ ?_)
  have := wpAnyQIn_lex (F := F) (n := n) (P := P) (C := fun w' => ∃ p : PastOf w, w' = p.W) (md := .any) hB.1 l 0 (Array.replicate l.toArray.size false) a (by simp) (by simpa using hB.2) h
  simpa using this
/-- A callee's contract, met in a later world. -/
theorem pastIn_call {f : FuncId} {args : Array Value} {w : World} {p : PastOf w} {v : Value}
    (h : CallsIn F n P f args p.W fun e w' => e = .returned v ∧ Below p.W.heap.size p.W w') : CallsIn F n P f args p.W fun e w'' => e = .returned v ∧ ∃ p : PastOf w, w'' = p.W :=
  h.mono fun _ _ ⟨he, hb⟩ => ⟨he, ⟨_, p.h.trans hb⟩, rfl⟩
end

end Go.Proofs.Ytaojognjkiifmab

namespace Go.Proofs.Ytaojognjkiifmab
open Go.RowKit Go.Shelf

attribute [local go_sem] Oper.semAt_some

theorem outTo_cut (xs : List ArcD) (node : Int) : ∀ (n : Nat) (p : List Int) (k : Nat), p ++ [(k : Int)] <+: outTo xs node n → p = outTo xs node k
  | 0, p, k, h => by simp [outTo] at h
  | n + 1, p, k, h => by
    unfold outTo at h
    split at h
    · rcases List.prefix_concat_iff.1 h with e | e
      · obtain ⟨e1, e2⟩ := List.append_inj' e rfl
        have : (k : Int) = (n : Int) := by simpa using e2
        have : k = n := by omega
        rw [e1, this]
      · exact outTo_cut xs node n p k e
    · exact outTo_cut xs node n p k h

/-- What is read between two rounds. -/
structure FState (w W : World) (m node : Int) (B : Option Addr) (k cap g M : Nat) (L : List LenD) : Prop where
  past : Past w W
  n1 : W.cell? ⟨w.heap.size, 1, none⟩ = some (.slice B k cap)
  ls : W.cell? ⟨w.heap.size + 1, 0, none⟩ = some (.slice (some ⟨g, 0, none⟩) M M)
  nd : W.cell? ⟨w.heap.size + 1 + 1, 0, none⟩ = some (.int .i64 node)
  res : W.cell? ⟨w.heap.size + 1 + 1 + 1, 0, none⟩ = some (.int .i64 0)
  free : W.frozen? ⟨w.heap.size + 1 + 1 + 1, 0, none⟩ = false
  size : w.heap.size + 6 ≤ W.heap.size

section
variable {w W W' : World} {m node : Int} {B : Option Addr} {k cap g M : Nat} {L : List LenD}
theorem FState.later (h : FState w W m node B k cap g M L) (hp : Past W W') : FState w W' m node B k cap g M L :=
  ⟨h.past.trans hp, cell_in hp h.n1, cell_in hp h.ls, cell_in hp h.nd, cell_in hp h.res, free_in hp h.res h.free, Nat.le_trans h.size hp.size⟩
theorem FState.turn {row : Option Nat} (h : FState w W m node B k cap g M L) (hg : W.grownBy W' row) (hr : ∀ r, row = some r → w.heap.size + 6 ≤ r ∧ ∃ o : Obj, W.heap[r]? = some o ∧ o.isCells = false) : FState w W' m node B k cap g M L := by
  have kc : ∀ {p v}, W.cell? p = some v → W'.cell? p = some v := fun hc => cell_kept hc hg (fun r e => (hr r e).2)
  refine ⟨?_, kc h.n1, kc h.ls, kc h.nd, kc h.res, (frozen_kept h.res hg (fun r e => (hr r e).2)).trans h.free, Nat.le_trans h.size hg.size⟩
  exact Below.grown h.past hg h.past.size (fun r e => by have := (hr r e).1; omega)
end

/-- None of these arcs begins a best way. -/
def NoneIn (xs : List ArcD) (L : List LenD) (node : Int) (pre : List Int) : Prop := ∀ i ∈ pre, ∀ a, xs[i.toNat]? = some a → goB L node a = false

theorem noneIn_snoc {xs : List ArcD} {L : List LenD} {node : Int} {pre : List (Hit xs node)} {j : Nat} {a : ArcD} {h : HitP xs node (j : Int)} (hN : NoneIn xs L node (nums pre)) (ha : xs[j]? = some a) (hg : goB L node a = false) : NoneIn xs L node (nums (pre ++ [⟨(j : Int), h⟩])) := fun i hi b hb => by
  rw [nums_snoc] at hi
  rcases List.mem_append.1 hi with hi | hi
  · exact hN i hi b hb
  · simp at hi
    subst hi
    rw [Int.toNat_natCast, ha] at hb
    injection hb with hb
    rw [← hb]
    exact hg
theorem tree_none {xs : List ArcD} {L : List LenD} {node : Int} {n : Nat} (hn : xs.length = n) (h : NoneIn xs L node (outTo xs node n)) : treeI xs L node = -1 := by
  refine firstI_none fun i a hi ha => ?_
  by_cases hf : a.f = node
  · exact h (i : Int) (outTo_all xs node n i a (by omega) ha hf) a (by simpa using ha)
  · simp [goB, hf]
theorem tree_here {xs : List ArcD} {L : List LenD} {node : Int} {n j : Nat} {a : ArcD} {p : List Int} (hp : p ++ [(j : Int)] <+: outTo xs node n) (h : NoneIn xs L node p) (ha : xs[j]? = some a) (hg : goB L node a = true) : treeI xs L node = j := by
  have e := outTo_cut xs node n p j hp
  refine firstI_here (fun i b hi hb => ?_) ha hg
  by_cases hf : b.f = node
  · exact h (i : Int) (by rw [e]; exact outTo_all xs node j i b hi hb hf) b (by simpa using hb)
  · simp [goB, hf]

set_option maxRecDepth 1000000 in
set_option maxHeartbeats 4000000 in
theorem firstArc_in (M nd : Nat) (B : Option Addr) (k cap : Nat) (xs : List ArcD) (g : Nat) (L : List LenD) (w : World) (hkk : k ≤ 16) (hxk : xs.length = k) (hx : ArcsAt w B xs) (hin : ArcsIn M xs) (hnM : nd < M) (hl : L.length = M)
    (hrow : ∀ j a, L[j]? = some a → w.cell? ⟨g, j * 2, none⟩ = some (.int .i64 a.x0) ∧ w.cell? ⟨g, j * 2 + 1, none⟩ = some (.int .i64 a.x1)) (hbd : ∀ v : Int, 0 ≤ v → v < M → 0 ≤ (lab L v).x0 ∧ (lab L v).x0 ≤ 99999 ∧ 0 ≤ (lab L v).x1 ∧ (lab L v).x1 ≤ 7) :
    CallsIn Fence.wide 4 Try.prog 101 #[.agg #[.int .i64 (M : Int), .slice B k cap], .slice (some ⟨g, 0, none⟩) M M, .int .i64 (nd : Int)] w (fun e w' => e = .returned (.int .i64 (treeI xs L (nd : Int))) ∧ Below w.heap.size w w') := by
  have HROW := Lib.hid hrow
  have HBD := Lib.hid hbd
  have HX := Lib.hid hx
  clear hrow hbd hx
  refine callsIn_of_wp_marks Try.func101 rfl trivial ?_ rfl
  simp only [Try.ntmps101, List.size_toArray, List.length_cons, List.length_nil, Nat.reduceAdd, Nat.reduceSub, Array.replicate_succ, Array.replicate_zero, List.push_toArray, List.append_toArray, List.nil_append, List.cons_append]
  gi_wp2_with fail
  refine ⟨trivial, ?_⟩
  refine (callsIn_wide.2 (arcsFrom_any (M : Int) (nd : Int) B k cap _)).mono ?_
  rintro e w5 ⟨rfl, hw5⟩
  have hs5 : w5.heap.size = w.heap.size + 6 := by rw [hw5]; simp
  have hp5 : Past w w5 := by rw [hw5]; exact ((((((Past.refl _).alloc _).alloc _).alloc _).alloc _).alloc _).alloc _
  have hF0 : FState w w5 (M : Int) (nd : Int) B k cap g M L := ⟨hp5, by rw [hw5]; go_simp, by rw [hw5]; go_simp, by rw [hw5]; go_simp, by rw [hw5]; go_simp, by rw [hw5]; go_simp, by omega⟩
  have hC : ArcsC (w.heap.size + 1 + 1 + 1 + 1) (w.heap.size + 1 + 1 + 1 + 1 + 1) (M : Int) (nd : Int) B k cap xs w5 := ⟨by rw [hw5]; go_simp, by rw [hw5]; go_simp, by rw [hw5]; go_simp, HX.out.below hp5⟩
  simp only [World.size_alloc]
  clear hw5
  gi_wp2_with fail
  refine wpIn_rangeFunc_ownG rfl (by omega) (gf := 120) (lb := #[.pointer (some ⟨w.heap.size + 1 + 1 + 1 + 1, 0, none⟩), .pointer (some ⟨w.heap.size + 1 + 1 + 1 + 1 + 1, 0, none⟩)]) rfl trivial (enters_of Try.func120 (by kernel_rfl) rfl)
    (arcsK_stops Fence.wide 3 trivial rfl (by omega) (w.heap.size + 1 + 1 + 1 + 1) (w.heap.size + 1 + 1 + 1 + 1 + 1) w.heap.size (M : Int) (nd : Int) B k cap xs hxk (by omega) w HX.out (Nat.le_refl _) w5 hC)
    (fun h k => h.trans k) (fun W l o o' hl ho hc hw => ⟨belowK_b (w := w5) (by omega) W l o o' hl ho hc hw, World.putObj_heap_other (by omega), World.putObj_heap_other (by omega)⟩) (Below.refl _ _) (fun _ => rfl)
    (fun pre W => FState w W (M : Int) (nd : Int) B k cap g M L ∧ NoneIn xs L (nd : Int) (nums pre))
    (fun c pre W => c = .ret ∧ ∃ (j : Nat) (a : ArcD) (p : List Int), nums pre = p ++ [(j : Int)] ∧ NoneIn xs L (nd : Int) p ∧ xs[j]? = some a ∧ goB L (nd : Int) a = true ∧ W.cell? ⟨w.heap.size + 1 + 1 + 1, 0, none⟩ = some (.int .i64 (j : Int)) ∧ Past w W)
    (fun pre A B row hs hg hr => ⟨hs.1.turn hg (fun r e => by have := hr r e; rw [hs5] at this; exact this), hs.2⟩)
    (fun c pre A B row hs hg hr => by
      obtain ⟨h1, j, a, p, h2, h3, h4, h5, h6, h7⟩ := hs
      exact ⟨h1, j, a, p, h2, h3, h4, h5, cell_kept h6 hg (fun r e => (hr r e).2), Below.grown h7 hg h7.size (fun r e => by have := (hr r e).1; omega)⟩)
    ⟨hF0, fun i hi => by simp [nums] at hi⟩
    (fun x => { tmps := #[.agg #[.int .i64 (M : Int), .slice B k cap], .slice (some ⟨g, 0, none⟩) M M, .int .i64 (nd : Int), .pointer (some ⟨w.heap.size, 0, none⟩), .pointer (some ⟨w.heap.size + 1, 0, none⟩), .pointer (some ⟨w.heap.size + 1 + 1, 0, none⟩), .pointer (some ⟨w.heap.size + 1 + 1 + 1, 0, none⟩), .int .i64 x.1, undef, .agg #[.int .i64 (M : Int), .slice B k cap], .int .i64 (nd : Int), .func (.func 120) #[] #[.pointer (some ⟨w.heap.size + 1 + 1 + 1 + 1, 0, none⟩), .pointer (some ⟨w.heap.size + 1 + 1 + 1 + 1 + 1, 0, none⟩)], .int .i64 x.1, undef, undef, undef, undef, undef, undef, undef, undef, undef, undef, undef, undef, undef, undef, undef, undef, undef, undef], defers := [] }) ?assign ?body ?done ?stop
  case assign =>
    intro l x W K hK
    gi_wp2
    exact hK
  case body =>
    rintro l pre ⟨x, j, ⟨f, t, c, l', d⟩, rfl, ha, hf⟩ W ⟨hS, hN⟩ hlt
    have hf : f = (nd : Int) := hf
    subst hf
    have hb := hin _ (List.mem_of_getElem? ha)
    simp only at hb
    obtain ⟨T, rfl⟩ : ∃ T : Nat, t = (T : Int) := ⟨t.toNat, by omega⟩
    have hjk : j < k := by rw [← hxk]; exact (List.getElem?_eq_some_iff.1 ha).1
    obtain ⟨bb, oo, rfl, c0, c1, c2, c3, c4⟩ := (HX.out.below hS.past) j _ ha
    have n1 := hS.n1
    have hTM : T < M := by omega
    have hTM' : (T : Int) < (M : Int) := by omega
    have hT0 : (0 : Int) ≤ (T : Int) := by omega
    have hD0 : (0 : Int) ≤ (nd : Int) := by omega
    have hDM : (nd : Int) < (M : Int) := by omega
    have hj0 : (0 : Int) ≤ (j : Int) := by omega
    have hjk' : (j : Int) < (k : Int) := by omega
    obtain ⟨⟨y0, y1⟩, hy⟩ : ∃ a, L[T]? = some a := ⟨_, List.getElem?_eq_getElem (by rw [hl]; exact hTM)⟩
    obtain ⟨⟨x0, x1⟩, hx⟩ : ∃ a, L[nd]? = some a := ⟨_, List.getElem?_eq_getElem (by rw [hl]; exact hnM)⟩
    have hlT : lab L (T : Int) = ⟨y0, y1⟩ := by unfold lab; rw [Int.toNat_natCast, List.getD_eq_getElem?_getD, hy]; rfl
    have hlD : lab L (nd : Int) = ⟨x0, x1⟩ := by unfold lab; rw [Int.toNat_natCast, List.getD_eq_getElem?_getD, hx]; rfl
    have hbT := HBD.out (T : Int) hT0 hTM'
    rw [hlT] at hbT
    simp only at hbT
    have hgo : goB L (nd : Int) ⟨(nd : Int), (T : Int), c, l', d⟩ = decide (y0 + c = x0 ∧ y1 + 1 = x1) := by
      unfold goB plusL
      simp only [hlT, hlD]
      simp
    have HGO := Lib.hid hgo
    obtain ⟨W1, hW1⟩ : ∃ W1, W1 = W.alloc (.cells #[.int .i64 (nd : Int), .int .i64 (T : Int), .int .i64 c, .int .i64 l', .int .i64 d] 34) := ⟨_, rfl⟩
    have hpA : Past W W1 := by rw [hW1]; exact (Past.refl W).alloc _
    have hS1 := hS.later hpA
    have d0 := past_cell (w := W1) (p := ⟨W.heap.size, 0, none⟩) (v := .int .i64 (nd : Int)) (by rw [hW1]; go_simp)
    have d1 := past_cell (w := W1) (p := ⟨W.heap.size, 1, none⟩) (v := .int .i64 (T : Int)) (by rw [hW1]; go_simp)
    have d2 := past_cell (w := W1) (p := ⟨W.heap.size, 2, none⟩) (v := .int .i64 c) (by rw [hW1]; go_simp)
    have d3 := past_cell (w := W1) (p := ⟨W.heap.size, 3, none⟩) (v := .int .i64 l') (by rw [hW1]; go_simp)
    have d4 := past_cell (w := W1) (p := ⟨W.heap.size, 4, none⟩) (v := .int .i64 d) (by rw [hW1]; go_simp)
    have p0 := past_cell hS1.ls
    have p1 := past_cell hS1.nd
    obtain ⟨r0, r1⟩ := HROW.out T _ hy
    obtain ⟨s0, s1⟩ := HROW.out nd _ hx
    have r0 := past_cell (cell_in hS1.past r0)
    have r1 := past_cell (cell_in hS1.past r1)
    have s0 := past_cell (cell_in hS1.past s0)
    have s1 := past_cell (cell_in hS1.past s1)
    simp only at r0 r1 s0 s1
    have C1 := Lib.hid (fun u : World => CallsIn.inRound l (callsIn_wide (n := 1).2 (plus_any y0 y1 (nd : Int) (T : Int) c l' d u (by omega) (by omega) (by omega))))
    have HW1 := Lib.hid hW1
    clear hW1 hy hx hlT hlD hgo hb
    have HK : Hid (∀ W8, Past W1 W8 → KeepsFrom w5.heap.size W W8 ∧ KArcs w.heap.size (w.heap.size + 1 + 1 + 1 + 1) (w.heap.size + 1 + 1 + 1 + 1 + 1) W W8) := fun W8 hW8 => by
      have hp8 := hpA.trans hW8
      have hsz := hS.size
      have h0 := hS.past.size
      exact ⟨⟨hp8.size, fun b o _ ho _ => (hp8.block b (Array.getElem?_eq_some_iff.1 ho).1).trans ho⟩, hp8.mono h0, hp8.block _ (by omega), hp8.block _ (by omega)⟩
    have hFw : Fence.wide.fn 108 := trivial
    by_cases E1 : y0 + c = x0
    · have g1 : (y0 + c == x0) = true := by simpa using E1
      by_cases E2 : y1 + 1 = x1
      · have g2 : (y1 + 1 == x1) = true := by simpa using E2
        have hgt : goB L (nd : Int) ⟨(nd : Int), (T : Int), c, l', d⟩ = true := by rw [HGO.out]; simp [E1, E2]
        subst E1 E2
        gi_wp2_with fail
        rw [← HW1.out]
        refine wpIn_region_past (by kernel_rfl) (by kernel_rfl) (by simp) ?_
        repeat (gi_big_quiet_step (with_reducible exact rfl))
        gi_big_quiet_step (exact pastIn_call (C1.out _))
        repeat (gi_big_quiet_step (with_reducible exact rfl))
        refine wpQuietIn_nil ?_
        rintro W8 ⟨⟨_, hW8⟩, rfl⟩
        have hS8 := hS1.later hW8
        have q1 := hS8.res
        have q2 := hS8.free
        gi_wp2
        exact ⟨(HK.out W8 hW8).1.trans ((KeepsOthers.setCell W8 _ _).from _), rfl, j, _, nums pre, by rw [nums_snoc], hN, ha, hgt, World.cell?_setCell_same' W8 _ _ (by rw [q1]; rfl), Below.setCell hS8.past (p := ⟨w.heap.size + 1 + 1 + 1, 0, none⟩) (by simp; omega) _⟩
      · have g2 : (y1 + 1 == x1) = false := by simpa using E2
        have hgt : goB L (nd : Int) ⟨(nd : Int), (T : Int), c, l', d⟩ = false := by rw [HGO.out]; simp [E2]
        subst E1
        gi_wp2_with fail
        rw [← HW1.out]
        refine wpIn_region_past (by kernel_rfl) (by kernel_rfl) (by simp) ?_
        repeat (gi_big_quiet_step (with_reducible exact rfl))
        gi_big_quiet_step (exact pastIn_call (C1.out _))
        repeat (gi_big_quiet_step (with_reducible exact rfl))
        refine wpQuietIn_nil ?_
        rintro W8 ⟨⟨_, hW8⟩, rfl⟩
        gi_wp2
        exact ⟨(HK.out W8 hW8).1, (HK.out W8 hW8).2, hS1.later hW8, noneIn_snoc hN ha hgt⟩
    · have g1 : (y0 + c == x0) = false := by simpa using E1
      have hgt : goB L (nd : Int) ⟨(nd : Int), (T : Int), c, l', d⟩ = false := by rw [HGO.out]; simp [E1]
      gi_wp2_with fail
      rw [← HW1.out]
      refine wpIn_region_past (by kernel_rfl) (by kernel_rfl) (by simp) ?_
      repeat (gi_big_quiet_step (with_reducible exact rfl))
      gi_big_quiet_step (exact pastIn_call (C1.out _))
      repeat (gi_big_quiet_step (with_reducible exact rfl))
      refine wpQuietIn_nil ?_
      rintro W8 ⟨⟨_, hW8⟩, rfl⟩
      gi_wp2
      exact ⟨(HK.out W8 hW8).1, (HK.out W8 hW8).2, hS1.later hW8, noneIn_snoc hN ha hgt⟩
  case done =>
    rintro D ys W hD hys ⟨hS, hN⟩ hK
    have hr := hS.res
    have hfz := hS.free
    gi_wp2
    have hK' := (KeepsOthers.setCell W ⟨w.heap.size + 1 + 1 + 1, 0, none⟩ (.int .i64 (-1))).same D _ hK rfl
    refine ⟨by simp, .inl ⟨_, _, rfl, run_takeDeferred hK', ?_⟩⟩
    have hc5 := cell_kept (World.cell?_setCell_same' W ⟨w.heap.size + 1 + 1 + 1, 0, none⟩ (.int .i64 (-1)) (by rw [hr]; rfl)) (grownBy_putObj' _ D (.deferred none)) (fun r e => by cases e; exact ⟨_, hK', rfl⟩)
    rw [hys] at hN
    refine ⟨.int .i64 (-1), ?_, by rw [tree_none hxk hN], (Below.setCell hS.past (p := ⟨w.heap.size + 1 + 1 + 1, 0, none⟩) (by simp; omega) _).trans (belowK_b (w := w) (Nat.le_refl _) _ D _ _ (by omega) hK' rfl rfl)⟩
    simp [results, Try.results101, go_sem, hc5]
  case stop =>
    rintro D c pre W hD hpre ⟨rfl, j, a, p, e1, h3, h4, h5, hcr, hB⟩ hK
    gi_wp2
    refine ⟨by simp, .inl ⟨_, _, rfl, run_takeDeferred hK, ?_⟩⟩
    have hc5 := cell_kept hcr (grownBy_putObj' _ D (.deferred none)) (fun r e => by cases e; exact ⟨_, hK, rfl⟩)
    rw [e1] at hpre
    refine ⟨.int .i64 (j : Int), ?_, by rw [tree_here hpre h3 h4 h5], Below.trans hB (belowK_b (w := w) (Nat.le_refl _) W D _ _ (by omega) hK rfl rfl)⟩
    simp [results, Try.results101, go_sem, hc5]

theorem firstArc_any (M nd : Nat) (B : Option Addr) (k cap : Nat) (xs : List ArcD) (g : Nat) (L : List LenD) (w : World) (hkk : k ≤ 16) (hxk : xs.length = k) (hx : ArcsAt w B xs) (hin : ArcsIn M xs) (hnM : nd < M) (hl : L.length = M)
    (hrow : ∀ j a, L[j]? = some a → w.cell? ⟨g, j * 2, none⟩ = some (.int .i64 a.x0) ∧ w.cell? ⟨g, j * 2 + 1, none⟩ = some (.int .i64 a.x1)) (hbd : ∀ v : Int, 0 ≤ v → v < M → 0 ≤ (lab L v).x0 ∧ (lab L v).x0 ≤ 99999 ∧ 0 ≤ (lab L v).x1 ∧ (lab L v).x1 ≤ 7) :
    Calls Try.prog 101 #[.agg #[.int .i64 (M : Int), .slice B k cap], .slice (some ⟨g, 0, none⟩) M M, .int .i64 (nd : Int)] w (fun e w' => e = .returned (.int .i64 (treeI xs L (nd : Int))) ∧ Below w.heap.size w w') :=
  (callsIn_wide (n := 4)).1 (firstArc_in M nd B k cap xs g L w hkk hxk hx hin hnM hl hrow hbd)

end Go.Proofs.Ytaojognjkiifmab

namespace Go.Proofs.Ytaojognjkiifmab
open Go.RowKit

set_option maxRecDepth 100000 in
set_option maxHeartbeats 1000000 in
theorem costsOf_any (g n cap : Nat) (L : List LenD) (w : World) (hn : n ≤ 1048576) (hl : L.length = n) (hr : ∀ j a, L[j]? = some a → w.cell? ⟨g, j * 2, none⟩ = some (.int .i64 a.x0) ∧ w.cell? ⟨g, j * 2 + 1, none⟩ = some (.int .i64 a.x1)) :
    Calls Try.prog 69 #[.slice (some ⟨g, 0, none⟩) n cap] w (Gives w (L.map LenD.x0)) := by
  have hmk := makeInt n hn
  have HL := Lib.hid hl
  have HR := Lib.hid hr
  clear hl hr
  go_enter Try.func69, Try.ntmps69
  go_wp2
  go_loopw [11] (fun i wr => ∃ k : Nat, k ≤ n ∧ i = .int .i64 k ∧ Past w wr ∧ MadeI wr w.heap.size 3 n (L.map LenD.x0) k) (fun i _ => n - (intOf i).toNat)
  case atStart => exact ⟨0, by omega, rfl, (Past.refl w).alloc _, MadeI.start _ _ _ _ _ (by simp [size_madeCells])⟩
  case round =>
    obtain ⟨k, hk, rfl, hb, hm⟩ := hrel
    by_cases hlt : k < n
    · obtain ⟨⟨x0, x1⟩, ha⟩ : ∃ a, L[k]? = some a := ⟨_, List.getElem?_eq_getElem (by have := HL.out; omega)⟩
      obtain ⟨c0, c1⟩ := HR.out k _ ha
      have c0 := cell_in hb c0
      have c1 := cell_in hb c1
      simp only at c0 c1
      have HA : Hid ((L.map LenD.x0)[k]? = some x0) := by rw [Hid, List.getElem?_map, ha]; rfl
      have i0 : (0 : Int) ≤ (k : Int) := by omega
      have i1 : (k : Int) < (n : Int) := by omega
      have hmA := hm.below ((Past.refl wr).alloc (.cells #[.int .i64 x0, .int .i64 x1] 126))
      obtain ⟨v0, e0⟩ := hmA.1.cell (i := k) hlt
      have z0 := hmA.1.frozen k
      have hnx := (hm.next HA.out hlt).below ((Past.refl _).alloc (.cells #[.int .i64 x0, .int .i64 x1] 126))
      have hgk : w.heap.size < wr.heap.size := hm.1.lt
      clear ha
      go_wp2
      go_roundw
      case rel => exact ⟨k + 1, by omega, by go_num, Past.alloc (Below.setCell hb (p := ⟨w.heap.size, k, none⟩) (by simp) _) _, hnx⟩
      case measure => simp [intOf]; omega
    · obtain rfl : n = k := by omega
      go_wp2
      go_ret
      refine ⟨_, rfl, ?_, hb⟩
      have hlm : (L.map LenD.x0).length = n := by rw [List.length_map, HL.out]
      exact (hm.row hlm).res hlm (Nat.le_refl _) hn

set_option maxRecDepth 100000 in
set_option maxHeartbeats 1000000 in
theorem allWithin_any (A : Option Addr) (n c : Nat) (zs : List Int) (mo : Int) (w : World) (hn : n ≤ 1048576) (hl : zs.length = n) (hz : IntsAt w A zs) :
    Calls Try.prog 95 #[.slice A n c, .int .i64 mo] w fun e w' => e = .returned (.bool (zs.all (fun z => inB z 0 mo))) ∧ Below w.heap.size w w' := by
  have HL := Lib.hid hl
  clear hl
  go_enter Try.func95, Try.ntmps95
  go_wp2
  go_loopw [9] (fun i wr => ∃ k : Nat, k ≤ n ∧ i = .int .i64 k ∧ Past w wr ∧ (zs.take k).all (fun z => inB z 0 mo) = true) (fun i _ => n - (intOf i).toNat)
  case atStart => exact ⟨0, by omega, rfl, Past.refl w, by simp⟩
  case round =>
    obtain ⟨k, hk, rfl, hb, hm⟩ := hrel
    have HM := Lib.hid hm
    clear hm
    by_cases hlt : k < n
    · obtain ⟨y, ha⟩ : ∃ a, zs[k]? = some a := ⟨_, List.getElem?_eq_getElem (by have := HL.out; omega)⟩
      obtain ⟨g, o, rfl, c0⟩ := hz k _ ha
      have c0 := cell_in hb c0
      have HA := Lib.hid ha
      have i0 : (0 : Int) ≤ (k : Int) := by omega
      have i1 : (k : Int) < (n : Int) := by omega
      clear ha
      go_wp2_with fail
      refine (within_any y mo _).mono ?_
      rintro e w1 ⟨rfl, rfl⟩
      cases hB : inB y 0 mo with
      | false =>
        have HB := Lib.hid hB
        clear hB
        go_wp2
        go_ret
        exact ⟨ret_bool (by
          symm
          rw [List.all_eq_false]
          exact ⟨y, List.mem_of_getElem? HA.out, by rw [HB.out]; simp⟩), hb⟩
      | true =>
        have HB := Lib.hid hB
        clear hB
        go_wp2
        go_roundw
        case rel => exact ⟨k + 1, by omega, by go_num, hb, by rw [List.take_add_one, List.all_append, HM.out, HA.out]; simp [HB.out]⟩
        case measure => simp [intOf]; omega
    · obtain rfl : n = k := by omega
      go_wp2
      go_ret
      refine ⟨ret_bool ?_, hb⟩
      have := HM.out
      rw [List.take_of_length_le (by have := HL.out; omega)] at this
      exact this.symm

set_option maxRecDepth 100000 in
set_option maxHeartbeats 1000000 in
theorem netHas_any (m : Int) (A : Option Addr) (n c : Nat) (xs : List ArcD) (B : Option Addr) (l cb : Nat) (zs : List Int) (w : World) (hn : n ≤ 1048576) (hnx : xs.length = n) (hx : ArcsAt w A xs) (hl : l ≤ 1048576) (hlz : zs.length = l) (hz : IntsAt w B zs) :
    Calls Try.prog 54 #[.agg #[.int .i64 m, .slice A n c], .slice B l cb] w fun e w' => e = .returned (.bool (netB m xs && zs.all (fun z => inB z 0 (m - 1)))) ∧ Below w.heap.size w w' := by
  have HX := Lib.hid hnx
  have HZ := Lib.hid hlz
  clear hnx hlz
  have hb0 : Past w (w.alloc (.cells #[.int .i64 m, .slice A n c] 25)) := (Past.refl _).alloc _
  go_enter Try.func54, Try.ntmps54
  go_wp2_with fail
  refine (implNetOk_any m A n c xs _ hn HX.out (hx.below hb0)).mono ?_
  rintro e w1 ⟨rfl, hb1⟩
  have b0 := cell_in (p := ⟨w.heap.size, 0, none⟩) (v := .int .i64 m) hb1 (by go_simp)
  cases hB : netB m xs with
  | false =>
    have HB := Lib.hid hB
    clear hB
    go_wp2
    go_ret
    exact ⟨ret_bool (by rw [HB.out]; rfl), hb0.trans hb1⟩
  | true =>
    have hw : IntKind.i64.wrap (m - 1) = m - 1 := by
      obtain ⟨h1, _⟩ := (netB_iff _ _).1 hB
      exact IntWalk.i64_in _ (by omega)
    have HB := Lib.hid hB
    clear hB
    go_wp2_with fail
    refine (allWithin_any B l cb zs (m - 1) _ hl HZ.out ((hz.below hb0).below hb1)).mono ?_
    rintro e w2 ⟨rfl, hb2⟩
    go_wp2
    go_ret
    exact ⟨ret_bool (by rw [HB.out]; rfl), (hb0.trans hb1).trans hb2⟩

end Go.Proofs.Ytaojognjkiifmab

namespace Go.Proofs.Ytaojognjkiifmab
open Go.RowKit

theorem net_ne {m : Int} {xs : List ArcD} (h : netB m xs = true) : ∀ a ∈ xs, a.f ≠ a.t := fun a ha => by
  obtain ⟨_, _, h3⟩ := (netB_iff _ _).1 h
  have := h3 a ha
  simp only [arcB, Bool.and_eq_true, Bool.not_eq_true'] at this
  simpa using this.2.2.1

set_option maxRecDepth 100000 in
set_option maxHeartbeats 1000000 in
theorem implNearAll_any (m : Int) (A : Option Addr) (n c : Nat) (xs : List ArcD) (s : Int) (w : World) (hn : n ≤ 1048576) (hnx : xs.length = n) (hx : ArcsAt w A xs) :
    Calls Try.prog 25 #[.agg #[.int .i64 m, .slice A n c], .int .i64 s] w (Gives w (nearI m xs s)) := by
  have HX := Lib.hid hnx
  clear hnx
  go_enter Try.func25, Try.ntmps25
  have hb0 : Past w ((w.alloc (.cells #[.int .i64 m, .slice A n c] 25)).alloc (.cells #[.int .i64 s] 3)) := ((Past.refl _).alloc _).alloc _
  have hz : IntsAt ((w.alloc (.cells #[.int .i64 m, .slice A n c] 25)).alloc (.cells #[.int .i64 s] 3)) (some ⟨w.heap.size + 1, 0, none⟩) [s] := fun k y hk => by
    cases k with
    | zero => simp at hk; subst hk; exact ⟨_, _, rfl, by go_simp⟩
    | succ k => simp at hk
  go_wp2_with fail
  refine (netHas_any m A n c xs _ 1 1 [s] _ hn HX.out (hx.below hb0) (by omega) rfl hz).mono ?_
  rintro e w1 ⟨rfl, hb1⟩
  have b0 := cell_in (p := ⟨w.heap.size, 0, none⟩) (v := .int .i64 m) hb1 (by go_simp)
  have b1 := cell_in (p := ⟨w.heap.size, 1, none⟩) (v := .slice A n c) hb1 (by go_simp)
  have hx1 := (hx.below hb0).below hb1
  have hp1 := hb0.trans hb1
  have hH : (netB m xs && [s].all (fun z => inB z 0 (m - 1))) = hereB m xs s := by simp [hereB]
  rw [hH]
  clear hH hb0 hz hb1
  cases hB : hereB m xs s with
  | false =>
    have HB := Lib.hid hB
    clear hB
    go_wp2
    go_ret
    exact ⟨_, rfl, by rw [nearI, HB.out]; exact Res.nil _ _, hp1⟩
  | true =>
    obtain ⟨hN, h0, h1⟩ := (hereB_iff _ _ _).1 hB
    obtain ⟨M, rfl, h3, h8⟩ := here_nat hN
    obtain ⟨S, rfl⟩ : ∃ S : Nat, s = (S : Int) := ⟨s.toNat, by omega⟩
    have hS : S < M := by omega
    have h16 : n ≤ 16 := by rw [← HX.out]; exact ((netB_iff _ _).1 hN).2.1
    have HB := Lib.hid hB
    have HN := Lib.hid hN
    clear hB hN
    go_wp2_with fail
    refine (lengths_any M S A n c xs _ (by omega) HX.out hx1 (arcsIn_net HN.out) (net_ne HN.out) h3 (by omega) hS).mono ?_
    rintro e w2 ⟨g, L, rfl, hrow, hLl, hlabs, hopen, hb2⟩
    have HL := Lib.hid hlabs
    have HO := Lib.hid hopen
    clear hlabs hopen
    have HG := Lib.hid (fun j a (hj : L[j]? = some a) => hrow.get hLl hj)
    clear hrow
    go_wp2_with fail
    refine (costsOf_any g M M L _ (by omega) hLl HG.out).mono ?_
    rintro e w3 ⟨v3, rfl, hv3, hb3⟩
    go_wp2
    go_ret
    have hnear := HL.out.near (arcsIn_net HN.out) ⟨h0, h1⟩ (by omega) HO.out
    exact ⟨_, rfl, by rw [nearI, HB.out, if_pos rfl, Int.toNat_natCast, ← hnear]; exact hv3.lower (Nat.le_trans hp1.size hb2.size), (hp1.trans hb2).trans hb3⟩

end Go.Proofs.Ytaojognjkiifmab

namespace Go.Proofs.Ytaojognjkiifmab
open Go.RowKit

/-- What is handed back of a net turned round: of one that is not ok the empty net. -/
def backN (m : Int) (xs : List ArcD) : Int := if netB m xs then m else 0
def backL (m : Int) (xs : List ArcD) : List ArcD := if netB m xs then xs.map flip else []

theorem backL_len (m : Int) (xs : List ArcD) : (backL m xs).length ≤ xs.length := by
  unfold backL
  split <;> simp
/-- A copy of arcs in new memory. -/
def GivesArcs (w : World) (xs : List ArcD) (e : Ending) (w' : World) : Prop := ∃ v, e = .returned v ∧ ResA w' w.heap.size v xs ∧ Below w.heap.size w w'

set_option maxHeartbeats 400000 in
theorem clone_any (g o n c : Nat) (xs : List ArcD) (w : World) (hn : n ≤ 1048576) (hl : xs.length = n) (hx : ArcsAt w (some ⟨g, o, none⟩) xs) :
    Calls Try.prog 116 #[.slice (some ⟨g, o, none⟩) n c] w (GivesArcs w xs) := by
  have HL := Lib.hid hl
  clear hl
  obtain ⟨i0, hi, hz0, hz1, hz2⟩ := info_parts infoArc
  have heq := fun u : World => Lib.run_eql_slice_nil (P := Try.prog) u 23 34 (some ⟨g, o, none⟩) n c 0 0 Try.underlying23
  simp only [Option.isNone_some] at heq
  have hb0 : Past w (w.alloc (.cells #[] 34)) := (Past.refl _).alloc _
  have hv0 : (w.alloc (.cells #[] 34)).ownsRow w.heap.size 34 5 (.slice (some ⟨w.heap.size, 0, none⟩) 0 0) 0 [] := World.ownsRow_made w _ 0 (Nat.le_refl _) (by unfold maxLen; omega) rfl
  have hnews : ∀ j u, (cellsOf xs)[j]? = some u → (w.alloc (.cells #[] 34)).cell? ((⟨g, o, none⟩ : Addr).add j) = some u := fun j u hu => by
    rw [Addr.add_lit]
    refine cells_of_arcs xs o (fun k a hk => ?_) j u hu
    obtain ⟨g', o', e, h5⟩ := (hx.below hb0) k a hk
    injection e with e
    injection e with e1 e2
    subst e1 e2
    exact h5
  have HV := Lib.hid hv0
  have HN := Lib.hid hnews
  clear hv0 hnews
  go_enter Try.func116, Try.ntmps116
  go_wp2_with (first | (at_builtin; refine wpList_append_own _ rfl _ _ 23 rfl w.heap.size 34 i0 _ 5 40 Try.underlying23 hi hz0 hz1 hz2 rfl (by decide) _ 0 [] rfl HV.out ⟨g, o, none⟩ n c (cellsOf xs) rfl (by rw [cellsOf_length, HL.out]) HN.out (cellsOf_one xs) (by unfold maxLen; omega) (by omega) (by simp) ?_; intro v' w3 hown' hgrow3 hnil3))
  go_ret
  refine ⟨_, rfl, ?_, Past.grownBy hb0 HV.out hgrow3 (Nat.le_refl _)⟩
  unfold ResA
  rw [HL.out]
  simpa using hown'

/-- The first k arcs are turned round, the others not yet. -/
def Turned (w : World) (g sz : Nat) (xs : List ArcD) (k : Nat) : Prop :=
  RowN w g 34 sz ∧ (∀ j a, j < k → xs[j]? = some a → Arc5 w g (j * 5) (flip a)) ∧ (∀ j a, k ≤ j → xs[j]? = some a → Arc5 w g (j * 5) a)

theorem Turned.keep {w w' : World} {g sz k : Nat} {xs : List ArcD} (h : Turned w g sz xs k) (e : w'.heap[g]? = w.heap[g]?) : Turned w' g sz xs k :=
  ⟨h.1.keep e, fun j a hj ha => (h.2.1 j a hj ha).keep e, fun j a hj ha => (h.2.2 j a hj ha).keep e⟩

theorem Turned.next {w : World} {g sz k : Nat} {xs : List ArcD} {f t c l d : Int} (h : Turned w g sz xs k) (ha : xs[k]? = some ⟨f, t, c, l, d⟩) :
    Turned ((w.setCell ⟨g, k * 5, none⟩ (.int .i64 t)).setCell ⟨g, k * 5 + 1, none⟩ (.int .i64 f)) g sz xs (k + 1) := by
  refine ⟨(h.1.set _ _).set _ _, fun j a hj hja => ?_, fun j a hj hja => ?_⟩
  · rcases Nat.lt_or_ge j k with hlt | hge
    · exact ((h.2.1 j a hlt hja).set _ _ (by omega)).set _ _ (by omega)
    · obtain rfl : j = k := by omega
      rw [ha] at hja
      injection hja with hja
      subst hja
      obtain ⟨c0, c1, c2, c3, c4⟩ := h.2.2 j _ (Nat.le_refl _) ha
      have oth : ∀ (u : World) (q o : Nat) (x : Value), q ≠ o → (u.setCell ⟨g, q, none⟩ x).cell? ⟨g, o, none⟩ = u.cell? ⟨g, o, none⟩ := fun u q o x hq =>
        World.cell?_setCell_other u ⟨g, q, none⟩ ⟨g, o, none⟩ x (by intro e; injection e; omega)
      refine ⟨?_, ?_, ?_, ?_, ?_⟩
      · rw [oth _ _ _ _ (by omega)]; exact World.cell?_setCell_same w ⟨g, j * 5, none⟩ _ c0
      · exact World.cell?_setCell_same _ ⟨g, j * 5 + 1, none⟩ _ ((oth _ _ _ _ (by omega)).trans c1)
      · rw [oth _ _ _ _ (by omega), oth _ _ _ _ (by omega)]; exact c2
      · rw [oth _ _ _ _ (by omega), oth _ _ _ _ (by omega)]; exact c3
      · rw [oth _ _ _ _ (by omega), oth _ _ _ _ (by omega)]; exact c4
  · exact ((h.2.2 j a (by omega) hja).set _ _ (by omega)).set _ _ (by omega)

end Go.Proofs.Ytaojognjkiifmab

namespace Go.Proofs.Ytaojognjkiifmab
open Go.RowKit

/-- k, k + 1, .. -/
def markInts (k : Nat) (n : Nat) : List Int := (List.range n).map fun i => ((k + i : Nat) : Int)
theorem markInts_length (k n : Nat) : (markInts k n).length = n := by simp [markInts]
theorem markInts_at (k n i : Nat) (h : i < n) : (markInts k n)[i]? = some ((k + i : Nat) : Int) := by simp [markInts, h]
/-- What lies in elder blocks than the one that is written. -/
theorem IntsAt.old {wE w w' : World} {A : Option Addr} {xs : List Int} {g : Nat} (hE : IntsAt wE A xs) (h : IntsAt w A xs) (hg : w.grownBy w' (some g)) (hle : wE.heap.size ≤ g) : IntsAt w' A xs := fun k x hk => by
  obtain ⟨b, o, rfl, hc⟩ := hE k x hk
  obtain ⟨b', o', e, hc'⟩ := h k x hk
  have hb : b < wE.heap.size := lt_of_cell hc
  injection e with e
  injection e with e1 e2
  subst e1 e2
  exact ⟨b, o, rfl, hg.cell hc' (by simp only [ne_eq, Option.some.injEq]; omega)⟩
/-- What lies in younger blocks. -/
theorem IntsAt.young {w w' : World} {A : Option Addr} {xs : List Int} {g lo t : Nat} (ho : OwnAt w lo A t 1 xs.length) (h : IntsAt w A xs) (hg : w.grownBy w' (some g)) (hlt : g < lo) : IntsAt w' A xs := fun k x hk => by
  obtain ⟨b', o', rfl, hc'⟩ := h k x hk
  rcases ho with ⟨h0, _⟩ | ⟨b, sz, e, hl, _, _⟩
  · cases h0
  · injection e with e
    injection e with e1 e2
    subst e1
    exact ⟨b', o', rfl, hg.cell hc' (by simp only [ne_eq, Option.some.injEq]; omega)⟩
theorem IntsAt.under {wE w w' : World} {A : Option Addr} {xs : List Int} {lo : Nat} (hE : IntsAt wE A xs) (h : IntsAt w A xs) (hb : Below lo w w') (hle : wE.heap.size ≤ lo) : IntsAt w' A xs := fun k x hk => by
  obtain ⟨b, o, rfl, hc⟩ := hE k x hk
  obtain ⟨b', o', e, hc'⟩ := h k x hk
  have hb' : b < wE.heap.size := lt_of_cell hc
  injection e with e
  injection e with e1 e2
  subst e1 e2
  exact ⟨b, o, rfl, (hb.cell (p := ⟨b, o + k, none⟩) (by simp only; omega)).trans hc'⟩

end Go.Proofs.Ytaojognjkiifmab

namespace Go.Proofs.Ytaojognjkiifmab
open Go.RowKit

def markArcs (k : Nat) (n : Nat) : List ArcD := (List.range n).map fun i => ⟨((k + 5 * i : Nat) : Int), ((k + 5 * i + 1 : Nat) : Int), ((k + 5 * i + 2 : Nat) : Int), ((k + 5 * i + 3 : Nat) : Int), ((k + 5 * i + 4 : Nat) : Int)⟩
theorem markArcs_length (k n : Nat) : (markArcs k n).length = n := by simp [markArcs]
theorem markArcs_at (k n i : Nat) (h : i < n) : (markArcs k n)[i]? = some ⟨((k + 5 * i : Nat) : Int), ((k + 5 * i + 1 : Nat) : Int), ((k + 5 * i + 2 : Nat) : Int), ((k + 5 * i + 3 : Nat) : Int), ((k + 5 * i + 4 : Nat) : Int)⟩ := by simp [markArcs, h]

/-- Made, with room to spare. -/
theorem Made.nextMark {w : World} {g t n sz k j : Nat} (h : RowN w g t sz ∧ ∀ i a, i < j → (markArcs k n)[i]? = some a → Arc5 w g (i * 5) a) (hj : j < n) (hs : n * 5 ≤ sz) :
    let w' := (((((w.setCell ⟨g, j * 5, none⟩ (.int .i64 ((k + 5 * j : Nat) : Int))).setCell ⟨g, j * 5 + 1, none⟩ (.int .i64 ((k + 5 * j + 1 : Nat) : Int))).setCell ⟨g, j * 5 + 2, none⟩ (.int .i64 ((k + 5 * j + 2 : Nat) : Int))).setCell ⟨g, j * 5 + 3, none⟩ (.int .i64 ((k + 5 * j + 3 : Nat) : Int))).setCell ⟨g, j * 5 + 4, none⟩ (.int .i64 ((k + 5 * j + 4 : Nat) : Int)))
    RowN w' g t sz ∧ ∀ i a, i < j + 1 → (markArcs k n)[i]? = some a → Arc5 w' g (i * 5) a := by
  intro w'
  refine ⟨((((h.1.set _ _).set _ _).set _ _).set _ _).set _ _, fun i a hi hia => ?_⟩
  rcases Nat.lt_or_ge i j with hlt | hge
  · exact (((((h.2 i a hlt hia).set _ _ (by omega)).set _ _ (by omega)).set _ _ (by omega)).set _ _ (by omega)).set _ _ (by omega)
  · obtain rfl : i = j := by omega
    rw [markArcs_at k n i hj] at hia
    injection hia with hia
    subst hia
    exact Arc5.put h.1 (by omega) _ _ _ _ _

/-- The row and the marks so far. -/
def MarkedTo (w : World) (g t sz k n j : Nat) : Prop := RowN w g t sz ∧ ∀ i a, i < j → (markArcs k n)[i]? = some a → Arc5 w g (i * 5) a

set_option maxHeartbeats 1000000 in
theorem markArcS_any (A : Option Addr) (n c k lo t : Nat) (w : World) (hn : n ≤ 1048576) (ki : Int) (hki : ki = (k : Int)) (hk : k ≤ 100000000) (ho : OwnAt w lo A t 5 n) :
    Calls Try.prog 83 #[.slice A n c, .int .i64 ki] w (Marked w A (k + 5 * n) fun w' => ArcsAt w' A (markArcs k n)) := by
  subst hki
  rcases ho with ⟨rfl, rfl⟩ | ⟨g, sz, rfl, hlo, hr, hs⟩
  · go_enter Try.func83, Try.ntmps83
    go_wp2
    go_loop [5, 1] (fun i q => i = .int .i64 0 ∧ q = .int .i64 k) (fun _ _ => 0)
    case atStart => exact ⟨rfl, rfl⟩
    case round =>
      obtain ⟨rfl, rfl⟩ := hrel
      go_wp2
      go_ret
      exact ⟨ret_int (by simp), grown_refl _ _, fun i x h => by simp [markArcs] at h⟩
  · go_enter Try.func83, Try.ntmps83
    go_wp2
    go_loopw [5, 1] (fun i q wr => ∃ j : Nat, j ≤ n ∧ i = .int .i64 j ∧ q = .int .i64 ((k : Int) + 5 * (j : Int)) ∧ w.grownBy wr (some g) ∧ MarkedTo wr g t sz k n j) (fun i _ _ => n - (intOf i).toNat)
    case atStart => exact ⟨0, by omega, rfl, by simp, grown_refl _ _, hr, fun j x h => absurd h (by omega)⟩
    case round =>
      obtain ⟨j, hj, rfl, rfl, hb, hm⟩ := hrel
      by_cases hlt : j < n
      · obtain ⟨v0, e0⟩ := hm.1.cell (i := j * 5) (by omega)
        obtain ⟨v1, e1⟩ := hm.1.cell (i := j * 5 + 1) (by omega)
        obtain ⟨v2, e2⟩ := hm.1.cell (i := j * 5 + 2) (by omega)
        obtain ⟨v3, e3⟩ := hm.1.cell (i := j * 5 + 3) (by omega)
        obtain ⟨v4, e4⟩ := hm.1.cell (i := j * 5 + 4) (by omega)
        have z0 := hm.1.frozen (j * 5)
        have z1 := hm.1.frozen (j * 5 + 1)
        have z2 := hm.1.frozen (j * 5 + 2)
        have z3 := hm.1.frozen (j * 5 + 3)
        have z4 := hm.1.frozen (j * 5 + 4)
        have hm2 : MarkedTo (((((wr.setCell ⟨g, j * 5, none⟩ (.int .i64 ((k : Int) + 5 * (j : Int)))).setCell ⟨g, j * 5 + 1, none⟩ (.int .i64 ((k : Int) + 5 * (j : Int) + 1))).setCell ⟨g, j * 5 + 2, none⟩ (.int .i64 ((k : Int) + 5 * (j : Int) + 1 + 1))).setCell ⟨g, j * 5 + 3, none⟩ (.int .i64 ((k : Int) + 5 * (j : Int) + 1 + 1 + 1))).setCell ⟨g, j * 5 + 4, none⟩ (.int .i64 ((k : Int) + 5 * (j : Int) + 1 + 1 + 1 + 1))) g t sz k n (j + 1) := by
          have h := Made.nextMark hm hlt hs
          have q0 : ((k + 5 * j : Nat) : Int) = (k : Int) + 5 * (j : Int) := by omega
          have q1 : ((k + 5 * j + 1 : Nat) : Int) = (k : Int) + 5 * (j : Int) + 1 := by omega
          have q2 : ((k + 5 * j + 2 : Nat) : Int) = (k : Int) + 5 * (j : Int) + 1 + 1 := by omega
          have q3 : ((k + 5 * j + 3 : Nat) : Int) = (k : Int) + 5 * (j : Int) + 1 + 1 + 1 := by omega
          have q4 : ((k + 5 * j + 4 : Nat) : Int) = (k : Int) + 5 * (j : Int) + 1 + 1 + 1 + 1 := by omega
          rw [q0, q1, q2, q3, q4] at h
          exact h
        go_wp2
        go_roundw
        case rel => exact ⟨j + 1, by omega, by go_num, by go_num, grown_set (grown_set (grown_set (grown_set (grown_set hb _ _) _ _) _ _) _ _) _ _, hm2⟩
        case measure => simp [intOf]; omega
      · obtain rfl : n = j := by omega
        go_wp2
        go_ret
        exact ⟨rfl, hb, fun i x h => ⟨g, 0, rfl, by
          have hi : i < n := by have := (List.getElem?_eq_some_iff.1 h).1; simpa [markArcs_length] using this
          rw [Nat.zero_add]; exact hm.2 i x hi h⟩⟩

theorem markNet_any (m : Int) (A : Option Addr) (n c k lo t : Nat) (w : World) (hn : n ≤ 1048576) (ki : Int) (hki : ki = (k : Int)) (hk : k ≤ 100000000) (ho : OwnAt w lo A t 5 n) :
    Calls Try.prog 36 #[.agg #[.int .i64 m, .slice A n c], .int .i64 ki] w (Marked w A (k + 5 * n) fun w' => ArcsAt w' A (markArcs k n)) := by
  subst hki
  go_enter Try.func36, Try.ntmps36
  go_wp2_with fail
  have hb0 : Below w.heap.size w (w.alloc (.cells #[.int .i64 m, .slice A n c] 25)) := (Below.refl _ _).alloc (Nat.le_refl _) _
  refine (markArcS_any A n c k lo t _ hn _ rfl hk (ho.keep (grown_of_below hb0 none) (by simp))).mono ?_
  rintro e w1 ⟨rfl, hb1, hx⟩
  go_wp2
  go_ret
  exact ⟨rfl, grown_trans (grown_of_below hb0 _) hb1, hx⟩

theorem ArcsAt.old {wE w w' : World} {A : Option Addr} {xs : List ArcD} {g : Nat} (hE : ArcsAt wE A xs) (h : ArcsAt w A xs) (hg : w.grownBy w' (some g)) (hle : wE.heap.size ≤ g) : ArcsAt w' A xs := fun k x hk => by
  obtain ⟨b, o, rfl, hc⟩ := hE k x hk
  obtain ⟨b', o', e, hc'⟩ := h k x hk
  have hb := hc.lt
  injection e with e
  injection e with e1 e2
  subst e1 e2
  exact ⟨b, o, rfl, hc'.keep (hg.block b hc'.lt (by simp only [ne_eq, Option.some.injEq]; omega))⟩
theorem ArcsAt.young {w w' : World} {A : Option Addr} {xs : List ArcD} {g lo t : Nat} (ho : OwnAt w lo A t 5 xs.length) (h : ArcsAt w A xs) (hg : w.grownBy w' (some g)) (hlt : g < lo) : ArcsAt w' A xs := fun k x hk => by
  obtain ⟨b', o', rfl, hc'⟩ := h k x hk
  rcases ho with ⟨h0, _⟩ | ⟨b, sz, e, hl, _, _⟩
  · cases h0
  · injection e with e
    injection e with e1 e2
    subst e1
    exact ⟨b', o', rfl, hc'.keep (hg.block b' hc'.lt (by simp only [ne_eq, Option.some.injEq]; omega))⟩
theorem ArcsAt.under {wE w w' : World} {A : Option Addr} {xs : List ArcD} {lo : Nat} (hE : ArcsAt wE A xs) (h : ArcsAt w A xs) (hb : Below lo w w') (hle : wE.heap.size ≤ lo) : ArcsAt w' A xs := fun k x hk => by
  obtain ⟨b, o, rfl, hc⟩ := hE k x hk
  obtain ⟨b', o', e, hc'⟩ := h k x hk
  have hb' := hc.lt
  injection e with e
  injection e with e1 e2
  subst e1 e2
  exact ⟨b, o, rfl, hc'.keep (hb.block b (by omega))⟩

end Go.Proofs.Ytaojognjkiifmab

namespace Go.Proofs.Ytaojognjkiifmab
open Go.RowKit

/-- What stands behind 'back := Net{..}': a block with the net, its arcs copied into new memory. -/
def BackCut (w1 : World) (m : Int) (n : Nat) (xs : List ArcD) (s3 : Value) (wx : World) : Prop :=
  ∃ (p : Nat) (A : Option Addr) (c : Nat), s3 = .pointer (some ⟨p, 0, none⟩) ∧ w1.heap.size ≤ p ∧ RowN wx p 25 2 ∧ wx.cell? ⟨p, 0, none⟩ = some (.int .i64 m) ∧ wx.cell? ⟨p, 1, none⟩ = some (.slice A n c) ∧
    ArcsAt wx A xs ∧ OwnAt wx w1.heap.size A 34 5 n ∧ blk A ≠ some p ∧ Past w1 wx

set_option maxHeartbeats 1000000 in
theorem implNetBack_any (m : Int) (g o n c : Nat) (xs : List ArcD) (w : World) (hn : n ≤ 1048576) (hl : xs.length = n) (hx : ArcsAt w (some ⟨g, o, none⟩) xs) :
    Calls Try.prog 100 #[.agg #[.int .i64 m, .slice (some ⟨g, o, none⟩) n c]] w (GivesNet w (backN m xs) (backL m xs)) := by
  have HL := Lib.hid hl
  clear hl
  have hb0 : Past w ((w.alloc (.cells #[.int .i64 m, .slice (some ⟨g, o, none⟩) n c] 25)).alloc (.cells #[.int .i64 0, .slice none 0 0] 25)) := ((Past.refl _).alloc _).alloc _
  go_enter Try.func100, Try.ntmps100
  go_wp2_with fail
  refine (implNetOk_any m _ n c xs _ hn HL.out (hx.below hb0)).mono ?_
  rintro e w1 ⟨rfl, hb1⟩
  have b0 := cell_in (p := ⟨w.heap.size, 0, none⟩) (v := .int .i64 m) hb1 (by go_simp)
  have b1 := cell_in (p := ⟨w.heap.size, 1, none⟩) (v := .slice (some ⟨g, o, none⟩) n c) hb1 (by go_simp)
  have e0 := cell_in (p := ⟨w.heap.size + 1, 0, none⟩) (v := .int .i64 0) hb1 (by go_simp)
  have e1 := cell_in (p := ⟨w.heap.size + 1, 1, none⟩) (v := .slice none 0 0) hb1 (by go_simp)
  have z0 := free_in (p := ⟨w.heap.size + 1, 0, none⟩) (v := .int .i64 0) hb1 (by go_simp) (by go_simp)
  have z1 := free_in (p := ⟨w.heap.size + 1, 1, none⟩) (v := .slice none 0 0) hb1 (by go_simp) (by go_simp)
  have hx1 := (hx.below hb0).below hb1
  cases hB : netB m xs with
  | false =>
    have HB := Lib.hid hB
    clear hB
    go_wp2
    exact bodyPost_ret (v := .agg #[.int .i64 0, .slice none 0 0]) (by simp [results, Try.results100, go_sem, e0, e1]) rfl
      ⟨none, 0, by simp [backN, backL, HB.out], by simp only [backL, HB.out, Bool.false_eq_true, if_false]; exact fun k a hk => by simp at hk, by simp only [backL, HB.out, Bool.false_eq_true, if_false]; exact .inl ⟨rfl, rfl⟩, Below.setCell (Below.setCell (bel_trans hb0 hb1) (by simp) _) (by simp) _⟩
  | true =>
    have h16 : n ≤ 16 := by rw [← HL.out]; exact ((netB_iff _ _).1 hB).2.1
    have HB := Lib.hid hB
    clear hB
    have nb0 := World.new_ne w1 _ b0
    have nb1 := World.new_ne w1 _ b1
    go_upto_region 3 with (fail)
    go_cut [3] (BackCut w1 m n xs)
    case first =>
      go_region_held3 (fun w' => w'.cell? ⟨w.heap.size, 0, none⟩ = some (.int .i64 m) ∧ w'.cell? ⟨w.heap.size, 1, none⟩ = some (.slice (some ⟨g, o, none⟩) n c)) (go_keep)
        (first
          | (go_at_call 116; refine (clone_any g o n c xs _ hn HL.out hx1.drew).mono ?_; rintro e w2 ⟨v, rfl, hv, hb2⟩; obtain ⟨A2, c2, rfl, hx2, ho2⟩ := hv.formN HL.out; have b0 := cell_in hb2 b0; have b1 := cell_in hb2 b1)
          | (go_at_call 116; refine (clone_any g o n c xs _ hn HL.out ((hx1.below ((Past.refl w1).alloc (.cells #[.int .i64 0, .slice none 0 0] 25))).drew)).mono ?_; rintro e w2 ⟨v, rfl, hv, hb2⟩; obtain ⟨A2, c2, rfl, hx2, ho2⟩ := hv.formN HL.out; have b0 := cell_in hb2 (cell_in ((Past.refl w1).alloc (.cells #[.int .i64 0, .slice none 0 0] 25)).drew b0); have b1 := cell_in hb2 (cell_in ((Past.refl w1).alloc (.cells #[.int .i64 0, .slice none 0 0] 25)).drew b1); have p0 := cell_in (p := ⟨w1.heap.size, 0, none⟩) (v := .int .i64 0) hb2 (by go_simp); have p1 := cell_in (p := ⟨w1.heap.size, 1, none⟩) (v := .slice none 0 0) hb2 (by go_simp); have y0 := free_in (p := ⟨w1.heap.size, 0, none⟩) (v := .int .i64 0) hb2 (by go_simp) (by go_simp); have y1 := free_in (p := ⟨w1.heap.size, 1, none⟩) (v := .slice none 0 0) hb2 (by go_simp) (by go_simp)))
      all_goals go_wp2_with fail
      all_goals go_meet
      · have hb12 : Past w1 w2 := (Past.refl w1).drew.trans hb2
        exact ⟨w2.heap.size, A2, c2, rfl, hb2.size, ⟨_, heap_alloc_new w2 _, rfl⟩, by go_simp, by go_simp, hx2.below ((Past.refl w2).alloc _), OwnAt.keep ho2 (grown_of_below ((Past.refl w2).alloc _) none) (by simp), ho2.ne_new, hb12.alloc _⟩
      · have hbA : Past w1 (w1.alloc (.cells #[.int .i64 0, .slice none 0 0] 25)).drew := ((Past.refl w1).alloc _).drew
        have hb12 : Past w1 w2 := hbA.trans hb2
        have hr : RowN w2 w1.heap.size 25 2 := RowN.keep (w := (w1.alloc (.cells #[.int .i64 0, .slice none 0 0] 25)).drew) ⟨_, heap_alloc_new w1 _, rfl⟩ (hb2.block _ (by simp))
        have hne : blk A2 ≠ some w1.heap.size := ho2.ne_blk (by simp)
        refine ⟨w1.heap.size, A2, c2, rfl, Nat.le_refl _, (hr.set _ _).set _ _, ?_, ?_, (hx2.far _ _ hne).far _ _ hne, ((ho2.lower (by simp)).far _ _).far _ _, hne, Below.setCell (Below.setCell hb12 (by simp) _) (by simp) _⟩
        · exact (World.cell?_setCell_other _ _ _ _ (by simp)).trans (World.cell?_setCell_same _ _ _ p0)
        · exact World.cell?_setCell_same _ _ _ ((World.cell?_setCell_other _ _ _ _ (by simp)).trans p1)
    case rest =>
      obtain ⟨p, A2, c2, rfl, hp, hrp, q0, q1, hx2, ho2, hne, hb12⟩ := hcut
      have sw : w.heap.size + 1 < w1.heap.size := lt_of_cell e0
      have b0 := cell_in hb12 b0
      have b1 := cell_in hb12 b1
      have r1 : RowN wc (w.heap.size + 1) 25 2 := by
        refine RowN.keep (w := w1) (RowN.keep (w := ((w.alloc (.cells #[.int .i64 m, .slice (some ⟨g, o, none⟩) n c] 25)).alloc (.cells #[.int .i64 0, .slice none 0 0] 25))) ⟨#[.int .i64 0, .slice none 0 0], ?_, rfl⟩ (hb1.block _ (by simp))) (hb12.block _ sw)
        have := heap_alloc_new (w.alloc (.cells #[.int .i64 m, .slice (some ⟨g, o, none⟩) n c] 25)) (.cells #[.int .i64 0, .slice none 0 0] 25)
        simpa using this
      have hb0c : Past w wc := hb0.trans (Past.trans hb1 hb12)
      have hxc := hx1.below hb12
      clear e0 e1 z0 z1 nb0 nb1 hx1
      by_cases hn0 : n = 0
      · obtain ⟨x0, e0⟩ := r1.cell (i := 0) (by omega)
        obtain ⟨x1, e1⟩ := r1.cell (i := 1) (by omega)
        have z0 := r1.frozen 0
        have z1 := r1.frozen 1
        have HZ := Lib.hid hn0
        have hlt0 : ¬ ((0 : Int) < (n : Int)) := by omega
        have hne2 : blk A2 ≠ some (w.heap.size + 1) := ho2.ne_blk sw
        have hnil : xs.map flip = [] := by rw [List.map_eq_nil_iff]; exact List.eq_nil_of_length_eq_zero (HL.out.trans hn0)
        have HNL := Lib.hid hnil
        clear hn0 hnil
        go_wp2
        go_loop [19] (fun q => q = .int .i64 0) (fun _ => 0)
        case atStart => rfl
        case round =>
          subst hrel
          go_wp2
          exact bodyPost_ret (v := .agg #[.int .i64 m, .slice A2 n c2]) (by simp [results, Try.results100, go_sem, e0, e1]) rfl
            ⟨A2, c2, by simp [backN, backL, HB.out, HL.out], by rw [backL, if_pos HB.out, HNL.out]; exact fun k a hk => by simp at hk, by rw [backL, if_pos HB.out, List.length_map, HL.out]; exact ((ho2.lower (by omega)).far _ _).far _ _, Below.setCell (Below.setCell hb0c (by simp) _) (by simp) _⟩
      · obtain ⟨g2, sz, rfl, hg2, hr2, hs2⟩ : ∃ g2 sz, A2 = some ⟨g2, 0, none⟩ ∧ w1.heap.size ≤ g2 ∧ RowN wc g2 34 sz ∧ n * 5 ≤ sz := by
          rcases ho2 with ⟨_, h0⟩ | h
          · exact absurd h0 hn0
          · exact h
        have hpg : p ≠ g2 := fun e => hne (by rw [e]; rfl)
        have hturn : Turned wc g2 sz xs 0 := ⟨hr2, fun j a hj => absurd hj (by omega), fun j a _ ha => by
          obtain ⟨g3, o3, e, h5⟩ := hx2 j a ha
          injection e with e
          injection e with e1 e2
          subst e1 e2
          simpa using h5⟩
        have gw : g < w.heap.size := by
          obtain ⟨a, ha⟩ : ∃ a, xs[0]? = some a := ⟨_, List.getElem?_eq_getElem (by have := HL.out; omega)⟩
          obtain ⟨g3, o3, e, h5⟩ := hx 0 a ha
          injection e with e
          injection e with e1 e2
          subst e1
          exact h5.lt
        clear hx2 ho2 hne hr2
        go_wp2
        go_loopw [19] (fun q wr => ∃ k : Nat, k ≤ n ∧ q = .int .i64 k ∧ Turned wr g2 sz xs k ∧ wc.grownBy wr (some g2)) (fun q _ => n - (intOf q).toNat)
        case atStart => exact ⟨0, by omega, rfl, hturn, grown_refl _ _⟩
        case round =>
          obtain ⟨k, hk, rfl, ht, hg⟩ := hrel
          have q0 := cell_far hg q0 hpg
          have q1 := cell_far hg q1 hpg
          by_cases hlt : k < n
          · obtain ⟨⟨f, t, c', l, d⟩, ha⟩ : ∃ a, xs[k]? = some a := ⟨_, List.getElem?_eq_getElem (by have := HL.out; omega)⟩
            obtain ⟨g3, o3, eg, c0, c1, c2', c3, c4⟩ := (hxc.grown hg (fun b hb => by injection hb with hb; simp [blk]; omega)) k _ ha
            injection eg with eg
            injection eg with eg1 eg2
            subst eg1 eg2
            obtain ⟨d0, d1, d2, d3, d4⟩ := ht.2.2 k _ (Nat.le_refl _) ha
            have z0 := ht.1.frozen (k * 5)
            have z1 := ht.1.frozen (k * 5 + 1)
            have HA := Lib.hid ha
            have hg2r : g2 < wr.heap.size := ht.1.lt
            have hpr : p < wr.heap.size := lt_of_cell q0
            clear ha d2 d3 d4
            have i0 : (0 : Int) ≤ (k : Int) := by omega
            have i1 : (k : Int) < (n : Int) := by omega
            go_wp2_with fail
            go_region
            go_wp2
            go_roundw
            case rel =>
              refine ⟨k + 1, by omega, by go_num, ?_, ?_⟩
              · have h2 := ht.next HA.out
                exact Turned.keep h2 (Below.heap_alloc _ _ _ h2.1.lt)
              · have h2 := grown_set (grown_set hg (k * 5) (.int .i64 t)) (k * 5 + 1) (.int .i64 f)
                have h3 := grown_trans h2 (World.grownBy_alloc _ (.cells #[.int .i64 f, .int .i64 t, .int .i64 c', .int .i64 l, .int .i64 d] 34) _)
                exact ⟨h3.os, h3.tape, h3.output, h3.size, h3.block⟩
            case measure => simp [intOf]; omega
          · obtain rfl : n = k := by omega
            have r1 := r1.young hg (by omega)
            obtain ⟨x0, e0⟩ := r1.cell (i := 0) (by omega)
            obtain ⟨x1, e1⟩ := r1.cell (i := 1) (by omega)
            have z0 := r1.frozen 0
            have z1 := r1.frozen 1
            have hbf : Past w wr := Below.grown hb0c hg hb0c.size (fun b hb => by injection hb with hb; omega)
            go_wp2
            have hxf : ArcsAt wr (some ⟨g2, 0, none⟩) (xs.map flip) := fun j a hj => by
              rw [List.getElem?_map] at hj
              cases hxj : xs[j]? with
              | none => rw [hxj] at hj; cases hj
              | some b =>
                rw [hxj] at hj
                injection hj with hj
                subst hj
                exact ⟨g2, 0, rfl, by rw [Nat.zero_add]; exact ht.2.1 j b (by have := (List.getElem?_eq_some_iff.1 hxj).1; rw [HL.out] at this; exact this) hxj⟩
            have hne2 : blk (some ⟨g2, 0, none⟩) ≠ some (w.heap.size + 1) := by simp [blk]; omega
            exact bodyPost_ret (v := .agg #[.int .i64 m, .slice (some ⟨g2, 0, none⟩) n c2]) (by simp [results, Try.results100, go_sem, e0, e1]) rfl
              ⟨_, c2, by simp [backN, backL, HB.out, HL.out], by rw [backL, if_pos HB.out]; exact (hxf.far _ _ hne2).far _ _ hne2, .inr ⟨g2, sz, rfl, by omega, (ht.1.set _ _).set _ _, by rw [backL, if_pos HB.out, List.length_map, HL.out]; exact hs2⟩, Below.setCell (Below.setCell hbf (by simp) _) (by simp) _⟩

end Go.Proofs.Ytaojognjkiifmab

namespace Go.Proofs.Ytaojognjkiifmab
open Go.RowKit

theorem clone_nil (c : Nat) (w : World) : Calls Try.prog 116 #[.slice none 0 c] w (GivesArcs w []) := by
  have heq := fun u : World => Lib.run_eql_slice_nil (P := Try.prog) u 23 34 none 0 c 0 0 Try.underlying23
  simp only [Option.isNone_none] at heq
  go_enter Try.func116, Try.ntmps116
  go_wp2
  go_ret
  exact ⟨_, rfl, by unfold ResA; exact ⟨rfl, .inl ⟨rfl, rfl⟩⟩, Below.refl _ _⟩

set_option maxHeartbeats 1000000 in
theorem implNetBack_nil (m : Int) (c : Nat) (w : World) :
    Calls Try.prog 100 #[.agg #[.int .i64 m, .slice none 0 c]] w (GivesNet w (backN m []) (backL m [])) := by
  have hx : ArcsAt w none [] := fun k a hk => by simp at hk
  have hb0 : Past w ((w.alloc (.cells #[.int .i64 m, .slice none 0 c] 25)).alloc (.cells #[.int .i64 0, .slice none 0 0] 25)) := ((Past.refl _).alloc _).alloc _
  go_enter Try.func100, Try.ntmps100
  go_wp2_with fail
  refine (implNetOk_any m _ 0 c [] _ (by omega) rfl (hx.below hb0)).mono ?_
  rintro e w1 ⟨rfl, hb1⟩
  have b0 := cell_in (p := ⟨w.heap.size, 0, none⟩) (v := .int .i64 m) hb1 (by go_simp)
  have b1 := cell_in (p := ⟨w.heap.size, 1, none⟩) (v := .slice none 0 c) hb1 (by go_simp)
  have e0 := cell_in (p := ⟨w.heap.size + 1, 0, none⟩) (v := .int .i64 0) hb1 (by go_simp)
  have e1 := cell_in (p := ⟨w.heap.size + 1, 1, none⟩) (v := .slice none 0 0) hb1 (by go_simp)
  have z0 := free_in (p := ⟨w.heap.size + 1, 0, none⟩) (v := .int .i64 0) hb1 (by go_simp) (by go_simp)
  have z1 := free_in (p := ⟨w.heap.size + 1, 1, none⟩) (v := .slice none 0 0) hb1 (by go_simp) (by go_simp)
  cases hB : netB m [] with
  | false =>
    have HB := Lib.hid hB
    clear hB
    go_wp2
    exact bodyPost_ret (v := .agg #[.int .i64 0, .slice none 0 0]) (by simp [results, Try.results100, go_sem, e0, e1]) rfl
      ⟨none, 0, by simp [backN, backL, HB.out], by simp only [backL, HB.out, Bool.false_eq_true, if_false]; exact fun k a hk => by simp at hk, by simp only [backL, HB.out, Bool.false_eq_true, if_false]; exact .inl ⟨rfl, rfl⟩, Below.setCell (Below.setCell (bel_trans hb0 hb1) (by simp) _) (by simp) _⟩
  | true =>
    have HB := Lib.hid hB
    clear hB
    have nb0 := World.new_ne w1 _ b0
    have nb1 := World.new_ne w1 _ b1
    go_upto_region 3 with (fail)
    go_cut [3] (BackCut w1 m 0 [])
    case first =>
      go_region_held3 (fun w' => w'.cell? ⟨w.heap.size, 0, none⟩ = some (.int .i64 m) ∧ w'.cell? ⟨w.heap.size, 1, none⟩ = some (.slice none 0 c)) (go_keep)
        (first
          | (go_at_call 116; refine (clone_nil c _).mono ?_; rintro e w2 ⟨v, rfl, hv, hb2⟩; obtain ⟨A2, c2, rfl, hx2, ho2⟩ := hv.formN (n := 0) rfl; have b0 := cell_in hb2 b0; have b1 := cell_in hb2 b1)
          | (go_at_call 116; refine (clone_nil c _).mono ?_; rintro e w2 ⟨v, rfl, hv, hb2⟩; obtain ⟨A2, c2, rfl, hx2, ho2⟩ := hv.formN (n := 0) rfl; have b0 := cell_in hb2 (cell_in ((Past.refl w1).alloc (.cells #[.int .i64 0, .slice none 0 0] 25)).drew b0); have b1 := cell_in hb2 (cell_in ((Past.refl w1).alloc (.cells #[.int .i64 0, .slice none 0 0] 25)).drew b1); have p0 := cell_in (p := ⟨w1.heap.size, 0, none⟩) (v := .int .i64 0) hb2 (by go_simp); have p1 := cell_in (p := ⟨w1.heap.size, 1, none⟩) (v := .slice none 0 0) hb2 (by go_simp); have y0 := free_in (p := ⟨w1.heap.size, 0, none⟩) (v := .int .i64 0) hb2 (by go_simp) (by go_simp); have y1 := free_in (p := ⟨w1.heap.size, 1, none⟩) (v := .slice none 0 0) hb2 (by go_simp) (by go_simp)))
      all_goals go_wp2_with fail
      all_goals go_meet
      · have hb12 : Past w1 w2 := (Past.refl w1).drew.trans hb2
        exact ⟨w2.heap.size, A2, c2, rfl, hb2.size, ⟨_, heap_alloc_new w2 _, rfl⟩, by go_simp, by go_simp, hx2.below ((Past.refl w2).alloc _), OwnAt.keep ho2 (grown_of_below ((Past.refl w2).alloc _) none) (by simp), ho2.ne_new, hb12.alloc _⟩
      · have hbA : Past w1 (w1.alloc (.cells #[.int .i64 0, .slice none 0 0] 25)).drew := ((Past.refl w1).alloc _).drew
        have hb12 : Past w1 w2 := hbA.trans hb2
        have hr : RowN w2 w1.heap.size 25 2 := RowN.keep (w := (w1.alloc (.cells #[.int .i64 0, .slice none 0 0] 25)).drew) ⟨_, heap_alloc_new w1 _, rfl⟩ (hb2.block _ (by simp))
        have hne : blk A2 ≠ some w1.heap.size := ho2.ne_blk (by simp)
        refine ⟨w1.heap.size, A2, c2, rfl, Nat.le_refl _, (hr.set _ _).set _ _, ?_, ?_, (hx2.far _ _ hne).far _ _ hne, ((ho2.lower (by simp)).far _ _).far _ _, hne, Below.setCell (Below.setCell hb12 (by simp) _) (by simp) _⟩
        · exact (World.cell?_setCell_other _ _ _ _ (by simp)).trans (World.cell?_setCell_same _ _ _ p0)
        · exact World.cell?_setCell_same _ _ _ ((World.cell?_setCell_other _ _ _ _ (by simp)).trans p1)
    case rest =>
      obtain ⟨p, A2, c2, rfl, hp, hrp, q0, q1, hx2, ho2, hne, hb12⟩ := hcut
      have sw : w.heap.size + 1 < w1.heap.size := lt_of_cell e0
      have b0 := cell_in hb12 b0
      have b1 := cell_in hb12 b1
      have r1 : RowN wc (w.heap.size + 1) 25 2 := by
        refine RowN.keep (w := w1) (RowN.keep (w := ((w.alloc (.cells #[.int .i64 m, .slice none 0 c] 25)).alloc (.cells #[.int .i64 0, .slice none 0 0] 25))) ⟨#[.int .i64 0, .slice none 0 0], ?_, rfl⟩ (hb1.block _ (by simp))) (hb12.block _ sw)
        have := heap_alloc_new (w.alloc (.cells #[.int .i64 m, .slice none 0 c] 25)) (.cells #[.int .i64 0, .slice none 0 0] 25)
        simpa using this
      have hb0c : Past w wc := hb0.trans (Past.trans hb1 hb12)
      clear e0 e1 z0 z1 nb0 nb1
      obtain ⟨x0, e0⟩ := r1.cell (i := 0) (by omega)
      obtain ⟨x1, e1⟩ := r1.cell (i := 1) (by omega)
      have z0 := r1.frozen 0
      have z1 := r1.frozen 1
      have hne2 : blk A2 ≠ some (w.heap.size + 1) := ho2.ne_blk sw
      go_wp2
      go_loop [19] (fun q => q = .int .i64 0) (fun _ => 0)
      case atStart => rfl
      case round =>
        subst hrel
        go_wp2
        exact bodyPost_ret (v := .agg #[.int .i64 m, .slice A2 0 c2]) (by simp [results, Try.results100, go_sem, e0, e1]) rfl
          ⟨A2, c2, by simp [backN, backL, HB.out], by rw [backL, if_pos HB.out]; exact fun k a hk => by simp at hk, by rw [backL, if_pos HB.out, List.length_map]; exact ((ho2.lower (by omega)).far _ _).far _ _, Below.setCell (Below.setCell hb0c (by simp) _) (by simp) _⟩

theorem implNetBack_all (m : Int) (A : Option Addr) (n c : Nat) (xs : List ArcD) (w : World) (hn : n ≤ 1048576) (hl : xs.length = n) (hx : ArcsAt w A xs) (ho : (A = none ∧ n = 0) ∨ ∃ g o, A = some ⟨g, o, none⟩) :
    Calls Try.prog 100 #[.agg #[.int .i64 m, .slice A n c]] w (GivesNet w (backN m xs) (backL m xs)) := by
  rcases ho with ⟨rfl, rfl⟩ | ⟨g, o, rfl⟩
  · obtain rfl : xs = [] := List.eq_nil_of_length_eq_zero hl
    exact implNetBack_nil m c w
  · exact implNetBack_any m g o n c xs w hn hl hx

end Go.Proofs.Ytaojognjkiifmab

namespace Go.Proofs.Ytaojognjkiifmab
open Go.RowKit

theorem flip_flip' (a : ArcD) : flip (flip a) = a := rfl
theorem arcB_flip' {m : Int} {a : ArcD} (h : arcB m a = true) : arcB m (flip a) = true := by
  unfold arcB at h ⊢
  unfold flip
  simp only [Bool.and_eq_true, Bool.not_eq_true', beq_eq_false_iff_ne] at h ⊢
  exact ⟨h.2.1, h.1, fun e => h.2.2.1 e.symm, h.2.2.2⟩
theorem netB_flip' {m : Int} {xs : List ArcD} (h : netB m xs = true) : netB m (xs.map flip) = true := by
  obtain ⟨h1, h2, h3⟩ := (netB_iff _ _).1 h
  refine (netB_iff _ _).2 ⟨h1, by rw [List.length_map]; exact h2, fun a ha => ?_⟩
  obtain ⟨b, hb, rfl⟩ := List.mem_map.1 ha
  exact arcB_flip' (h3 b hb)
/-- What it costs from each to a node. -/
def nearTI (m : Int) (xs : List ArcD) (s : Int) : List Int := if hereB m xs s then nearL m.toNat (xs.map flip) s else []
theorem nearTI_back (m : Int) (xs : List ArcD) (s : Int) : nearI (backN m xs) (backL m xs) s = nearTI m xs s := by
  unfold nearI nearTI backN backL hereB
  cases hB : netB m xs with
  | true => simp only [if_true, netB_flip' hB]
  | false =>
    have : netB 0 [] = false := by decide
    simp [this]
theorem nearTI_len (m : Int) (xs : List ArcD) (s : Int) : (nearTI m xs s).length ≤ 1048576 := by
  rw [← nearTI_back]
  exact nearI_len _ _ _



end Go.Proofs.Ytaojognjkiifmab

namespace Go.Proofs.Ytaojognjkiifmab
open Go.RowKit

/-- The tree, of a net and a node that are there. -/
def treeTI (m : Int) (xs : List ArcD) (s : Int) : List Int := if hereB m xs s then treeM m.toNat xs s else []
theorem treeTI_len (m : Int) (xs : List ArcD) (s : Int) : (treeTI m xs s).length ≤ 1048576 := by
  unfold treeTI
  split
  · rename_i h
    rw [treeM_length]
    obtain ⟨M, e, _, h8⟩ := here_nat ((hereB_iff _ _ _).1 h).1
    subst e
    simp
    omega
  · simp

set_option maxRecDepth 100000 in
set_option maxHeartbeats 2000000 in
theorem implNearTree_all (m : Int) (A : Option Addr) (n c : Nat) (xs : List ArcD) (s : Int) (w : World) (hn : n ≤ 1048576) (hnx : xs.length = n) (hx : ArcsAt w A xs) (ho : (A = none ∧ n = 0) ∨ ∃ g o, A = some ⟨g, o, none⟩) :
    Calls Try.prog 66 #[.agg #[.int .i64 m, .slice A n c], .int .i64 s] w (Gives w (treeTI m xs s)) := by
  have HX := Lib.hid hnx
  clear hnx
  go_enter Try.func66, Try.ntmps66
  have hb0 : Past w ((w.alloc (.cells #[.int .i64 m, .slice A n c] 25)).alloc (.cells #[.int .i64 s] 3)) := ((Past.refl _).alloc _).alloc _
  have hz : IntsAt ((w.alloc (.cells #[.int .i64 m, .slice A n c] 25)).alloc (.cells #[.int .i64 s] 3)) (some ⟨w.heap.size + 1, 0, none⟩) [s] := fun k y hk => by
    cases k with
    | zero => simp at hk; subst hk; exact ⟨_, _, rfl, by go_simp⟩
    | succ k => simp at hk
  go_wp2_with fail
  refine (netHas_any m A n c xs _ 1 1 [s] _ hn HX.out (hx.below hb0) (by omega) rfl hz).mono ?_
  rintro e w1 ⟨rfl, hb1⟩
  have b0 := cell_in (p := ⟨w.heap.size, 0, none⟩) (v := .int .i64 m) hb1 (by go_simp)
  have b1 := cell_in (p := ⟨w.heap.size, 1, none⟩) (v := .slice A n c) hb1 (by go_simp)
  have hx1 := (hx.below hb0).below hb1
  have hp1 := hb0.trans hb1
  have hH : (netB m xs && [s].all (fun z => inB z 0 (m - 1))) = hereB m xs s := by simp [hereB]
  rw [hH]
  clear hH hb0 hz hb1
  cases hB : hereB m xs s with
  | false =>
    have HB := Lib.hid hB
    clear hB
    go_wp2
    go_ret
    exact ⟨_, rfl, by rw [treeTI, HB.out]; exact Res.nil _ _, hp1⟩
  | true =>
    obtain ⟨hN, h0, h1⟩ := (hereB_iff _ _ _).1 hB
    obtain ⟨M, rfl, h3, h8⟩ := here_nat hN
    obtain ⟨S, rfl⟩ : ∃ S : Nat, s = (S : Int) := ⟨s.toNat, by omega⟩
    have hS : S < M := by omega
    have h16 : n ≤ 16 := by rw [← HX.out]; exact ((netB_iff _ _).1 hN).2.1
    have HB := Lib.hid hB
    have HN := Lib.hid hN
    clear hB hN
    go_wp2_with fail
    refine (implNetBack_all (M : Int) A n c xs _ hn HX.out hx1 ho).mono ?_
    rintro e w2 ⟨A2, c2, rfl, hx2, _, hb2⟩
    have hbN : backN (M : Int) xs = (M : Int) := by rw [backN, HN.out, if_pos rfl]
    have hbL : backL (M : Int) xs = xs.map flip := by rw [backL, HN.out, if_pos rfl]
    rw [hbN]
    rw [hbL] at hx2 ⊢
    obtain ⟨K2, hK2⟩ : ∃ K2, (xs.map flip).length = K2 := ⟨_, rfl⟩
    have hK3 : K2 ≤ 16 := by rw [← hK2, List.length_map, HX.out]; exact h16
    rw [hK2]
    have HK2 := Lib.hid hK2
    have b0 := cell_in hb2 b0
    have b1 := cell_in hb2 b1
    have hx2' := hx1.below hb2
    have hp2 := hp1.trans hb2
    clear hK2 hbN hbL hb2
    go_wp2_with fail
    refine (lengths_any M S A2 K2 c2 (xs.map flip) _ (by omega) HK2.out hx2 (arcsIn_net (netB_flip' HN.out)) (net_ne (netB_flip' HN.out)) h3 (by omega) hS).mono ?_
    rintro e W ⟨g, L, rfl, hrow, hLl, hlabs, hopen, hb3⟩
    have hT : TreeL M xs (S : Int) L := ⟨hlabs, hopen, arcsIn_net HN.out, ⟨h0, h1⟩, h8⟩
    have hLe := hT.eq
    have HT := Lib.hid hT
    have HG := Lib.hid (fun j a (hj : L[j]? = some a) => hrow.get hLl hj)
    have HLE := Lib.hid hLe
    have b0 := cell_in hb3 b0
    have b1 := cell_in hb3 b1
    have hxW := hx2'.below hb3
    have hpW := hp2.trans hb3
    have hmk := makeInt M (by omega)
    clear hlabs hopen hrow hT hLe hb3 hx2 hx1 hx2'
    go_wp2
    go_loopw [22] (fun i wr => ∃ k : Nat, k ≤ M ∧ i = .int .i64 k ∧ Past W wr ∧ MadeI wr W.heap.size 3 M (treeM M xs (S : Int)) k) (fun i _ => M - (intOf i).toNat)
    case atStart => exact ⟨0, by omega, rfl, (Past.refl _).alloc _, MadeI.start W 3 M (treeM M xs (S : Int)) (madeCells #[.int .i64 0] M) (by simp [size_madeCells])⟩
    case round =>
      obtain ⟨k, hk, rfl, hb, hmd⟩ := hrel
      have b0' := cell_in hb b0
      have b1' := cell_in hb b1
      by_cases hlt : k < M
      · have HF : Hid ((treeM M xs (S : Int))[k]? = some (treeI xs L (k : Int))) := by rw [Hid, HLE.out]; exact treeM_get M xs (S : Int) hlt
        have k0 : (0 : Int) ≤ (k : Int) := by omega
        have k1 : (k : Int) < (M : Int) := by omega
        go_wp2_with fail
        refine (firstArc_any M k A n c xs g L _ h16 HX.out (hxW.below hb) (arcsIn_net HN.out) hlt hLl (fun j a hj => ⟨cell_in hb (HG.out j a hj).1, cell_in hb (HG.out j a hj).2⟩) (fun v h0 h1 => by have := HT.out.bound v h0 h1; unfold farI at this; omega)).mono ?_
        rintro e w6 ⟨rfl, hb6⟩
        have hmd6 := hmd.below hb6
        obtain ⟨v0, e0⟩ := hmd6.1.cell (i := k) hlt
        have z0 := hmd6.1.frozen k
        have hbb := hb.trans hb6
        go_wp2
        go_roundw
        case rel => exact ⟨k + 1, by omega, by go_num, Below.setCell hbb (by simp) _, hmd6.next HF.out hlt⟩
        case measure => simp [intOf]; omega
      · obtain rfl : M = k := by omega
        have hrow : RowI wr W.heap.size (treeM M xs (S : Int)) := hmd.row (treeM_length M xs (S : Int))
        go_wp2
        go_ret
        exact ⟨_, rfl, by rw [treeTI, HB.out, if_pos rfl, Int.toNat_natCast]; exact hrow.res (treeM_length M xs (S : Int)) hpW.size (by omega), hpW.trans hb⟩
theorem implNearTree_any (m : Int) (g n c : Nat) (xs : List ArcD) (s : Int) (w : World) (hn : n ≤ 1048576) (hnx : xs.length = n) (hx : ArcsAt w (some ⟨g, 0, none⟩) xs) :
    Calls Try.prog 66 #[.agg #[.int .i64 m, .slice (some ⟨g, 0, none⟩) n c], .int .i64 s] w (Gives w (treeTI m xs s)) :=
  implNearTree_all m _ n c xs s w hn hnx hx (.inr ⟨_, _, rfl⟩)

end Go.Proofs.Ytaojognjkiifmab

namespace Go.Proofs.Ytaojognjkiifmab
open Go.RowKit

/-- The best way, of a net and two nodes that are there, and whether there is one. -/
def hereB2 (m : Int) (xs : List ArcD) (a b : Int) : Bool := hereB m xs a && inB b 0 (m - 1)
def nearWI (m : Int) (xs : List ArcD) (a b : Int) : List Int := if hereB2 m xs a b then wayM m.toNat xs a b else []
def nearWB (m : Int) (xs : List ArcD) (a b : Int) : Bool := hereB2 m xs a b && !(farB m.toNat xs b a)
theorem wayM_len {m : Nat} {xs : List ArcD} {a b : Int} (hx : ArcsIn m xs) (ha : 0 ≤ a ∧ a < m) (hb : 0 ≤ b ∧ b < m) (hm : m ≤ 8) : (wayM m xs a b).length ≤ 7 := by
  unfold wayM
  split
  · simp
  · rename_i h
    exact (treeL_of hx hb (by omega)).way_few a ha.1 ha.2 (by simpa [farB] using h)
theorem hereB2_iff (m : Int) (xs : List ArcD) (a b : Int) : hereB2 m xs a b = true ↔ netB m xs = true ∧ (0 ≤ a ∧ a < m) ∧ 0 ≤ b ∧ b < m := by
  simp only [hereB2, Bool.and_eq_true, hereB_iff, inB_iff]
  constructor
  · rintro ⟨⟨h1, h2, h3⟩, h4, h5⟩; exact ⟨h1, ⟨h2, h3⟩, h4, by omega⟩
  · rintro ⟨h1, ⟨h2, h3⟩, h4, h5⟩; exact ⟨⟨h1, h2, h3⟩, h4, by omega⟩
theorem nearWI_len (m : Int) (xs : List ArcD) (a b : Int) : (nearWI m xs a b).length ≤ 1048576 := by
  unfold nearWI
  split
  · rename_i h
    obtain ⟨h1, h2, h3⟩ := (hereB2_iff _ _ _ _).1 h
    obtain ⟨M, e, _, h8⟩ := here_nat h1
    subst e
    have := wayM_len (arcsIn_net h1) h2 h3 h8
    simp only [Int.toNat_natCast]
    omega
  · simp

end Go.Proofs.Ytaojognjkiifmab

namespace Go.Proofs.Ytaojognjkiifmab
open Go.RowKit

theorem Res.empty_new (w : World) : Res (w.alloc (.cells #[] 3)) w.heap.size (.slice (some ⟨w.heap.size, 0, none⟩) 0 0) [] :=
  ⟨rfl, .inr ⟨w.heap.size, 0, #[], rfl, Nat.le_refl _, heap_alloc_new w _, Nat.le_refl _, by unfold maxLen; omega, rfl, rfl⟩⟩

end Go.Proofs.Ytaojognjkiifmab

namespace Go.Proofs.Ytaojognjkiifmab
open Go.RowKit

theorem IntsAt.farS {w : World} {A : Option Addr} {zs : List Int} (h : IntsAt w A zs) (p : Addr) (u : Value) (hne : blk A ≠ some p.block) : IntsAt (w.setCell p u) A zs := fun k a hk => by
  obtain ⟨g, o, rfl, h5⟩ := h k a hk
  exact ⟨g, o, rfl, (World.cell?_setCell_other _ _ _ _ (by intro e; apply hne; rw [e]; rfl)).trans h5⟩
theorem pickA_len (xs : List ArcD) : ∀ ys : List Int, (pickA xs ys).length ≤ ys.length
  | [] => by simp [pickA]
  | y :: ys => by
    have ih := pickA_len xs ys
    unfold pickA at ih ⊢
    rw [List.flatMap_cons, List.length_append, List.length_cons]
    split
    · rw [List.length_singleton]; omega
    · rw [List.length_nil]; omega
theorem strongL_len (xs : List ArcD) (load : Int) : (strongL xs load).length ≤ xs.length := numsTo_len xs load _

set_option maxRecDepth 100000 in
set_option maxHeartbeats 2000000 in
theorem strongArcs_any (m : Int) (A : Option Addr) (n c : Nat) (xs : List ArcD) (load : Int) (w : World) (hn : n ≤ 1048576) (hnx : xs.length = n) (hx : ArcsAt w A xs) :
    Calls Try.prog 59 #[.agg #[.int .i64 m, .slice A n c], .int .i64 load] w (Gives w (strongL xs load)) := by
  have HX := Lib.hid hnx
  clear hnx
  obtain ⟨i0, hi, hz0, hz1, hz2⟩ := info_parts infoInt
  have hb0 : Past w (w.alloc (.cells #[.int .i64 m, .slice A n c] 25)) := (Past.refl _).alloc _
  go_enter Try.func59, Try.ntmps59
  go_wp2
  go_loopw [5, 11] (fun v i wr => ∃ k : Nat, k ≤ n ∧ i = .int .i64 k ∧ Res wr (w.heap.size + 1) v (numsTo xs load k) ∧ Past (w.alloc (.cells #[.int .i64 m, .slice A n c] 25)) wr) (fun _ i _ => n - (intOf i).toNat)
  case atStart => exact ⟨0, by omega, rfl, Res.nil _ _, Past.refl _⟩
  case round =>
    obtain ⟨k, hk, rfl, hv, hb⟩ := hrel
    have b0 := cell_in (p := ⟨w.heap.size, 0, none⟩) (v := .int .i64 m) hb (by go_simp)
    have b1 := cell_in (p := ⟨w.heap.size, 1, none⟩) (v := .slice A n c) hb (by go_simp)
    have hz0' : w.heap.size < wr.heap.size := hb.lt
    by_cases hlt : k < n
    · obtain ⟨⟨f, t, c', l, d⟩, ha⟩ : ∃ a, xs[k]? = some a := ⟨_, List.getElem?_eq_getElem (by have := HX.out; omega)⟩
      obtain ⟨g, o, rfl, c0, c1, c2, c3, c4⟩ := ((hx.below hb0).below hb) k _ ha
      simp only at c0 c1 c2 c3 c4
      have k0 : (0 : Int) ≤ (k : Int) := by omega
      have k1 : (k : Int) < (n : Int) := by omega
      by_cases hd : load ≤ d
      rotate_left
      · have HF := Lib.hid (numsTo_miss ha hd)
        clear ha
        go_wp2
        go_roundw
        case rel => exact ⟨k + 1, by omega, by go_num, by rw [HF.out]; exact hv.below ((Past.refl wr).alloc _), hb.alloc _⟩
        case measure => simp [intOf]; omega
      have HF := Lib.hid (numsTo_hit ha hd)
      have hlen := numsTo_len xs load k
      obtain ⟨N, hN⟩ : ∃ N, N = (numsTo xs load k).length := ⟨_, rfl⟩
      unfold Res at hv
      rw [← hN] at hv hlen
      have HN := Lib.hid hN
      clear ha hN
      go_wp2_with (first | (at_builtin; refine wpList_append_own_at _ rfl _ _ 28 rfl (w.heap.size + 1) 3 i0 (.int .i64 0) 1 8 Try.underlying28 hi hz0 hz1 hz2 rfl (by decide) _ _ _ rfl ((hv.alloc _).alloc _) ⟨wr.heap.size + 1, 0, none⟩ 1 1 [.int .i64 (k : Int)] rfl rfl (by simpa using cell_one_new (wr.alloc (.cells #[.int .i64 f, .int .i64 t, .int .i64 c', .int .i64 l, .int .i64 d] 34)) _ _) (one_cell _) (by unfold maxLen; omega) (by omega) (by simp; omega) ?_; intro v' w4 hown' hgrow4 hnil4 hat4))
      go_roundw
      case rel => exact ⟨k + 1, by omega, by go_num, by rw [HF.out]; exact Res.push (by rw [← HN.out]; exact hown'), Past.grown ((hb.alloc _).alloc _) ((hv.alloc _).alloc _) hgrow4 (by simp)⟩
      case measure => simp [intOf]; omega
    · obtain rfl : k = n := by omega
      go_wp2
      go_ret
      exact ⟨_, rfl, by rw [strongL, HX.out]; exact hv.lower (by omega), hb0.trans hb⟩

set_option maxRecDepth 100000 in
set_option maxHeartbeats 2000000 in
theorem implLoadNet_any (m : Int) (A : Option Addr) (n c : Nat) (xs : List ArcD) (load : Int) (w : World) (hn : n ≤ 1048576) (hnx : xs.length = n) (hx : ArcsAt w A xs) :
    Calls Try.prog 26 #[.agg #[.int .i64 m, .slice A n c], .int .i64 load] w (GivesNet w (lnetN m xs load) (lnetL m xs load)) := by
  have HX := Lib.hid hnx
  clear hnx
  obtain ⟨i0, hi, hz0, hz1, hz2⟩ := info_parts infoArc
  have hb0 : Past w ((w.alloc (.cells #[.int .i64 m, .slice A n c] 25)).alloc (.cells #[.int .i64 0, .slice none 0 0] 25)) := ((Past.refl _).alloc _).alloc _
  go_enter Try.func26, Try.ntmps26
  go_wp2_with fail
  refine (implNetOk_any m A n c xs _ hn HX.out (hx.below hb0)).mono ?_
  rintro e w1 ⟨rfl, hb1⟩
  have b0 := cell_in (p := ⟨w.heap.size, 0, none⟩) (v := .int .i64 m) hb1 (by go_simp)
  have b1 := cell_in (p := ⟨w.heap.size, 1, none⟩) (v := .slice A n c) hb1 (by go_simp)
  have e0 := cell_in (p := ⟨w.heap.size + 1, 0, none⟩) (v := .int .i64 0) hb1 (by go_simp)
  have e1 := cell_in (p := ⟨w.heap.size + 1, 1, none⟩) (v := .slice none 0 0) hb1 (by go_simp)
  have z0 := free_in (p := ⟨w.heap.size + 1, 0, none⟩) (v := .int .i64 0) hb1 (by go_simp) (by go_simp)
  have z1 := free_in (p := ⟨w.heap.size + 1, 1, none⟩) (v := .slice none 0 0) hb1 (by go_simp) (by go_simp)
  have hrc : RowN w1 (w.heap.size + 1) 25 2 := by
    refine RowN.keep (w := ((w.alloc (.cells #[.int .i64 m, .slice A n c] 25)).alloc (.cells #[.int .i64 0, .slice none 0 0] 25))) ⟨#[.int .i64 0, .slice none 0 0], ?_, rfl⟩ (hb1.block _ (by simp))
    have := heap_alloc_new (w.alloc (.cells #[.int .i64 m, .slice A n c] 25)) (.cells #[.int .i64 0, .slice none 0 0] 25)
    simpa using this
  have hx1 := (hx.below hb0).below hb1
  have hp1 := hb0.trans hb1
  clear hb0 hb1
  cases hB : netB m xs with
  | false =>
    have HV : Hid (lnetB m xs load = false) := by rw [Hid, lnetB, hB]; rfl
    clear hB
    go_wp2
    exact bodyPost_ret (v := .agg #[.int .i64 0, .slice none 0 0]) (by simp [results, Try.results26, go_sem, e0, e1]) rfl (givesNet_no HV.out rfl (Below.setCell (Below.setCell hp1 (by simp) _) (by simp) _))
  | true =>
  have HB := Lib.hid hB
  clear hB
  go_wp2_with fail
  refine (within_any _ _ _).mono ?_
  rintro e w2 ⟨rfl, rfl⟩
  cases hI : inB load 0 9 with
  | false =>
    have HV : Hid (lnetB m xs load = false) := by rw [Hid, lnetB, HB.out, hI]; rfl
    clear hI
    go_wp2
    exact bodyPost_ret (v := .agg #[.int .i64 0, .slice none 0 0]) (by simp [results, Try.results26, go_sem, e0, e1]) rfl (givesNet_no HV.out rfl (Below.setCell (Below.setCell hp1 (by simp) _) (by simp) _))
  | true =>
  have HV : Hid (lnetB m xs load = true) := by rw [Hid, lnetB, HB.out, hI]; rfl
  clear hI
  have sw : w.heap.size + 1 < w1.heap.size := lt_of_cell e0
  have hst0 := NSt.start w1 m
  have hbS : Past w1 (w1.alloc (.cells #[.int .i64 m, .slice none 0 0] 25)) := (Past.refl w1).alloc _
  have b0' := fun (o : Obj) => cell_in ((Past.refl w1).alloc o) b0
  have b1' := fun (o : Obj) => cell_in ((Past.refl w1).alloc o) b1
  go_wp2_with fail
  refine (strongArcs_any m A n c xs load _ hn HX.out (hx1.below hbS)).mono ?_
  rintro e w2 ⟨v2, rfl, hv2, hb2⟩
  obtain ⟨D, cd, rfl, hd2, hoD⟩ := hv2.form
  have hDlt : ∀ b, blk D = some b → w1.heap.size < b ∧ b < w2.heap.size := fun b e => by
    rcases hoD with ⟨rfl, _⟩ | ⟨g', sz, rfl, hl, hr, _⟩
    · cases e
    · injection e with e; simp only at e; have := hr.lt; simp only [World.size_alloc] at hl; omega
  have hst2 := (hst0 (w2.heap.size + 1)).later hb2
  obtain ⟨ys, hys⟩ : ∃ ys, ys = strongL xs load := ⟨_, rfl⟩
  have hypk : pickA xs ys = forL xs load := by rw [hys, strong_pick]
  have hyb : ∀ (j : Nat) (y : Int), ys[j]? = some y → ∃ (Y : Nat) (a : ArcD), y = Y ∧ xs[Y]? = some a := fun j y hy => by
    obtain ⟨h0, _, a, ha, _⟩ := numsTo_bd (xs := xs) (load := load) xs.length (Nat.le_refl _) y (by rw [← strongL, ← hys]; exact List.mem_of_getElem? hy)
    exact ⟨y.toNat, a, by omega, ha⟩
  have hyl : ys.length ≤ 16 := by rw [hys]; exact Nat.le_trans (strongL_len _ _) ((netB_iff _ _).1 HB.out).2.1
  rw [← hys] at hd2 ⊢
  obtain ⟨N, hN⟩ : ∃ N, N = ys.length := ⟨_, rfl⟩
  rw [← hN] at hyl ⊢
  have HN := Lib.hid hN
  have HYP := Lib.hid hypk
  have HYB := Lib.hid hyb
  have HDL := Lib.hid hDlt
  have hz2' : w1.heap.size < w2.heap.size := hst2.row.lt
  clear hN hypk hyb hys hv2 hoD hb2 hDlt hbS hst0 b0' b1'
  go_wp2
  go_loopw [24] (fun q wr => ∃ (j : Nat) (v : Value), j ≤ N ∧ q = .int .i64 j ∧ NSt w1.heap.size (w2.heap.size + 1) w1 wr m v (pickA xs (ys.take j)) ∧ IntsAt wr D ys ∧ w2.heap.size ≤ wr.heap.size) (fun q _ => N - (intOf q).toNat)
  case atStart => exact ⟨0, _, Nat.zero_le _, rfl, by simpa [pickA] using hst2, hd2, Nat.le_refl _⟩
  case round =>
    obtain ⟨j, v, hj, rfl, hS, hd, hz⟩ := hrel
    have b0 := cell_in hS.past b0
    have b1 := cell_in hS.past b1
    have hxr := hx1.below hS.past
    have hXr := hS.row.lt
    by_cases hlt : j < N
    · obtain ⟨y, hy⟩ : ∃ y, ys[j]? = some y := ⟨_, List.getElem?_eq_getElem (by have := HN.out; omega)⟩
      obtain ⟨Y, a, rfl, ha⟩ := HYB.out j y hy
      obtain ⟨f, t, c', l, d⟩ := a
      obtain ⟨g, o, rfl, c0, c1, c2, c3, c4⟩ := hxr Y _ ha
      obtain ⟨gd, od, rfl, cd0⟩ := hd j _ hy
      simp only at c0 c1 c2 c3 c4
      have hYn : Y < n := by have := (List.getElem?_eq_some_iff.1 ha).1; have := HX.out; omega
      have hgd := HDL.out gd rfl
      have j0 : (0 : Int) ≤ (j : Int) := by omega
      have j1 : (j : Int) < (N : Int) := by omega
      have y0 : (0 : Int) ≤ (Y : Int) := by omega
      have y1 : (Y : Int) < (n : Int) := by omega
      have HF : Hid (pickA xs (ys.take (j + 1)) = pickA xs (ys.take j) ++ [⟨f, t, c', l, d⟩]) := by
        rw [Hid, List.take_add_one, hy, Option.toList_some]
        exact pickA_snoc (by simpa using ha)
      have hlen : (pickA xs (ys.take j)).length ≤ 16 := Nat.le_trans (pickA_len _ _) (by rw [List.length_take, ← HN.out]; omega)
      obtain ⟨L, hLL⟩ : ∃ L, L = pickA xs (ys.take j) := ⟨_, rfl⟩
      rw [← hLL] at hS hlen HF
      obtain ⟨K, hK⟩ : ∃ K, K = L.length := ⟨_, rfl⟩
      have hv : wr.ownsRow (w2.heap.size + 1) 34 5 v K (cellsOf L) := by rw [hK]; exact hS.own
      have o1 := hS.o1
      rw [← hK] at hlen
      have HK := Lib.hid hK
      have HS := Lib.hid hS
      have HD := Lib.hid hd
      have hnews : ∀ j u, ([.int .i64 f, .int .i64 t, .int .i64 c', .int .i64 l, .int .i64 d] : List Value)[j]? = some u → (wr.drew.alloc (.cells #[.int .i64 f, .int .i64 t, .int .i64 c', .int .i64 l, .int .i64 d] 34)).cell? ((⟨wr.heap.size, 0, none⟩ : Addr).add j) = some u := five_new wr.drew _ _ _ _ _ _
      have hownA : (wr.drew.alloc (.cells #[.int .i64 f, .int .i64 t, .int .i64 c', .int .i64 l, .int .i64 d] 34)).ownsRow (w2.heap.size + 1) 34 5 v K (cellsOf L) := World.ownsRow.alloc (w := wr.drew) hv _
      have o1A : (wr.alloc (.cells #[.int .i64 f, .int .i64 t, .int .i64 c', .int .i64 l, .int .i64 d] 34)).cell? ⟨w1.heap.size, 1, none⟩ = some v := cell_in (W := wr) ((Past.refl wr).alloc _) o1
      have HNW := Lib.hid hnews
      have HOA := Lib.hid hownA
      clear ha hy hYn hK hLL hS hv hnews hownA hd
      go_wp2_with fail
      go_region_law
        ((refine step_append_any (by rfl) _ _ _ (by rfl) (w2.heap.size + 1) 34 i0 _ 5 40 Try.underlying23 hi hz0 hz1 hz2 rfl (by omega) v K (cellsOf L) (by rfl) HOA.out ⟨wr.heap.size, 0, none⟩ 1 1 (by rfl) [.int .i64 f, .int .i64 t, .int .i64 c', .int .i64 l, .int .i64 d] rfl HNW.out (cellsOf_one [⟨f, t, c', l, d⟩]) (by unfold maxLen; omega) (by omega) (by simp; omega) ?_; intro v1 w9 hown1 hgrow1 hat1; obtain ⟨gv, cv, rfl, hgv, hgw⟩ := World.ownsRow.form hown1 (by omega); obtain ⟨⟨u9, x9⟩, z9, hS9⟩ := HS.out.put (a := ⟨f, t, c', l, d⟩) (Nat.le_refl _) (by omega) (((Past.refl wr).drew).alloc _) hgrow1 hown1 (by rw [HK.out]) rfl; have hd9 : IntsAt w9 (some ⟨gd, od, none⟩) ys := (HD.out.below (((Past.refl wr).drew).alloc _)).grown hgrow1 (fun b e e' => by have := HDL.out b e'; have := (HOA.out.lt b e).1; omega); have hz9 : wr.heap.size + 1 ≤ w9.heap.size := by have := hgrow1.size; simpa using this))
      all_goals go_wp2
      all_goals go_roundw
      all_goals first | (case rel => exact ⟨j + 1, _, by omega, by go_num, by rw [HF.out]; exact hS9, hd9.farS _ _ (by simp [blk]; omega), by simp; omega⟩) | (case measure => simp [intOf]; omega)
    · obtain rfl : N = j := by omega
      rw [List.take_of_length_le (by rw [← HN.out]; exact Nat.le_refl _), HYP.out] at hS
      obtain ⟨A', c', rfl, hx', ho'⟩ := hS.res.form
      have o0 := hS.o0
      have o1 := hS.o1
      have r1 : RowN wr (w.heap.size + 1) 25 2 := hrc.keep (hS.past.block _ sw)
      obtain ⟨q0, e0⟩ := r1.cell (i := 0) (by omega)
      obtain ⟨q1, e1⟩ := r1.cell (i := 1) (by omega)
      have z0 := r1.frozen 0
      have z1 := r1.frozen 1
      have hne : blk A' ≠ some (w.heap.size + 1) := ho'.ne_blk (by omega)
      have hpr := hp1.trans hS.past
      obtain ⟨h1, h2⟩ := lnet_yes HV.out
      have H1 := Lib.hid h1
      have H2 := Lib.hid h2
      obtain ⟨L, hLL⟩ : ∃ L, L = forL xs load := ⟨_, rfl⟩
      rw [← hLL] at hx' ho' o1
      have HLL := Lib.hid hLL
      obtain ⟨K, hK⟩ : ∃ K, K = L.length := ⟨_, rfl⟩
      rw [← hK] at ho' o1
      have HK := Lib.hid hK
      clear hK hLL hS h1 h2
      go_wp2
      exact bodyPost_ret (v := .agg #[.int .i64 m, .slice A' K c']) (by simp [results, Try.results26, go_sem, e0, e1]) rfl
        ⟨A', c', by rw [H1.out, H2.out, ← HLL.out, ← HK.out], by rw [H2.out, ← HLL.out]; exact (hx'.far _ _ hne).far _ _ hne, by rw [H2.out, ← HLL.out, ← HK.out]; exact ((ho'.lower (by have := hp1.size; omega)).far _ _).far _ _, Below.setCell (Below.setCell hpr (by simp) _) (by simp) _⟩
theorem lnetL_lenM (m : Int) (xs : List ArcD) (load : Int) : (lnetL m xs load).length ≤ 1048576 := Nat.le_trans (lnetL_len m xs load) (by omega)

end Go.Proofs.Ytaojognjkiifmab

namespace Go.Proofs.Ytaojognjkiifmab
open Go.RowKit

theorem numOf_take {ys : List Int} {k j : Nat} (h : j < k) : numOf (ys.take k) j = numOf ys j := by simp only [numOf, List.getD_eq_getElem?_getD]; rw [List.getElem?_take_of_lt h]
theorem numOf_drop {ys : List Int} {k j : Nat} : numOf (ys.drop k) j = numOf ys (k + j) := by simp only [numOf, List.getD_eq_getElem?_getD]; rw [List.getElem?_drop]

theorem ok_take {m : Int} {xs : List ArcD} {ys : List Int} (h : okB m xs ys = true) (k : Nat) : okB m xs (ys.take k) = true := by
  obtain ⟨hn, hw⟩ := (okB_iff m xs ys).1 h
  obtain ⟨hl, hs⟩ := (walkB_iff xs ys).1 hw
  refine (okB_iff m xs _).2 ⟨hn, (walkB_iff xs _).2 ⟨by rw [List.length_take]; omega, fun j hj => ?_⟩⟩
  rw [List.length_take] at hj
  have := hs j (by omega)
  unfold stepB at this ⊢
  rw [numOf_take (by omega), numOf_take (by omega)]
  exact this

theorem ok_drop {m : Int} {xs : List ArcD} {ys : List Int} (h : okB m xs ys = true) (k : Nat) : okB m xs (ys.drop k) = true := by
  obtain ⟨hn, hw⟩ := (okB_iff m xs ys).1 h
  obtain ⟨hl, hs⟩ := (walkB_iff xs ys).1 hw
  refine (okB_iff m xs _).2 ⟨hn, (walkB_iff xs _).2 ⟨by rw [List.length_drop]; omega, fun j hj => ?_⟩⟩
  rw [List.length_drop] at hj
  have := hs (k + j) (by omega)
  unfold stepB at this ⊢
  rw [numOf_drop]
  by_cases h0 : j = 0
  · subst h0
    simp only [Bool.and_eq_true] at this ⊢
    exact ⟨this.1, rfl⟩
  · rw [numOf_drop, show k + (j - 1) = k + j - 1 by omega]
    simp only [Bool.and_eq_true, Bool.or_eq_true, beq_iff_eq] at this ⊢
    refine ⟨this.1, .inr ?_⟩
    rcases this.2 with h1 | h1
    · omega
    · exact h1

end Go.Proofs.Ytaojognjkiifmab

namespace Go.Proofs.Ytaojognjkiifmab
open Go.RowKit

theorem sumTo_take (xs : List ArcD) (ys : List Int) (K : Nat) : ∀ k, k ≤ K → sumTo xs (ys.take K) k = sumTo xs ys k
  | 0, _ => rfl
  | k + 1, hk => by rw [sumTo, sumTo, sumTo_take xs ys K k (by omega), numOf_take (by omega)]

theorem sumTo_drop (xs : List ArcD) (ys : List Int) (K : Nat) : ∀ k, sumTo xs ys K + sumTo xs (ys.drop K) k = sumTo xs ys (K + k)
  | 0 => by simp [sumTo]
  | k + 1 => by
    have := sumTo_drop xs ys K k
    rw [sumTo, numOf_drop, ← Int.add_assoc, this]
    rfl

theorem cost_cut {m : Int} {xs : List ArcD} {ys : List Int} (h : okB m xs ys = true) {K : Nat} (hK : K ≤ ys.length) : costI m xs (ys.take K) + costI m xs (ys.drop K) = costI m xs ys := by
  have ht : (ys.take K).length = K := by rw [List.length_take]; omega
  rw [costI, if_pos (ok_take h K), costI, if_pos (ok_drop h K), costI, if_pos h, ht, List.length_drop, sumTo_take _ _ _ _ (Nat.le_refl K), sumTo_drop, show K + (ys.length - K) = ys.length by omega]

theorem cost_bd {m : Int} {xs : List ArcD} {ys : List Int} (h : okB m xs ys = true) : 0 ≤ costI m xs ys ∧ costI m xs ys ≤ 1980 := by
  rw [costI, if_pos h]
  have := sumTo_bd h ys.length (Nat.le_refl _)
  have := ok_len h
  omega

end Go.Proofs.Ytaojognjkiifmab

namespace Go.Proofs.Ytaojognjkiifmab
open Go.RowKit

/-- Where a walk begins, and the ends of its first k arcs. -/
def nodesTo (xs : List ArcD) (ys : List Int) (from_ : Int) (k : Nat) : List Int := from_ :: (List.range k).map fun i => (arcOf xs (numOf ys i)).t
theorem nodesTo_length (xs : List ArcD) (ys : List Int) (f : Int) (k : Nat) : (nodesTo xs ys f k).length = k + 1 := by simp [nodesTo]
theorem nodesTo_next (xs : List ArcD) (ys : List Int) (f : Int) (k : Nat) : nodesTo xs ys f (k + 1) = nodesTo xs ys f k ++ [(arcOf xs (numOf ys k)).t] := by simp [nodesTo, List.range_succ]


end Go.Proofs.Ytaojognjkiifmab

namespace Go.Proofs.Ytaojognjkiifmab
open Go.RowKit

/-- The nodes of a walk that has an arc. -/
def nodesW (xs : List ArcD) (ys : List Int) : List Int := if ys.length = 0 then [] else nodesTo xs ys (arcOf xs (numOf ys 0)).f ys.length
def nodesI (m : Int) (xs : List ArcD) (ys : List Int) : List Int := if okB m xs ys then nodesW xs ys else []

theorem nodesI_len (m : Int) (xs : List ArcD) (ys : List Int) : (nodesI m xs ys).length ≤ 1048576 := by
  unfold nodesI
  split
  · rename_i h
    have := ok_len h
    unfold nodesW
    split
    · simp
    · rw [nodesTo_length]; omega
  · simp

end Go.Proofs.Ytaojognjkiifmab

namespace Go.Proofs.Ytaojognjkiifmab
open Go.RowKit

/-- i is where x stands last in a list. -/
def IsLast (nd : List Int) (x : Int) (i : Nat) : Prop := nd[i]? = some x ∧ ∀ j, i < j → nd[j]? ≠ some x

/-- Where x stands last among the first k + 1. -/
def lastFrom (nd : List Int) (x : Int) : Nat → Nat
  | 0 => 0
  | k + 1 => if nd[k + 1]? = some x then k + 1 else lastFrom nd x k
def lastIx (nd : List Int) (x : Int) : Nat := lastFrom nd x nd.length

theorem lastFrom_eq {nd : List Int} {x : Int} {i : Nat} (h : IsLast nd x i) : ∀ k, i ≤ k → lastFrom nd x k = i
  | 0, hk => by simp [lastFrom]; omega
  | k + 1, hk => by
    unfold lastFrom
    split
    · rename_i h1
      rcases Nat.lt_or_ge i (k + 1) with hlt | hge
      · exact absurd h1 (h.2 _ hlt)
      · omega
    · rename_i h1
      have : i ≠ k + 1 := fun e => by subst e; exact h1 h.1
      exact lastFrom_eq h k (by omega)
theorem lastIx_eq {nd : List Int} {x : Int} {i : Nat} (h : IsLast nd x i) : lastIx nd x = i :=
  lastFrom_eq h _ (Nat.le_of_lt (List.getElem?_eq_some_iff.1 h.1).1)

theorem lastFrom_spec {nd : List Int} {x : Int} {s : Nat} (hs : nd[s]? = some x) : ∀ k, s ≤ k → (∀ j, k < j → nd[j]? ≠ some x) → IsLast nd x (lastFrom nd x k) ∧ s ≤ lastFrom nd x k
  | 0, hk, h => by
    obtain rfl : s = 0 := by omega
    exact ⟨⟨hs, h⟩, Nat.le_refl _⟩
  | k + 1, hk, h => by
    unfold lastFrom
    split
    · rename_i h1
      exact ⟨⟨h1, h⟩, hk⟩
    · rename_i h1
      have hne : s ≠ k + 1 := fun e => by subst e; exact h1 hs
      refine lastFrom_spec hs k (by omega) (fun j hj => ?_)
      rcases Nat.lt_or_ge (k + 1) j with hlt | hge
      · exact h j hlt
      · obtain rfl : j = k + 1 := by omega
        exact h1
theorem lastIx_spec {nd : List Int} {x : Int} {s : Nat} (hs : nd[s]? = some x) : IsLast nd x (lastIx nd x) ∧ s ≤ lastIx nd x :=
  lastFrom_spec hs _ (Nat.le_of_lt (List.getElem?_eq_some_iff.1 hs).1) (fun j hj => by rw [List.getElem?_eq_none (by omega)]; simp)

/-- What is left of a walk from node s on. -/
def plainFrom (nd ys : List Int) : Nat → Nat → List Int
  | 0, _ => []
  | fuel + 1, s => if lastIx nd (numOf nd s) < ys.length then numOf ys (lastIx nd (numOf nd s)) :: plainFrom nd ys fuel (lastIx nd (numOf nd s) + 1) else []

def plainW (xs : List ArcD) (ys : List Int) : List Int := plainFrom (nodesW xs ys) ys (ys.length + 1) 0
def plainI (m : Int) (xs : List ArcD) (ys : List Int) : List Int := if okB m xs ys then (if ys.length = 0 then [] else plainW xs ys) else []

theorem nodesW_length {xs : List ArcD} {ys : List Int} (h : ys.length ≠ 0) : (nodesW xs ys).length = ys.length + 1 := by rw [nodesW, if_neg h, nodesTo_length]
theorem nodesW_to {xs : List ArcD} {ys : List Int} {k : Nat} (hk : k < ys.length) : (nodesW xs ys)[k + 1]? = some (arcOf xs (numOf ys k)).t := by
  rw [nodesW, if_neg (by omega)]
  simp [nodesTo, hk]
theorem nodesW_from {m : Int} {xs : List ArcD} {ys : List Int} {k : Nat} (ho : okB m xs ys = true) (hk : k < ys.length) : (nodesW xs ys)[k]? = some (arcOf xs (numOf ys k)).f := by
  cases k with
  | zero => rw [nodesW, if_neg (by omega)]; simp [nodesTo]
  | succ k =>
    rw [nodesW_to (by omega)]
    have h := ((walkB_iff _ _).1 ((okB_iff _ _ _).1 ho).2).2 (k + 1) hk
    simp [stepB] at h
    rw [h.2]

theorem numOf_at {zs : List Int} {k : Nat} {x : Int} (h : zs[k]? = some x) : numOf zs k = x := by simp [numOf, List.getD_eq_getElem?_getD, h]
theorem at_numOf {zs : List Int} {k : Nat} (h : k < zs.length) : zs[k]? = some (numOf zs k) := by simp [numOf, List.getD_eq_getElem?_getD, List.getElem?_eq_getElem h]

theorem plainFrom_len (nd ys : List Int) : ∀ fuel s, (plainFrom nd ys fuel s).length ≤ fuel
  | 0, _ => by simp [plainFrom]
  | fuel + 1, s => by
    unfold plainFrom
    split
    · simp only [List.length_cons]
      have := plainFrom_len nd ys fuel (lastIx nd (numOf nd s) + 1)
      omega
    · simp
theorem plainI_len (m : Int) (xs : List ArcD) (ys : List Int) : (plainI m xs ys).length ≤ 1048576 := by
  unfold plainI
  split
  · rename_i h
    have := ok_len h
    split
    · simp
    · have := plainFrom_len (nodesW xs ys) ys (ys.length + 1) 0
      unfold plainW
      omega
  · simp

/-- What was kept so far, and what is still to come from node s on, are the whole. -/
structure PlainAt (nd ys tot done : List Int) (s fuel : Nat) : Prop where
  whole : done ++ plainFrom nd ys fuel s = tot
  enough : ys.length + 1 ≤ fuel + s
  inside : s ≤ ys.length

theorem PlainAt.next {nd ys tot done : List Int} {s fuel i : Nat} (h : PlainAt nd ys tot done s fuel) (hi : IsLast nd (numOf nd s) i) (hs : s ≤ i) (hlt : i < ys.length) : ∃ fuel', PlainAt nd ys tot (done ++ [numOf ys i]) (i + 1) fuel' := by
  obtain ⟨h1, h2, h3⟩ := h
  cases fuel with
  | zero => omega
  | succ fuel =>
    refine ⟨fuel, ?_, by omega, by omega⟩
    rw [← h1]
    conv => rhs; unfold plainFrom
    rw [lastIx_eq hi, if_pos hlt]
    simp
theorem PlainAt.stop {nd ys tot done : List Int} {s fuel i : Nat} (h : PlainAt nd ys tot done s fuel) (hi : IsLast nd (numOf nd s) i) (hge : ys.length ≤ i) : done = tot := by
  obtain ⟨h1, h2, h3⟩ := h
  cases fuel with
  | zero => omega
  | succ fuel =>
    rw [← h1]
    unfold plainFrom
    rw [lastIx_eq hi, if_neg (by omega)]
    simp
theorem PlainAt.len {nd ys tot done : List Int} {s fuel : Nat} (h : PlainAt nd ys tot done s fuel) : done.length ≤ tot.length := by rw [← h.whole]; simp

end Go.Proofs.Ytaojognjkiifmab

namespace Go.Proofs.Ytaojognjkiifmab
open Go.RowKit

def toOf (xs : List ArcD) (y : Int) : Int := (arcOf xs y).t
def inArc (xs : List ArcD) (y : Int) : Bool := inB y 0 ((xs.length : Int) - 1)

/-- Arcs one behind the other, the first from the node x. -/
def Chain (xs : List ArcD) : Int → List Int → Prop
  | _, [] => True
  | x, y :: ys => inArc xs y = true ∧ (arcOf xs y).f = x ∧ Chain xs (toOf xs y) ys

theorem numOf_zero (y : Int) (ys : List Int) : numOf (y :: ys) 0 = y := by simp [numOf]
theorem numOf_succ (y : Int) (ys : List Int) (k : Nat) : numOf (y :: ys) (k + 1) = numOf ys k := by simp [numOf]

theorem Chain.step {xs : List ArcD} : ∀ {ys : List Int} {x : Int}, Chain xs x ys → ∀ k, k < ys.length → stepB xs ys k = true
  | [], _, _, k, hk => by simp at hk
  | y :: ys, x, h, k, hk => by
    obtain ⟨h1, h2, h3⟩ := h
    unfold inArc at h1
    cases k with
    | zero => unfold stepB; rw [numOf_zero, h1]; simp
    | succ k =>
      have ih := Chain.step h3 k (by simpa using hk)
      cases k with
      | zero =>
        cases ys with
        | nil => simp at hk
        | cons z zs =>
          obtain ⟨g1, g2, g3⟩ := h3
          unfold inArc at g1
          unfold stepB
          rw [numOf_succ, numOf_zero, show (0 + 1 - 1) = 0 by omega, numOf_zero, g1, g2]
          simp [toOf]
      | succ k =>
        unfold stepB at ih ⊢
        rw [numOf_succ, show (k + 1 + 1 - 1) = k + 1 by omega, numOf_succ]
        simp at ih ⊢
        exact ih

theorem nodesW_map (xs : List ArcD) (ys : List Int) (h : ys.length ≠ 0) : nodesW xs ys = (arcOf xs (numOf ys 0)).f :: ys.map (toOf xs) := by
  rw [nodesW, if_neg h, nodesTo]
  congr 1
  apply List.ext_getElem?
  intro k
  by_cases hk : k < ys.length
  · simp [hk, numOf, toOf]
  · simp [hk]

def costL (xs : List ArcD) (ys : List Int) : Int := (ys.map fun y => (arcOf xs y).c).sum

theorem sumTo_costL (xs : List ArcD) : ∀ (ys : List Int) (k : Nat), sumTo xs ys k = costL xs (ys.take k) ∨ ys.length < k := by
  intro ys k
  induction k with
  | zero => left; simp [sumTo, costL]
  | succ k ih =>
    by_cases hk : k < ys.length
    · left
      rcases ih with ih | ih
      · rw [sumTo, ih, List.take_add_one, List.getElem?_eq_getElem hk, numOf_at (List.getElem?_eq_getElem hk)]
        simp only [costL, Option.toList_some, List.map_append, List.map_cons, List.map_nil, List.sum_append, List.sum_cons, List.sum_nil, Int.add_zero]
      · omega
    · right; omega

theorem sumTo_all (xs : List ArcD) (ys : List Int) : sumTo xs ys ys.length = costL xs ys := by
  rcases sumTo_costL xs ys ys.length with h | h
  · rw [h, List.take_length]
  · omega

theorem costL_sub {xs : List ArcD} {p ys : List Int} (h : p.Sublist ys) (hp : ∀ y ∈ ys, 0 ≤ (arcOf xs y).c) : costL xs p ≤ costL xs ys := by
  induction h with
  | slnil => exact Int.le_refl _
  | cons a _ ih =>
    have := ih (fun y hy => hp y (List.mem_cons_of_mem _ hy))
    have := hp a List.mem_cons_self
    simp only [costL, List.map_cons, List.sum_cons] at *
    omega
  | cons_cons a _ ih =>
    have := ih (fun y hy => hp y (List.mem_cons_of_mem _ hy))
    simp only [costL, List.map_cons, List.sum_cons] at *
    omega

/-- What plainFrom keeps. -/
structure Kept (xs : List ArcD) (nd ys p : List Int) (s : Nat) : Prop where
  chain : Chain xs (numOf nd s) p
  sub : p.Sublist (ys.drop s)
  late : ∀ z ∈ numOf nd s :: p.map (toOf xs), ∃ j, s ≤ j ∧ nd[j]? = some z
  nodup : (numOf nd s :: p.map (toOf xs)).Nodup
  last : (numOf nd s :: p.map (toOf xs)).getLast? = some (numOf nd ys.length)

theorem kept {m : Int} {xs : List ArcD} {ys : List Int} (ho : okB m xs ys = true) (h0 : ys.length ≠ 0) : ∀ fuel s, s ≤ ys.length → ys.length + 1 ≤ fuel + s → Kept xs (nodesW xs ys) ys (plainFrom (nodesW xs ys) ys fuel s) s
  | 0, s, h1, h2 => by omega
  | fuel + 1, s, h1, h2 => by
    have hlen := nodesW_length (xs := xs) h0
    have hs := at_numOf (zs := nodesW xs ys) (k := s) (by omega)
    obtain ⟨hl, hsi⟩ := lastIx_spec hs
    obtain ⟨i, hi⟩ : ∃ i, i = lastIx (nodesW xs ys) (numOf (nodesW xs ys) s) := ⟨_, rfl⟩
    rw [← hi] at hl hsi
    unfold plainFrom
    rw [← hi]
    have hiL : i < (nodesW xs ys).length := (List.getElem?_eq_some_iff.1 hl.1).1
    by_cases hlt : i < ys.length
    · rw [if_pos hlt]
      have ih := kept ho h0 fuel (i + 1) (by omega) (by omega)
      have hto : toOf xs (numOf ys i) = numOf (nodesW xs ys) (i + 1) := (numOf_at (nodesW_to hlt)).symm
      have hfr : (arcOf xs (numOf ys i)).f = numOf (nodesW xs ys) s := by
        have h1 := nodesW_from ho hlt
        rw [hl.1] at h1
        injection h1 with h1
        exact h1.symm
      have hin : inArc xs (numOf ys i) = true := by
        have h := ((walkB_iff _ _).1 ((okB_iff _ _ _).1 ho).2).2 i hlt
        unfold stepB at h
        simp only [Bool.and_eq_true] at h
        exact h.1
      have hne : ∀ z ∈ numOf (nodesW xs ys) (i + 1) :: (plainFrom (nodesW xs ys) ys fuel (i + 1)).map (toOf xs), z ≠ numOf (nodesW xs ys) s := by
        intro z hz e
        obtain ⟨j, hj, hjz⟩ := ih.late z hz
        exact hl.2 j (by omega) (by rw [hjz, e])
      refine ⟨⟨hin, hfr, by rw [hto]; exact ih.chain⟩, ?_, ?_, ?_, ?_⟩
      · have e : ys.drop i = numOf ys i :: ys.drop (i + 1) := by
          rw [List.drop_eq_getElem_cons hlt]
          congr 1
          simp [numOf, hlt]
        have h3 : (numOf ys i :: plainFrom (nodesW xs ys) ys fuel (i + 1)).Sublist (ys.drop i) := by rw [e]; exact ih.sub.cons_cons _
        refine h3.trans ?_
        rw [show i = s + (i - s) by omega, ← List.drop_drop]
        exact List.drop_sublist _ _
      · intro z hz
        rcases List.mem_cons.1 hz with rfl | hz
        · exact ⟨s, Nat.le_refl _, hs⟩
        · rw [List.map_cons, hto] at hz
          obtain ⟨j, hj, e⟩ := ih.late z hz
          exact ⟨j, by omega, e⟩
      · rw [List.map_cons, hto]
        exact List.nodup_cons.2 ⟨fun h => hne _ h rfl, ih.nodup⟩
      · rw [List.map_cons, hto, List.getLast?_cons_cons]
        exact ih.last
    · rw [if_neg hlt]
      obtain rfl : i = ys.length := by omega
      refine ⟨trivial, List.nil_sublist _, ?_, by simp, ?_⟩
      · intro z hz
        simp at hz
        subst hz
        exact ⟨s, Nat.le_refl _, hs⟩
      · simp
        exact (numOf_at hl.1).symm

theorem plainFrom_self {nd p : List Int} (hn : nd.Nodup) (hl : nd.length = p.length + 1) : ∀ fuel s, s ≤ p.length → p.length + 1 ≤ fuel + s → plainFrom nd p fuel s = p.drop s
  | 0, s, h1, h2 => by omega
  | fuel + 1, s, h1, h2 => by
    have hs := at_numOf (zs := nd) (k := s) (by omega)
    have hlast : IsLast nd (numOf nd s) s := ⟨hs, fun j hj e => by
      have := (List.getElem?_inj (i := s) (j := j) (by omega) hn).1 (hs.trans e.symm)
      omega⟩
    unfold plainFrom
    rw [lastIx_eq hlast]
    split
    · rename_i h
      rw [plainFrom_self hn hl fuel (s + 1) (by omega) (by omega), List.drop_eq_getElem_cons h]
      congr 1
      simp [numOf, h]
    · rw [List.drop_eq_nil_of_le (by omega)]

/-- What is said of a walk without its rings. -/
structure Plains (m : Int) (xs : List ArcD) (ys p : List Int) : Prop where
  ok : okB m xs p = true
  nodup : (nodesI m xs p).Nodup
  len : (nodesI m xs p).length = p.length + 1
  first : (nodesI m xs p)[0]? = (nodesI m xs ys)[0]?
  last : (nodesI m xs p)[p.length]? = (nodesI m xs ys)[ys.length]?
  cost : costI m xs p ≤ costI m xs ys
  self : plainI m xs p = p

theorem plains {m : Int} {xs : List ArcD} {ys : List Int} (ho : okB m xs ys = true) (hp : (plainI m xs ys).length ≠ 0) : ys.length ≠ 0 ∧ Plains m xs ys (plainI m xs ys) := by
  by_cases h0 : ys.length = 0
  · simp [plainI, ho, h0] at hp
  refine ⟨h0, ?_⟩
  have hk := kept ho h0 (ys.length + 1) 0 (by omega) (by omega)
  have hP : plainI m xs ys = plainFrom (nodesW xs ys) ys (ys.length + 1) 0 := by rw [plainI, if_pos ho, if_neg h0, plainW]
  rw [← hP] at hk
  generalize plainI m xs ys = p at *
  obtain ⟨hch, hsub, _, hnd, hla⟩ := hk
  rw [List.drop_zero] at hsub
  have h20 := ok_len ho
  have hokp : okB m xs p = true := (okB_iff _ _ _).2 ⟨((okB_iff _ _ _).1 ho).1, (walkB_iff _ _).2 ⟨by have := hsub.length_le; omega, hch.step⟩⟩
  have hfr : (arcOf xs (numOf p 0)).f = numOf (nodesW xs ys) 0 := by
    cases p with
    | nil => simp at hp
    | cons y q => rw [numOf_zero]; exact hch.2.1
  have hno : nodesI m xs p = numOf (nodesW xs ys) 0 :: p.map (toOf xs) := by rw [nodesI, if_pos hokp, nodesW_map xs p hp, hfr]
  have hny : nodesI m xs ys = nodesW xs ys := by rw [nodesI, if_pos ho]
  have hnl := nodesW_length (xs := xs) h0
  refine ⟨hokp, by rw [hno]; exact hnd, by rw [hno]; simp, ?_, ?_, ?_, ?_⟩
  · rw [hno, hny, at_numOf (zs := nodesW xs ys) (k := 0) (by omega)]; rfl
  · rw [hno, hny, at_numOf (zs := nodesW xs ys) (k := ys.length) (by omega), ← hla, List.getLast?_eq_getElem?]
    simp
  · rw [costI, if_pos hokp, costI, if_pos ho, sumTo_all, sumTo_all]
    refine costL_sub hsub fun y hy => ?_
    obtain ⟨k, hk, rfl⟩ := List.mem_iff_getElem.1 hy
    obtain ⟨j, a, hya, hja, q0, _, he⟩ := ok_arc ho (List.getElem?_eq_getElem hk)
    rw [numOf_at (List.getElem?_eq_getElem hk)] at he
    rw [he]; exact q0
  · have hnw : nodesW xs p = numOf (nodesW xs ys) 0 :: p.map (toOf xs) := by rw [nodesW_map xs p hp, hfr]
    rw [plainI, if_pos hokp, if_neg hp, plainW, plainFrom_self (by rw [hnw]; exact hnd) (nodesW_length hp) _ _ (by omega) (by omega), List.drop_zero]

theorem plain_none {m : Int} {xs : List ArcD} {ys : List Int} (ho : okB m xs ys = true) (hp : (plainI m xs ys).length = 0) (h0 : ys.length ≠ 0) : (arcOf xs (numOf ys 0)).f = (arcOf xs (numOf ys (ys.length - 1))).t := by
  have hk := kept ho h0 (ys.length + 1) 0 (by omega) (by omega)
  have hP : plainI m xs ys = plainFrom (nodesW xs ys) ys (ys.length + 1) 0 := by rw [plainI, if_pos ho, if_neg h0, plainW]
  rw [← hP, List.eq_nil_of_length_eq_zero hp] at hk
  have h1 := hk.last
  simp at h1
  have e1 := numOf_at (nodesW_from ho (show 0 < ys.length by omega))
  have e2 := nodesW_to (xs := xs) (show ys.length - 1 < ys.length by omega)
  rw [show ys.length - 1 + 1 = ys.length by omega] at e2
  rw [← e1, h1, numOf_at e2]

end Go.Proofs.Ytaojognjkiifmab

namespace Go.Proofs.Ytaojognjkiifmab

theorem Way.one {xs : List ArcD} {a : ArcD} (ha : a ∈ xs) : Way xs a.f a.t a.c [a.f] := by
  have := Way.snoc (.nil : Way xs a.f a.f 0 []) ha rfl
  rw [Int.zero_add] at this
  exact this
theorem Way.back {xs : List ArcD} {s v c : Int} {l : List Int} (h : Way xs s v c l) : ∃ l', Way (xs.map flip) v s c l' := by
  induction h with
  | nil => exact ⟨_, .nil⟩
  | @snoc u c l a _ ha e ih =>
    obtain ⟨l', h'⟩ := ih
    subst e
    have h1 : Way (xs.map flip) a.t a.f a.c [a.t] := Way.one (a := flip a) (List.mem_map.2 ⟨a, ha, rfl⟩)
    obtain ⟨l2, h2⟩ := h1.join h'
    exact ⟨l2, by rw [Int.add_comm]; exact h2⟩
theorem flips_id (xs : List ArcD) : (xs.map flip).map flip = xs := by rw [List.map_map]; exact (List.map_congr_left fun _ _ => rfl).trans (List.map_id _)
theorem arcsIn_back {m : Int} {xs : List ArcD} (h : ArcsIn m xs) : ArcsIn m (xs.map flip) := fun a ha => by
  obtain ⟨b, hb, rfl⟩ := List.mem_map.1 ha
  have := h b hb
  simp only [flip]
  omega
theorem near_back {m : Nat} {xs : List ArcD} {s v : Int} (hm : m ≤ 17) (hx : ArcsIn m xs) (hs : 0 ≤ s ∧ s < m) (hv : 0 ≤ v ∧ v < m) : at_ (nearL m xs s) v = at_ (nearL m (xs.map flip) v) s := by
  have hy := arcsIn_back hx
  obtain ⟨a1, a2⟩ := (nearL_sound hx hs).2 v hv.1 hv.2
  obtain ⟨b1, b2⟩ := (nearL_sound hy hv).2 s hs.1 hs.2
  rcases a2 with a2 | ⟨l, a2⟩
  · rcases b2 with b2 | ⟨l', b2⟩
    · omega
    · obtain ⟨l2, h2⟩ := b2.back
      rw [flips_id] at h2
      have := nearL_le hm hx hs h2
      omega
  · obtain ⟨l2, h2⟩ := a2.back
    have h3 := nearL_le hm hy hv h2
    rcases b2 with b2 | ⟨l', b2⟩
    · omega
    · obtain ⟨l4, h4⟩ := b2.back
      rw [flips_id] at h4
      have := nearL_le hm hx hs h4
      omega

end Go.Proofs.Ytaojognjkiifmab

namespace Go.Proofs.Ytaojognjkiifmab

/-- What is known of the best way from a node. -/
structure Gone (xs : List ArcD) (L : List LenD) (s v : Int) (k : Nat) (ys : List Int) : Prop where
  chain : Chain xs v ys
  cost : costL xs ys = (lab L v).x0
  nodup : (v :: ys.map (toOf xs)).Nodup
  less : ∀ u ∈ ys.map (toOf xs), (lab L u).x1 < k
  last : ys ≠ [] → (arcOf xs (numOf ys (ys.length - 1))).t = s
  none : ys = [] → v = s

theorem TreeL.gone {m : Nat} {xs : List ArcD} {s : Int} {L : List LenD} (h : TreeL m xs s L) : ∀ (k : Nat) (v : Int), 0 ≤ v → v < m → lab L v ≠ farL → (lab L v).x1 = k → Gone xs L s v k (wayL xs L s v) := by
  intro k
  induction k with
  | zero =>
    intro v h0 h1 hf hk
    have hv : v = s := by
      by_cases e : v = s
      · exact e
      · obtain ⟨j, a, _, e2, _, _, e5, _⟩ := h.some v e hf h0 h1
        have hb := h.arcs a (List.mem_of_getElem? e2)
        have := h.bound a.t (by omega) (by omega)
        omega
    subst hv
    rw [h.wayL_to]
    exact ⟨trivial, by rw [h.lab_to]; rfl, by simp, fun u hu => by simp at hu, fun e => absurd rfl e, fun _ => rfl⟩
  | succ k ih =>
    intro v h0 h1 hf hk
    have hv : v ≠ s := fun e => by rw [e, h.lab_to] at hk; simp at hk; omega
    obtain ⟨j, a, e1, e2, _, e4, e5, e6, e7, _⟩ := h.some v hv hf h0 h1
    have hb := h.arcs a (List.mem_of_getElem? e2)
    have hj : j < xs.length := (List.getElem?_eq_some_iff.1 e2).1
    have ha : arcOf xs (j : Int) = a := by unfold arcOf; rw [Int.toNat_natCast, List.getD_eq_getElem?_getD, e2]; rfl
    have ht : toOf xs (j : Int) = a.t := by unfold toOf; rw [ha]
    have g := ih a.t (by omega) (by omega) e4 (by omega)
    rw [h.wayL_step hv e1 e2 e5]
    have hle : ∀ u ∈ a.t :: (wayL xs L s a.t).map (toOf xs), (lab L u).x1 < ((k + 1 : Nat) : Int) := fun u hu => by
      rcases List.mem_cons.1 hu with rfl | hu
      · omega
      · have := g.less u hu; omega
    refine ⟨⟨by unfold inArc; rw [inB_iff]; omega, by rw [ha]; exact e7, by rw [ht]; exact g.chain⟩, ?_, ?_, ?_, fun _ => ?_, fun e => by cases e⟩
    · have hc := g.cost
      unfold costL at hc ⊢
      rw [List.map_cons, List.sum_cons, hc, ha, e6]
      omega
    · rw [List.map_cons, ht]
      refine List.nodup_cons.2 ⟨fun hm => ?_, g.nodup⟩
      have := hle v hm
      omega
    · rw [List.map_cons, ht]
      exact hle
    · cases hw : wayL xs L s a.t with
      | nil =>
        have := g.none hw
        simp [numOf, ha, this]
      | cons z zs =>
        have hl := g.last (by rw [hw]; simp)
        rw [hw] at hl
        rw [List.length_cons, show (z :: zs).length + 1 - 1 = ((z :: zs).length - 1) + 1 by simp, numOf_succ]
        exact hl

theorem plain_self {m : Int} {xs : List ArcD} {ys : List Int} (ho : okB m xs ys = true) (hn : ys ≠ [] → ((arcOf xs (numOf ys 0)).f :: ys.map (toOf xs)).Nodup) : plainI m xs ys = ys := by
  unfold plainI
  rw [if_pos ho]
  split
  · rename_i e
    exact (List.eq_nil_of_length_eq_zero e).symm
  · rename_i e
    unfold plainW
    rw [nodesW_map xs ys e]
    have := plainFrom_self (p := ys) (hn (fun e' => e (by rw [e']; rfl))) (by simp) (ys.length + 1) 0 (by omega) (by omega)
    simpa using this

/-- All that the law asks of a best way. -/
theorem near_gone {m : Int} {xs : List ArcD} {a b : Int} (h : nearWB m xs a b = true) : okB m xs (nearWI m xs a b) = true ∧ costI m xs (nearWI m xs a b) = at_ (nearI m xs a) b ∧ plainI m xs (nearWI m xs a b) = nearWI m xs a b ∧
    (nearWI m xs a b = [] → a = b) ∧ (nearWI m xs a b ≠ [] → (arcOf xs (numOf (nearWI m xs a b) 0)).f = a ∧ (arcOf xs (numOf (nearWI m xs a b) ((nearWI m xs a b).length - 1))).t = b) ∧ (nearWI m xs a b).length ≤ 20 ∧ (nearI m xs a).length = m.toNat ∧ 0 ≤ b ∧ b < m ∧ ∃ M : Nat, m = M := by
  rw [nearWB, Bool.and_eq_true] at h
  obtain ⟨hB, hF⟩ := h
  obtain ⟨hN, ha, hb⟩ := (hereB2_iff _ _ _ _).1 hB
  obtain ⟨M, rfl, h3, h8⟩ := here_nat hN
  rw [Int.toNat_natCast] at hF
  have hF : farB M xs b a = false := by simpa using hF
  have hT := treeL_of (arcsIn_net hN) hb (by omega)
  have hf : lab (labsOf M xs b) a ≠ farL := by simpa [farB] using hF
  have hw : nearWI (M : Int) xs a b = wayL xs (labsOf M xs b) b a := by rw [nearWI, hB, if_pos rfl, Int.toNat_natCast, wayM, hF, if_neg (by simp)]
  have hbd := hT.bound a ha.1 ha.2
  have g := hT.gone (lab (labsOf M xs b) a).x1.toNat a ha.1 ha.2 hf (by omega)
  have hfew := hT.way_few a ha.1 ha.2 hf
  have hhere : hereB (M : Int) xs a = true := (hereB_iff _ _ _).2 ⟨hN, ha⟩
  have hnear : nearI (M : Int) xs a = nearL M xs a := by rw [nearI, hhere, if_pos rfl, Int.toNat_natCast]
  rw [hw, hnear]
  generalize hys : wayL xs (labsOf M xs b) b a = ys at g hfew ⊢
  have hfirst : ys ≠ [] → (arcOf xs (numOf ys 0)).f = a := fun e => by
    cases ys with
    | nil => exact absurd rfl e
    | cons y ys => rw [numOf_zero]; exact g.chain.2.1
  have ho : okB (M : Int) xs ys = true := by
    unfold okB
    rw [hN, Bool.true_and, walkB_iff]
    exact ⟨by omega, fun k hk => g.chain.step k hk⟩
  refine ⟨ho, ?_, ?_, g.none, fun e => ⟨hfirst e, g.last e⟩, by omega, by rw [nearL_length, Int.toNat_natCast], hb.1, hb.2, M, rfl⟩
  · unfold costI
    rw [if_pos ho, sumTo_all, g.cost, ← hT.near_at a ha.1 ha.2]
    exact (near_back (by omega) (arcsIn_net hN) ha hb).symm
  · exact plain_self ho (fun e => by rw [hfirst e]; exact g.nodup)

end Go.Proofs.Ytaojognjkiifmab

namespace Go.Proofs.Ytaojognjkiifmab

/-- The best way over which so much may go, and whether there is one. -/
def lwayI (m : Int) (xs : List ArcD) (a b load : Int) : List Int := (nearWI (lnetN m xs load) (lnetL m xs load) a b).map fun y => at_ (strongL xs load) y
def lwayB (m : Int) (xs : List ArcD) (a b load : Int) : Bool := nearWB (lnetN m xs load) (lnetL m xs load) a b
theorem lway_net {m : Int} {xs : List ArcD} {a b load : Int} (h : lnetB m xs load = false) : lwayI m xs a b load = [] ∧ lwayB m xs a b load = false := by
  obtain ⟨h1, h2⟩ := lnet_no h
  have h0 : netB 0 [] = false := rfl
  simp [lwayI, lwayB, h1, h2, nearWI, nearWB, hereB2, hereB, h0]
theorem lway_here {m : Int} {xs : List ArcD} {a b load : Int} (h : hereB2 m xs a b = false) : lwayI m xs a b load = [] ∧ lwayB m xs a b load = false := by
  cases hL : lnetB m xs load with
  | false => exact lway_net hL
  | true =>
    obtain ⟨h1, h2⟩ := lnet_yes hL
    simp only [lnetB, Bool.and_eq_true] at hL
    have h3 : hereB2 m (forL xs load) a b = false := by
      have h0 := forL_net hL.1 load
      rw [hereB2, hereB, h0]
      rw [hereB2, hereB, hL.1] at h
      exact h
    simp [lwayI, lwayB, h1, h2, nearWI, nearWB, h3]
theorem lway_yes {M : Nat} {xs : List ArcD} {a b load : Int} (h : lnetB (M : Int) xs load = true) (h2 : hereB2 (M : Int) xs a b = true) :
    lwayI (M : Int) xs a b load = (wayM M (forL xs load) a b).map (fun y => at_ (strongL xs load) y) ∧ lwayB (M : Int) xs a b load = !(farB M (forL xs load) b a) := by
  obtain ⟨e1, e2⟩ := lnet_yes h
  simp only [lnetB, Bool.and_eq_true] at h
  have h3 : hereB2 (M : Int) (forL xs load) a b = true := by
    rw [hereB2, hereB, forL_net h.1 load]
    rw [hereB2, hereB, h.1] at h2
    exact h2
  constructor
  · rw [lwayI, e1, e2, nearWI, if_pos h3, Int.toNat_natCast]
  · rw [lwayB, e1, e2, nearWB, h3, Int.toNat_natCast, Bool.true_and]
theorem lwayI_len (m : Int) (xs : List ArcD) (a b load : Int) : (lwayI m xs a b load).length ≤ 1048576 := by
  rw [lwayI, List.length_map]
  exact nearWI_len _ _ _ _
/-- The arcs of a way are arcs of the net. -/
theorem wayM_arcs {M : Nat} {xs : List ArcD} {a b : Int} (hx : ArcsIn M xs) (ha : 0 ≤ a ∧ a < M) (hb : 0 ≤ b ∧ b < M) (hm : M ≤ 8) : ∀ y ∈ wayM M xs a b, 0 ≤ y ∧ y < xs.length := fun y hy => by
  unfold wayM at hy
  split at hy
  · simp at hy
  · rename_i h
    have hT := treeL_of hx hb hm
    have hf : lab (labsOf M xs b) a ≠ farL := by simpa [farB] using h
    have hbd := hT.bound a ha.1 ha.2
    have g := hT.gone (lab (labsOf M xs b) a).x1.toNat a ha.1 ha.2 hf (by omega)
    obtain ⟨k, hk⟩ := List.getElem?_of_mem hy
    have hkl := (List.getElem?_eq_some_iff.1 hk).1
    have hst := g.chain.step k hkl
    have e : numOf (wayL xs (labsOf M xs b) b a) k = y := by simp [numOf, List.getD_eq_getElem?_getD, hk]
    simp only [stepB, Bool.and_eq_true, inB_iff] at hst
    rw [e] at hst
    omega

theorem strongL_get {xs : List ArcD} {load : Int} {y : Int} (h0 : 0 ≤ y) (h1 : y < (forL xs load).length) : (strongL xs load)[y.toNat]? = some (at_ (strongL xs load) y) ∧ y < (strongL xs load).length := by
  have h := strong_pick xs load
  have hl : (forL xs load).length ≤ (strongL xs load).length := by rw [← h]; exact pickA_len _ _
  have h2 : y.toNat < (strongL xs load).length := by omega
  have e := getElem_at (strongL xs load) y.toNat h2
  rw [show ((y.toNat : Nat) : Int) = y by omega] at e
  exact ⟨e, by omega⟩

end Go.Proofs.Ytaojognjkiifmab

namespace Go.Proofs.Ytaojognjkiifmab
open Go.RowKit

set_option maxRecDepth 100000 in
set_option maxHeartbeats 4000000 in
theorem specLoadWalk_any (m : Int) (A : Option Addr) (n c : Nat) (xs : List ArcD) (a b load : Int) (w : World) (hn : n ≤ 1048576) (hnx : xs.length = n) (hx : ArcsAt w A xs) :
    Calls Try.prog 21 #[.agg #[.int .i64 m, .slice A n c], .int .i64 a, .int .i64 b, .int .i64 load] w (GivesB w (lwayI m xs a b load) (lwayB m xs a b load)) := by
  have HX := Lib.hid hnx
  clear hnx
  obtain ⟨i0, hi, hz0, hz1, hz2⟩ := info_parts infoInt
  have hb0 : Past w (w.alloc (.cells #[.int .i64 m, .slice A n c] 25)) := (Past.refl _).alloc _
  go_enter Try.func21, Try.ntmps21
  go_wp2_with fail
  refine (l1Ok_any m A n c xs _ hn HX.out (hx.below hb0)).mono ?_
  rintro e W ⟨rfl, hb1⟩
  have b0 := cell_in (p := ⟨w.heap.size, 0, none⟩) (v := .int .i64 m) hb1 (by go_simp)
  have b1 := cell_in (p := ⟨w.heap.size, 1, none⟩) (v := .slice A n c) hb1 (by go_simp)
  have hxW := (hx.below hb0).below hb1
  have hpW := hb0.trans hb1
  clear hb0 hb1
  have no : ∀ (h : lwayI m xs a b load = [] ∧ lwayB m xs a b load = false), GivesB w (lwayI m xs a b load) (lwayB m xs a b load) (.returned (.tuple #[.slice none 0 0, .bool false])) W := fun h => ⟨_, by rw [h.2], by rw [h.1]; exact Res.nil _ _, hpW⟩
  have NO := Lib.hid no
  clear no
  cases hB : netB m xs with
  | false =>
    have HV : Hid (lwayI m xs a b load = [] ∧ lwayB m xs a b load = false) := lway_net (by rw [lnetB, hB]; rfl)
    clear hB
    go_wp2
    exact bodyPost_ret (v := .tuple #[.slice none 0 0, .bool false]) (by simp [results, Try.results21, go_sem]) rfl (NO.out HV.out)
  | true =>
  obtain ⟨M, rfl, h1, h8⟩ := here_nat hB
  have HB := Lib.hid hB
  clear hB
  go_wp2_with fail
  refine (l1In_any _ _ _ _).mono ?_
  rintro e w2 ⟨rfl, rfl⟩
  cases hI : inB a 0 ((M : Int) - 1) with
  | false =>
    have HV : Hid (lwayI (M : Int) xs a b load = [] ∧ lwayB (M : Int) xs a b load = false) := lway_here (by rw [hereB2, hereB, hI]; simp)
    clear hI
    go_wp2
    exact bodyPost_ret (v := .tuple #[.slice none 0 0, .bool false]) (by simp [results, Try.results21, go_sem]) rfl (NO.out HV.out)
  | true =>
  have HI := Lib.hid hI
  clear hI
  go_wp2_with fail
  refine (l1In_any _ _ _ _).mono ?_
  rintro e w3 ⟨rfl, rfl⟩
  cases hJ : inB b 0 ((M : Int) - 1) with
  | false =>
    have HV : Hid (lwayI (M : Int) xs a b load = [] ∧ lwayB (M : Int) xs a b load = false) := lway_here (by rw [hereB2, hJ]; simp)
    clear hJ
    go_wp2
    exact bodyPost_ret (v := .tuple #[.slice none 0 0, .bool false]) (by simp [results, Try.results21, go_sem]) rfl (NO.out HV.out)
  | true =>
  have HJ := Lib.hid hJ
  clear hJ
  go_wp2_with fail
  refine (l1In_any _ _ _ _).mono ?_
  rintro e w4 ⟨rfl, rfl⟩
  cases hL : inB load 0 9 with
  | false =>
    have HV : Hid (lwayI (M : Int) xs a b load = [] ∧ lwayB (M : Int) xs a b load = false) := lway_net (by rw [lnetB, hL]; simp)
    clear hL
    go_wp2
    exact bodyPost_ret (v := .tuple #[.slice none 0 0, .bool false]) (by simp [results, Try.results21, go_sem]) rfl (NO.out HV.out)
  | true =>
  have hnb : lnetB (M : Int) xs load = true := by rw [lnetB, HB.out, hL]; rfl
  have hab : hereB2 (M : Int) xs a b = true := by rw [hereB2, hereB, HB.out, HI.out, HJ.out]; rfl
  have hy := lway_yes hnb hab
  have ha := (inB_iff _ _ _).1 HI.out
  have hbb := (inB_iff _ _ _).1 HJ.out
  have HY := Lib.hid hy
  have h16 : n ≤ 16 := by rw [← HX.out]; exact ((netB_iff _ _).1 HB.out).2.1
  clear hL hnb hab hy
  have hr0 := Res.empty_new W
  have hp0 : Past W (W.alloc (.cells #[] 3)) := (Past.refl W).alloc _
  go_wp2
  go_loopw [10, 11] (fun v i wr => ∃ k : Nat, k ≤ n ∧ i = .int .i64 k ∧ Res wr W.heap.size v (numsTo xs load k) ∧ Past W wr) (fun _ i _ => n - (intOf i).toNat)
  case atStart => exact ⟨0, by omega, rfl, by simpa [numsTo] using hr0, hp0⟩
  case round =>
    obtain ⟨k, hk, rfl, hv, hb⟩ := hrel
    have b0r := cell_in hb b0
    have b1r := cell_in hb b1
    by_cases hlt : k < n
    · obtain ⟨⟨f, t, c', l, d⟩, ha'⟩ : ∃ a, xs[k]? = some a := ⟨_, List.getElem?_eq_getElem (by have := HX.out; omega)⟩
      obtain ⟨g, o, rfl, c0, c1, c2, c3, c4⟩ := (hxW.below hb) k _ ha'
      simp only at c0 c1 c2 c3 c4
      have k0 : (0 : Int) ≤ (k : Int) := by omega
      have k1 : (k : Int) < (n : Int) := by omega
      by_cases hd : load ≤ d
      rotate_left
      · have HF := Lib.hid (numsTo_miss ha' hd)
        clear ha'
        go_wp2
        go_roundw
        case rel => exact ⟨k + 1, by omega, by go_num, by rw [HF.out]; exact hv, hb⟩
        case measure => simp [intOf]; omega
      have HF := Lib.hid (numsTo_hit ha' hd)
      have hlen := numsTo_len xs load k
      obtain ⟨N, hN⟩ : ∃ N, N = (numsTo xs load k).length := ⟨_, rfl⟩
      unfold Res at hv
      rw [← hN] at hv hlen
      have HN := Lib.hid hN
      have hsW := hb.size
      clear ha' hN
      go_wp2_with (first | (at_builtin; refine wpList_append_own_at _ rfl _ _ 28 rfl W.heap.size 3 i0 (.int .i64 0) 1 8 Try.underlying28 hi hz0 hz1 hz2 rfl (by decide) _ _ _ rfl (hv.alloc _) ⟨wr.heap.size, 0, none⟩ 1 1 [.int .i64 (k : Int)] rfl rfl (cell_one_new _ _ _) (one_cell _) (by unfold maxLen; omega) (by omega) (by simp; omega) ?_; intro v' w4 hown' hgrow4 hnil4 hat4))
      go_roundw
      case rel => exact ⟨k + 1, by omega, by go_num, by rw [HF.out]; exact Res.push (by rw [← HN.out]; exact hown'), Past.grown (hb.alloc _) (hv.alloc _) hgrow4 (Nat.le_refl _)⟩
      case measure => simp [intOf]; omega
    · obtain rfl : k = n := by omega
      have hst : Res wr W.heap.size u10 (strongL xs load) := by rw [strongL, HX.out]; exact hv
      obtain ⟨S, cs, rfl, hs, hoS⟩ := hst.form
      obtain ⟨K, hK⟩ : ∃ K, K = (strongL xs load).length := ⟨_, rfl⟩
      rw [← hK] at hoS ⊢
      have HK := Lib.hid hK
      clear hv hst hK
      go_wp2_with fail
      refine (l18For_any (M : Int) A k c xs load _ h16 HX.out (hxW.below hb)).mono ?_
      rintro e w5 ⟨A5, c5, rfl, hx5, _, hb5⟩
      obtain ⟨N5, hN5⟩ : ∃ N5, N5 = (forL xs load).length := ⟨_, rfl⟩
      have hn5 : N5 ≤ 16 := by rw [hN5]; exact Nat.le_trans (forL_len _ _) (by rw [HX.out]; exact h16)
      rw [← hN5]
      have HN5 := Lib.hid hN5.symm
      clear hN5
      go_wp2_with fail
      refine (l3Walk_any M a b A5 N5 c5 (forL xs load) _ h8 h1 HN5.out hn5 hx5 (forL_in (arcsIn_net HB.out) load) (by omega) (by omega)).mono ?_
      rintro e w6 ⟨v6, rfl, hv6, hb6⟩
      obtain ⟨X, cx, rfl, hs6, hoX⟩ := hv6.form
      obtain ⟨ps, hps⟩ : ∃ ps, ps = wayM M (forL xs load) a b := ⟨_, rfl⟩
      have hpb : ∀ y ∈ ps, 0 ≤ y ∧ y < (forL xs load).length := by rw [hps]; exact wayM_arcs (forL_in (arcsIn_net HB.out) load) (by omega) (by omega) h8
      rw [← hps] at hs6 hoX ⊢
      obtain ⟨R, hR⟩ : ∃ R, R = ps.length := ⟨_, rfl⟩
      have hR7 : R ≤ 7 := by rw [hR, hps]; exact wayM_len (forL_in (arcsIn_net HB.out) load) (by omega) (by omega) h8
      rw [← hR] at hoX ⊢
      have HR := Lib.hid hR.symm
      have HPB := Lib.hid hpb
      have HPS := Lib.hid hps
      have hs5 := (hs.below hb5).below hb6
      have hp6 : Past W w6 := (hb.trans hb5).trans hb6
      obtain ⟨bb, hbq⟩ : ∃ bb, bb = !(farB M (forL xs load) b a) := ⟨_, rfl⟩
      rw [← hbq]
      have HBB := Lib.hid hbq
      have hr6 := Res.empty_new w6
      have hpE : Past w6 (w6.alloc (.cells #[] 3)) := (Past.refl w6).alloc _
      clear hpb hR hps hbq hv6 hs hb5 hb6
      go_wp2
      go_loopw [14, 15] (fun v i wz => ∃ j : Nat, j ≤ R ∧ i = .int .i64 j ∧ Res wz w6.heap.size v ((ps.take j).map fun y => at_ (strongL xs load) y) ∧ Past w6 wz) (fun _ i _ => R - (intOf i).toNat)
      case atStart => exact ⟨0, by omega, rfl, by simpa using hr6, hpE⟩
      case round =>
        obtain ⟨j, hj, rfl, hv, hbz⟩ := hrel
        by_cases hlt2 : j < R
        · obtain ⟨y, hy⟩ : ∃ y, ps[j]? = some y := ⟨_, List.getElem?_eq_getElem (by have := HR.out; omega)⟩
          obtain ⟨g, o, rfl, cy⟩ := (hs6.below hbz) j y hy
          obtain ⟨y0, y1⟩ := HPB.out y (List.mem_of_getElem? hy)
          obtain ⟨hz, y2⟩ := strongL_get y0 y1
          obtain ⟨g', o', rfl, cz⟩ := (hs5.below hbz) y.toNat _ hz
          obtain ⟨z, hzz⟩ : ∃ z, z = at_ (strongL xs load) y := ⟨_, rfl⟩
          rw [← hzz] at cz
          have HF : Hid ((ps.take (j + 1)).map (fun y => at_ (strongL xs load) y) = (ps.take j).map (fun y => at_ (strongL xs load) y) ++ [z]) := by
            rw [Hid, List.take_add_one, hy, Option.toList_some, List.map_append, hzz]; rfl
          have hlen : ((ps.take j).map fun y => at_ (strongL xs load) y).length ≤ 7 := by rw [List.length_map, List.length_take]; omega
          have yK : y < (K : Int) := by rw [HK.out]; exact y2
          have j0 : (0 : Int) ≤ (j : Int) := by omega
          have j1 : (j : Int) < (R : Int) := by omega
          obtain ⟨N, hN⟩ : ∃ N, N = ((ps.take j).map fun y => at_ (strongL xs load) y).length := ⟨_, rfl⟩
          unfold Res at hv
          rw [← hN] at hv hlen
          have HN := Lib.hid hN
          have hsz := hbz.size
          clear hy hz hzz hN y1 y2
          go_wp2_with (first | (at_builtin; refine wpList_append_own_at _ rfl _ _ 28 rfl w6.heap.size 3 i0 (.int .i64 0) 1 8 Try.underlying28 hi hz0 hz1 hz2 rfl (by decide) _ _ _ rfl (hv.alloc _) ⟨wr.heap.size, 0, none⟩ 1 1 [.int .i64 z] rfl rfl (cell_one_new _ _ _) (one_cell _) (by unfold maxLen; omega) (by omega) (by simp; omega) ?_; intro v' w7 hown' hgrow7 hnil7 hat7))
          go_roundw
          case rel => exact ⟨j + 1, by omega, by go_num, by rw [HF.out]; exact Res.push (by rw [← HN.out]; exact hown'), Past.grown (hbz.alloc _) (hv.alloc _) hgrow7 (Nat.le_refl _)⟩
          case measure => simp [intOf]; omega
        · obtain rfl : j = R := by omega
          rw [List.take_of_length_le (by rw [HR.out]; exact Nat.le_refl _)] at hv
          have hlo := hpW.size
          have hl6 := hp6.size
          go_wp2
          exact bodyPost_ret (v := .tuple #[u14, .bool bb]) (by simp [results, Try.results21, go_sem]) rfl
            ⟨_, by rw [HY.out.2, ← HBB.out], by rw [HY.out.1, ← HPS.out]; exact hv.lower (by omega), (hpW.trans hp6).trans hbz⟩

end Go.Proofs.Ytaojognjkiifmab

namespace Go.Proofs.Ytaojognjkiifmab
open Go.RowKit

set_option maxRecDepth 100000 in
set_option maxHeartbeats 2000000 in
theorem implNearWalk_all (m : Int) (A : Option Addr) (n c : Nat) (xs : List ArcD) (a b : Int) (w : World) (hn : n ≤ 1048576) (hnx : xs.length = n) (hx : ArcsAt w A xs) (ho : (A = none ∧ n = 0) ∨ ∃ g o, A = some ⟨g, o, none⟩) :
    Calls Try.prog 22 #[.agg #[.int .i64 m, .slice A n c], .int .i64 a, .int .i64 b] w (GivesB w (nearWI m xs a b) (nearWB m xs a b)) := by
  have HX := Lib.hid hnx
  clear hnx
  obtain ⟨i0, hi, hz0, hz1, hz2⟩ := info_parts infoInt
  go_enter Try.func22, Try.ntmps22
  have hb0 : Past w ((w.alloc (.cells #[.int .i64 m, .slice A n c] 25)).alloc (.cells #[.int .i64 a, .int .i64 b] 3)) := ((Past.refl _).alloc _).alloc _
  have hz : IntsAt ((w.alloc (.cells #[.int .i64 m, .slice A n c] 25)).alloc (.cells #[.int .i64 a, .int .i64 b] 3)) (some ⟨w.heap.size + 1, 0, none⟩) [a, b] := fun k y hk => by
    match k, hk with
    | 0, hk => simp at hk; subst hk; exact ⟨_, _, rfl, by go_simp⟩
    | 1, hk => simp at hk; subst hk; exact ⟨_, _, rfl, by go_simp⟩
    | k + 2, hk => simp at hk
  go_wp2_with fail
  refine (netHas_any m A n c xs _ 2 2 [a, b] _ hn HX.out (hx.below hb0) (by omega) rfl hz).mono ?_
  rintro e w1 ⟨rfl, hb1⟩
  have b0 := cell_in (p := ⟨w.heap.size, 0, none⟩) (v := .int .i64 m) hb1 (by go_simp)
  have b1 := cell_in (p := ⟨w.heap.size, 1, none⟩) (v := .slice A n c) hb1 (by go_simp)
  have hx1 := (hx.below hb0).below hb1
  have hp1 := hb0.trans hb1
  have hH : (netB m xs && [a, b].all (fun z => inB z 0 (m - 1))) = hereB2 m xs a b := by simp [hereB2, hereB, Bool.and_assoc]
  rw [hH]
  clear hH hb0 hz hb1
  cases hB : hereB2 m xs a b with
  | false =>
    have HB := Lib.hid hB
    clear hB
    go_wp2
    refine bodyPost_ret (v := .tuple #[.slice none 0 0, .bool false]) (by simp [results, Try.results22, go_sem]) rfl ?_
    exact ⟨_, by rw [nearWB, HB.out]; rfl, by rw [nearWI, HB.out]; exact Res.nil _ _, hp1⟩
  | true =>
    obtain ⟨hN, ⟨ha0, ha1⟩, hbb0, hbb1⟩ := (hereB2_iff _ _ _ _).1 hB
    obtain ⟨M, rfl, h3, h8⟩ := here_nat hN
    have hbh : hereB (M : Int) xs b = true := (hereB_iff _ _ _).2 ⟨hN, hbb0, hbb1⟩
    have h16 : n ≤ 16 := by rw [← HX.out]; exact ((netB_iff _ _).1 hN).2.1
    have HBH := Lib.hid hbh
    have HB := Lib.hid hB
    have HN := Lib.hid hN
    have HT := Lib.hid (treeL_of (arcsIn_net hN) ⟨hbb0, hbb1⟩ (by omega))
    clear hB hN hbh
    go_wp2_with fail
    refine (implNearTree_all (M : Int) A n c xs b _ hn HX.out hx1 ho).mono ?_
    rintro e W ⟨v2, rfl, hv2, hb2⟩
    have b0 := cell_in hb2 b0
    have b1 := cell_in hb2 b1
    have hxW := hx1.below hb2
    have hpW := hp1.trans hb2
    obtain ⟨Z, cz, rfl, hz2', _⟩ := hv2.form
    have htr : treeTI (M : Int) xs b = treeM M xs b := by rw [treeTI, HBH.out, if_pos rfl, Int.toNat_natCast]
    rw [htr, treeM_length]
    rw [htr] at hz2'
    have hcell : ∀ v : Int, 0 ≤ v → v < M → ∃ g o, Z = some ⟨g, o, none⟩ ∧ W.cell? ⟨g, o + v.toNat, none⟩ = some (.int .i64 (treeI xs (labsOf M xs b) v)) := fun v h0 h1 => by
      obtain ⟨g, o, e, h⟩ := hz2' v.toNat _ (treeM_get M xs b (v := v.toNat) (by omega))
      refine ⟨g, o, e, ?_⟩
      rw [h, show ((v.toNat : Nat) : Int) = v by omega]
    obtain ⟨gZ, oZ, rfl, _⟩ := hcell b hbb0 hbb1
    have hcell2 : ∀ v : Int, 0 ≤ v → v < M → W.cell? ⟨gZ, oZ + v.toNat, none⟩ = some (.int .i64 (treeI xs (labsOf M xs b) v)) := fun v h0 h1 => by
      obtain ⟨g, o, e, h⟩ := hcell v h0 h1
      injection e with e
      injection e with e1 e2
      subst e1 e2
      exact h
    obtain ⟨L, hL⟩ : ∃ L, L = labsOf M xs b := ⟨_, rfl⟩
    have hfar : farB M xs b a = decide (lab L a = farL) := by rw [hL]; rfl
    have hway : wayM M xs a b = if farB M xs b a then [] else wayL xs L b a := by rw [hL]; rfl
    rw [← hL] at hcell2 HT
    have HC := Lib.hid hcell2
    have HWAY := Lib.hid hway
    have HFAR := Lib.hid hfar
    have hgW : gZ < W.heap.size := lt_of_cell (hcell2 b hbb0 hbb1)
    clear hcell hcell2 hz2' hv2 htr hL hway hfar hb2 hx1
    go_wp2
    go_loopw [9, 10] (fun v q wr => ∃ (at' : Int) (zs : List Int), q = .int .i64 at' ∧ 0 ≤ at' ∧ at' < M ∧ (lab L at' = farL ↔ lab L a = farL) ∧ Res wr W.heap.size v zs ∧ (lab L a ≠ farL → wayL xs L b a = zs ++ wayL xs L b at') ∧ zs.length + (lab L at').x1.toNat ≤ 7 ∧ Past W wr) (fun _ q _ => (lab L (intOf q)).x1.toNat)
    case atStart => exact ⟨a, [], rfl, ha0, ha1, Iff.rfl, Res.nil _ _, fun _ => rfl, by have := HT.out.bound a ha0 ha1; simp; omega, Past.refl _⟩
    case round =>
      obtain ⟨at', zs, rfl, t0, t1, hiff, hv, hzs, hzl, hbr⟩ := hrel
      by_cases hat : at' = b
      · subst hat
        have hne : (at' != at') = false := by simp
        have hfa : lab L a ≠ farL := fun e => by
          have := hiff.2 e
          rw [HT.out.lab_to] at this
          unfold farL farI at this
          simp at this
        have hB2 : farB M xs at' a = false := by rw [HFAR.out]; simpa using hfa
        have hzs := hzs hfa
        rw [HT.out.wayL_to, List.append_nil] at hzs
        have HZ := Lib.hid hzs
        have HB2 := Lib.hid hB2
        clear hzs hB2 hne
        go_wp2
        refine bodyPost_ret (v := .tuple #[u9, .bool true]) (by simp [results, Try.results22, go_sem]) rfl ?_
        refine ⟨_, by rw [nearWB, HB.out, Int.toNat_natCast, HB2.out]; rfl, ?_, hpW.trans hbr⟩
        rw [nearWI, HB.out, if_pos rfl, Int.toNat_natCast, HWAY.out, HB2.out, if_neg (by simp), HZ.out]
        exact hv.lower hpW.size
      · have hne : (at' != b) = true := by simpa using hat
        have cA := cell_in hbr (HC.out at' t0 t1)
        by_cases hf : lab L at' = farL
        · have hB2 : farB M xs b a = true := by rw [HFAR.out]; simpa using hiff.1 hf
          rw [HT.out.none at' (.inr hf)] at cA
          have HB2 := Lib.hid hB2
          clear hB2 hf hiff
          go_wp2
          refine bodyPost_ret (v := .tuple #[.slice none 0 0, .bool false]) (by simp [results, Try.results22, go_sem]) rfl ?_
          refine ⟨_, by rw [nearWB, HB.out, Int.toNat_natCast, HB2.out]; rfl, ?_, hpW.trans hbr⟩
          rw [nearWI, HB.out, if_pos rfl, Int.toNat_natCast, HWAY.out, HB2.out, if_pos rfl]
          exact Res.nil _ _
        · obtain ⟨j, ⟨f1, t1', c1, l1, d1⟩, e1, e2, e3, e4, e5, _, e7, e8⟩ := HT.out.some at' hat hf t0 t1
          have hstep := HT.out.wayL_step hat e1 e2 e5
          have hbt := arcsIn_net HN.out _ (List.mem_of_getElem? e2)
          simp only at e4 e5 hbt hstep
          rw [e1] at cA
          have hjn : j < n := by rw [← HX.out]; exact (List.getElem?_eq_some_iff.1 e2).1
          have hbT := HT.out.bound t1' (by omega) (by omega)
          have hjn0 : ¬ ((j : Int) < 0) := by omega
          have j0 : (0 : Int) ≤ (j : Int) := by omega
          have j1 : (j : Int) < (n : Int) := by omega
          obtain ⟨gx, ox, rfl, _, c1', _, _, _⟩ := (hxW.below hbr) j _ e2
          have hgx : gx < w.heap.size := by
            obtain ⟨g'', o'', e, hh⟩ := hx j _ e2
            injection e with e
            injection e with e1 e2
            subst e1
            exact hh.lt
          have b1' := cell_in hbr b1
          have hs1 := hpW.size
          have hs2 := hbr.size
          have hwW : w.heap.size < W.heap.size := lt_of_cell b1
          have hvA : (wr.alloc (.cells #[.int .i64 (j : Int)] 3)).ownsRow W.heap.size 3 1 u9 zs.length (ints zs) := World.ownsRow.alloc hv _
          have hpa5 : Past wr (wr.alloc (.cells #[.int .i64 (j : Int)] 3)) := (Past.refl wr).alloc _
          have hb1' : ∀ w3, (wr.alloc (.cells #[.int .i64 (j : Int)] 3)).grownBy w3 u9.ownBlock → w3.cell? ⟨w.heap.size, 1, none⟩ = some (.slice (some ⟨gx, ox, none⟩) n c) := fun w3 hg => hg.cell (cell_in hpa5 b1') (own_ne (g := w.heap.size) hvA (by omega))
          have hc1' : ∀ w3, (wr.alloc (.cells #[.int .i64 (j : Int)] 3)).grownBy w3 u9.ownBlock → w3.cell? ⟨gx, ox + j * 5 + 1, none⟩ = some (.int .i64 t1') := fun w3 hg => hg.cell (cell_in hpa5 c1') (own_ne (g := gx) hvA (by omega))
          have HB1 := Lib.hid hb1'
          have HC1 := Lib.hid hc1'
          have HSTEP := Lib.hid hstep
          have HZS := Lib.hid hzs
          have hfa : lab L a ≠ farL := fun e => hf (hiff.2 e)
          obtain ⟨D, hD⟩ : ∃ D, D = zs.length := ⟨_, rfl⟩
          rw [← hD] at hvA hzl
          have HDD := Lib.hid hD
          clear hb1' hc1' hstep hzs e1 e2 e3 e7 e8 hD c1' hiff
          go_wp2_with (first | (at_builtin; refine wpList_append_own _ rfl _ _ 28 rfl W.heap.size 3 i0 (.int .i64 0) 1 8 Try.underlying28 hi hz0 hz1 hz2 rfl (by decide) _ _ _ rfl hvA ⟨wr.heap.size, 0, none⟩ 1 1 [.int .i64 (j : Int)] rfl rfl (cell_one_new _ _ _) (one_cell _) (by unfold maxLen; omega) (by omega) (by simp; omega) ?_; intro v' w3 hown' hgrow3 hnil3; have b1 := HB1.out _ hgrow3; have c1 := HC1.out _ hgrow3))
          go_roundw
          case rel =>
            refine ⟨t1', zs ++ [(j : Int)], by go_num, by omega, by omega, ⟨fun e => absurd e e4, fun e => absurd e hfa⟩, Res.push (by rw [← HDD.out]; exact hown'), fun _ => ?_, ?_, Past.grown (hbr.alloc _) hvA hgrow3 (Nat.le_refl _)⟩
            · rw [HZS.out hfa, HSTEP.out, List.append_assoc]; rfl
            · rw [List.length_append, ← HDD.out]; simp; omega
          case measure => simp only [intOf]; omega
theorem implNearWalk_any (m : Int) (g n c : Nat) (xs : List ArcD) (a b : Int) (w : World) (hn : n ≤ 1048576) (hnx : xs.length = n) (hx : ArcsAt w (some ⟨g, 0, none⟩) xs) :
    Calls Try.prog 22 #[.agg #[.int .i64 m, .slice (some ⟨g, 0, none⟩) n c], .int .i64 a, .int .i64 b] w (GivesB w (nearWI m xs a b) (nearWB m xs a b)) :=
  implNearWalk_all m _ n c xs a b w hn hnx hx (.inr ⟨_, _, rfl⟩)

end Go.Proofs.Ytaojognjkiifmab

namespace Go.Proofs.Ytaojognjkiifmab
open Go.RowKit

/-- A number of a slice of the call's own is stored. -/
theorem Res.stored {w : World} {lo g n c : Nat} {zs : List Int} (h : Res w lo (.slice (some ⟨g, 0, none⟩) n c) zs) (hn : zs.length = n) (j : Nat) (x : Int) :
    Res (w.setCell ⟨g, j, none⟩ (.int .i64 x)) lo (.slice (some ⟨g, 0, none⟩) n c) (zs.set j x) ∧ w.grownBy (w.setCell ⟨g, j, none⟩ (.int .i64 x)) (some g) := by
  unfold Res at h
  rw [hn] at h
  obtain ⟨h1, h2⟩ := World.ownsRow.stored h j (.int .i64 x)
  refine ⟨?_, h2⟩
  unfold Res
  rw [List.length_set, hn]
  have : ints (zs.set j x) = (ints zs).set j (.int .i64 x) := by simp [ints, List.map_set]
  rw [this]
  exact h1
/-- The first j have been turned. -/
def turned (f : Int → Int) (ps : List Int) (j : Nat) : List Int := (ps.take j).map f ++ ps.drop j
theorem turned_length (f : Int → Int) (ps : List Int) (j : Nat) : (turned f ps j).length = ps.length := by
  simp [turned]; omega
theorem turned_zero (f : Int → Int) (ps : List Int) : turned f ps 0 = ps := by simp [turned]
theorem turned_all (f : Int → Int) (ps : List Int) : turned f ps ps.length = ps.map f := by simp [turned]
theorem turned_at {f : Int → Int} {ps : List Int} {j : Nat} {y : Int} (h : ps[j]? = some y) : (turned f ps j)[j]? = some y := by
  have hj := (List.getElem?_eq_some_iff.1 h).1
  unfold turned
  rw [List.getElem?_append_right (by simp; omega)]
  simp [Nat.min_eq_left (Nat.le_of_lt hj), h]
theorem turned_next {f : Int → Int} {ps : List Int} {j : Nat} {y : Int} (h : ps[j]? = some y) : (turned f ps j).set j (f y) = turned f ps (j + 1) := by
  have hj := (List.getElem?_eq_some_iff.1 h).1
  have hd : ps.drop j = y :: ps.drop (j + 1) := by
    have h2 := (List.getElem?_eq_some_iff.1 h).2
    rw [← h2, List.getElem_cons_drop]
  unfold turned
  rw [List.set_append_right _ _ (by simp; omega), hd, List.take_add_one, h]
  simp [Nat.min_eq_left (Nat.le_of_lt hj)]

set_option maxRecDepth 100000 in
set_option maxHeartbeats 4000000 in
theorem implLoadWalk_any (m : Int) (A : Option Addr) (n c : Nat) (xs : List ArcD) (a b load : Int) (w : World) (hn : n ≤ 1048576) (hnx : xs.length = n) (hx : ArcsAt w A xs) :
    Calls Try.prog 19 #[.agg #[.int .i64 m, .slice A n c], .int .i64 a, .int .i64 b, .int .i64 load] w (GivesB w (lwayI m xs a b load) (lwayB m xs a b load)) := by
  have HX := Lib.hid hnx
  clear hnx
  have hb0 : Past w (w.alloc (.cells #[.int .i64 m, .slice A n c] 25)) := (Past.refl _).alloc _
  go_enter Try.func19, Try.ntmps19
  go_wp2_with fail
  refine (implLoadNet_any m A n c xs load _ hn HX.out (hx.below hb0)).mono ?_
  rintro e W ⟨E, ce, rfl, hz2, hoz, hb1⟩
  have b0 := cell_in (p := ⟨w.heap.size, 0, none⟩) (v := .int .i64 m) hb1 (by go_simp)
  have b1 := cell_in (p := ⟨w.heap.size, 1, none⟩) (v := .slice A n c) hb1 (by go_simp)
  have hxW := (hx.below hb0).below hb1
  have hpW := hb0.trans hb1
  have hform : (E = none ∧ (lnetL m xs load).length = 0) ∨ ∃ g o, E = some ⟨g, o, none⟩ := by
    rcases hoz with h | ⟨g, sz, h, _⟩
    · exact .inl h
    · exact .inr ⟨g, 0, h⟩
  obtain ⟨zs, hzs⟩ : ∃ zs, zs = lnetL m xs load := ⟨_, rfl⟩
  obtain ⟨mz, hmz⟩ : ∃ mz, mz = lnetN m xs load := ⟨_, rfl⟩
  have hB0 : lwayB m xs a b load = nearWB mz zs a b := by rw [lwayB, hzs, hmz]
  have hI0 : lwayI m xs a b load = (nearWI mz zs a b).map fun y => at_ (strongL xs load) y := by rw [lwayI, hzs, hmz]
  have hR1 : zs.length ≤ 1048576 := by rw [hzs]; exact lnetL_lenM m xs load
  have hzm : lnetB m xs load = true → zs = forL xs load ∧ mz = m := fun h => by rw [hzs, hmz]; exact ⟨(lnet_yes h).2, (lnet_yes h).1⟩
  have hzno : lnetB m xs load = false → mz = 0 := fun h => by rw [hmz]; exact (lnet_no h).1
  rw [← hzs] at hz2 hform ⊢
  rw [← hmz]
  obtain ⟨K, hK⟩ : ∃ K, K = zs.length := ⟨_, rfl⟩
  rw [← hK] at hform hR1 ⊢
  have HK := Lib.hid hK.symm
  have HB0 := Lib.hid hB0
  have HI0 := Lib.hid hI0
  have HZM := Lib.hid hzm
  have HZN := Lib.hid hzno
  clear hb0 hb1 hzs hmz hK hB0 hI0 hoz hzm hzno
  go_wp2_with fail
  refine (implNearWalk_all mz E K ce zs a b _ hR1 HK.out hz2 hform).mono ?_
  rintro e w5 ⟨v5, rfl, hv5, hb5⟩
  have b0 := cell_in hb5 b0
  have b1 := cell_in hb5 b1
  have hx5 := hxW.below hb5
  have hp5 := hpW.trans hb5
  cases hO : nearWB mz zs a b with
  | false =>
    have HO := Lib.hid hO
    have hnil : nearWI mz zs a b = [] := by
      unfold nearWI
      split
      · rename_i h
        rw [nearWB, h, Bool.true_and, Bool.not_eq_false'] at hO
        rw [wayM, hO, if_pos rfl]
      · rfl
    have HNIL := Lib.hid hnil
    clear hO hnil
    go_wp2
    exact bodyPost_ret (v := .tuple #[.slice none 0 0, .bool false]) (by simp [results, Try.results19, go_sem]) rfl
      ⟨_, by rw [HB0.out, HO.out], by rw [HI0.out, HNIL.out]; exact Res.nil _ _, hp5⟩
  | true =>
    have HO := Lib.hid hO
    have hlb : lnetB m xs load = true := by
      cases h : lnetB m xs load with
      | true => rfl
      | false =>
        have h0 := HZN.out h
        rw [h0] at hO
        have hk : netB 0 zs = false := by unfold netB; simp [inB]
        simp [nearWB, hereB2, hereB, hk] at hO
    obtain ⟨hz1, hz2'⟩ := HZM.out hlb
    obtain ⟨hN, ha, hbb⟩ := (hereB2_iff _ _ _ _).1 (by have h := hO; simp only [nearWB, Bool.and_eq_true] at h; exact h.1)
    obtain ⟨M, hM, hM1, hM8⟩ := here_nat hN
    subst hM
    have hway : nearWI (M : Int) zs a b = wayM M zs a b := by rw [nearWI, if_pos ((hereB2_iff _ _ _ _).2 ⟨hN, ha, hbb⟩), Int.toNat_natCast]
    obtain ⟨ps, hps⟩ : ∃ ps, ps = nearWI (M : Int) zs a b := ⟨_, rfl⟩
    have hpb : ∀ y ∈ ps, 0 ≤ y ∧ y < (forL xs load).length := by rw [hps, hway, ← hz1]; exact wayM_arcs (arcsIn_net hN) ha hbb hM8
    rw [← hps] at hv5
    obtain ⟨X, cx, rfl, hs5, hoX⟩ := hv5.form
    obtain ⟨R, hR⟩ : ∃ R, R = ps.length := ⟨_, rfl⟩
    have hRb : R ≤ 1048576 := by rw [hR, hps]; exact nearWI_len _ _ _ _
    rw [← hR] at hv5 hoX ⊢
    have HR := Lib.hid hR.symm
    have HPB := Lib.hid hpb
    have HPS := Lib.hid hps
    clear hO hlb hz1 hz2' hN ha hbb hway hps hpb hR
    go_wp2_with fail
    refine (strongArcs_any m A n c xs load _ hn HX.out hx5).mono ?_
    rintro e w6 ⟨v6, rfl, hv6, hb6⟩
    obtain ⟨S, cs, rfl, hs6, hoS⟩ := hv6.form
    obtain ⟨T, hT⟩ : ∃ T, T = (strongL xs load).length := ⟨_, rfl⟩
    rw [← hT] at hoS ⊢
    have HT := Lib.hid hT
    have hv6' := hv5.below hb6
    have hp6 := hp5.trans hb6
    have hlW := hpW.size
    have hS5 : ∀ q, blk S = some q → w5.heap.size ≤ q := fun q e => by
      rcases hoS with ⟨rfl, _⟩ | ⟨g', sz, rfl, hl, _, _⟩
      · cases e
      · injection e with e; simp only at e; omega
    have hXf : (X = none ∧ R = 0) ∨ ∃ g, X = some ⟨g, 0, none⟩ ∧ W.heap.size ≤ g ∧ g < w5.heap.size := by
      rcases hoX with h | ⟨g', sz, rfl, hl, hr, _⟩
      · exact .inl h
      · exact .inr ⟨g', rfl, hl, hr.lt⟩
    have hpW6 : Past W w6 := hb5.trans (hb6.mono hb5.size)
    have HS5 := Lib.hid hS5
    have HXF := Lib.hid hXf
    clear hT hv6 hv5 hb6 hb5 hoS hoX hS5 hXf
    go_wp2
    go_loopw [13, 14, 31] (fun _ _ q wr => ∃ j : Nat, j ≤ R ∧ q = .int .i64 j ∧ Res wr W.heap.size (.slice X R cx) (turned (fun y => at_ (strongL xs load) y) ps j) ∧ IntsAt wr S (strongL xs load) ∧ Past W wr) (fun _ _ q _ => R - (intOf q).toNat)
    case atStart => exact ⟨0, Nat.zero_le _, rfl, by rw [turned_zero]; exact hv6', hs6, hpW6⟩
    case round =>
      clear hv6' hs6 hpW6
      obtain ⟨j, hj, rfl, hv, hs, hpr⟩ := hrel
      by_cases hlt : j < R
      · obtain ⟨y, hy⟩ : ∃ y, ps[j]? = some y := ⟨_, List.getElem?_eq_getElem (by have := HR.out; omega)⟩
        obtain ⟨gX, eX, hg1, hg2⟩ := HXF.out.resolve_left (fun h => by omega)
        subst eX
        obtain ⟨A9, c9, e9, hi9, ho9⟩ := hv.form
        injection e9 with e91 e92 e93
        subst e91
        obtain ⟨g1, o1, e1, cX⟩ := hi9 j y (turned_at hy)
        injection e1 with e1
        injection e1 with e11 e12
        subst e11 e12
        have zX : wr.frozen? ⟨gX, j, none⟩ = false := by
          rcases ho9 with ⟨h, _⟩ | ⟨g, sz, e, _, hr, _⟩
          · cases h
          · injection e with e
            injection e with e
            subst e
            exact hr.frozen j
        rw [Nat.zero_add] at cX
        obtain ⟨y0, y1⟩ := HPB.out y (List.mem_of_getElem? hy)
        obtain ⟨hz, y2⟩ := strongL_get y0 y1
        obtain ⟨gs, os, eS, cz⟩ := hs y.toNat _ hz
        have hN := hv.stored (by rw [turned_length, HR.out]) j (at_ (strongL xs load) y)
        rw [turned_next (f := fun y => at_ (strongL xs load) y) hy] at hN
        have hsn : IntsAt (wr.setCell ⟨gX, j, none⟩ (.int .i64 (at_ (strongL xs load) y))) S (strongL xs load) := hs.farS _ _ (fun e => by have h : w5.heap.size ≤ gX := HS5.out gX e; omega)
        obtain ⟨z, hzz⟩ : ∃ z, z = at_ (strongL xs load) y := ⟨_, rfl⟩
        rw [← hzz] at cz hN hsn
        have HNN := Lib.hid hN.1
        have HSN := Lib.hid hsn
        have yT : y < (T : Int) := by rw [HT.out]; exact y2
        have j0 : (0 : Int) ≤ (j : Int) := by omega
        have j1 : (j : Int) < (R : Int) := by omega
        subst eS
        clear hy hz hzz hN hsn y1 y2 hi9 ho9 hv hs
        go_wp2
        go_roundw
        case rel => exact ⟨j + 1, by omega, by go_num, HNN.out, HSN.out, Below.setCell hpr (by simpa using hg1) _⟩
        case measure => simp [intOf]; omega
      · obtain rfl : j = R := by omega
        have hall : turned (fun y => at_ (strongL xs load) y) ps j = (nearWI (M : Int) zs a b).map fun y => at_ (strongL xs load) y := by rw [← HR.out, turned_all, HPS.out]
        rw [hall] at hv
        have HV := Lib.hid hv
        clear hv hall
        go_wp2
        exact bodyPost_ret (v := .tuple #[.slice X j cx, .bool true]) (by simp [results, Try.results19, go_sem]) rfl
          ⟨_, by rw [HB0.out, HO.out], by rw [HI0.out]; exact HV.out.lower (by omega), hpW.trans hpr⟩

end Go.Proofs.Ytaojognjkiifmab

namespace Go.Proofs.Ytaojognjkiifmab

/-- Numbers are nodes of a net that is ok, and not too many. -/
def listB (m : Int) (xs : List ArcD) (ys : List Int) : Bool := netB m xs && (decide (ys.length ≤ 8) && ys.all (fun z => inB z 0 (m - 1)))

theorem listB_iff (m : Int) (xs : List ArcD) (ys : List Int) : listB m xs ys = true ↔ netB m xs = true ∧ ys.length ≤ 8 ∧ ∀ y ∈ ys, 0 ≤ y ∧ y < m := by
  simp only [listB, Bool.and_eq_true, decide_eq_true_eq, List.all_eq_true, inB_iff]
  constructor
  · rintro ⟨h1, h2, h3⟩
    exact ⟨h1, h2, fun y hy => by have := h3 y hy; omega⟩
  · rintro ⟨h1, h2, h3⟩
    exact ⟨h1, h2, fun y hy => by have := h3 y hy; omega⟩

/-- Which of the first k numbers is least, and how much that is: -1 and Far, if none is less than Far. -/
def least (cs : List Int) : Nat → Int × Int
  | 0 => (-1, 99999)
  | k + 1 => if at_ cs (k : Int) < (least cs k).2 then ((k : Int), at_ cs (k : Int)) else least cs k

theorem least_bd (cs : List Int) : ∀ k : Nat, -1 ≤ (least cs k).1 ∧ (least cs k).1 < k ∧ (least cs k).2 ≤ 99999
  | 0 => by simp [least]
  | k + 1 => by
    have ih := least_bd cs k
    unfold least
    split
    · simp only; omega
    · omega

theorem least_le (cs : List Int) : ∀ k i : Nat, i < k → (least cs k).2 ≤ at_ cs (i : Int)
  | 0, i, h => by omega
  | k + 1, i, h => by
    have ih := least_le cs k
    unfold least
    by_cases e : i = k
    · subst e
      split
      · exact Int.le_refl _
      · omega
    · have := ih i (by omega)
      split
      · simp only; omega
      · exact this

theorem least_first (cs : List Int) : ∀ k i : Nat, i < k → (i : Int) < (least cs k).1 → (least cs k).2 < at_ cs (i : Int)
  | 0, i, h => by omega
  | k + 1, i, h => by
    have ih := least_first cs k
    have hle := least_le cs k
    have hbd := least_bd cs k
    unfold least
    split
    · intro h2
      simp only at h2 ⊢
      have := hle i (by omega)
      omega
    · intro h2
      exact ih i (by omega) h2

theorem least_at (cs : List Int) : ∀ k : Nat, ((least cs k).1 = -1 ∧ (least cs k).2 = 99999) ∨ ∃ j : Nat, j < k ∧ (least cs k).1 = j ∧ at_ cs (j : Int) = (least cs k).2
  | 0 => by simp [least]
  | k + 1 => by
    have ih := least_at cs k
    unfold least
    split
    · exact .inr ⟨k, by omega, rfl, rfl⟩
    · rcases ih with h | ⟨j, h1, h2⟩
      · exact .inl h
      · exact .inr ⟨j, by omega, h2⟩

theorem least_next_lt {cs : List Int} {k : Nat} {z : Int} (hz : at_ cs (k : Int) = z) (h : z < (least cs k).2) : least cs (k + 1) = ((k : Int), z) := by
  subst hz
  simp only [least, if_pos h]
theorem least_next_ge {cs : List Int} {k : Nat} {z : Int} (hz : at_ cs (k : Int) = z) (h : ¬ z < (least cs k).2) : least cs (k + 1) = least cs k := by
  subst hz
  simp only [least, if_neg h]

/-- What it costs from a node to each of a list. -/
def costsL (m : Int) (xs : List ArcD) (s : Int) (ys : List Int) : List Int := ys.map (at_ (nearL m.toNat xs s))

theorem at_map {f : Int → Int} {ys : List Int} {k : Nat} {y : Int} (h : ys[k]? = some y) : at_ (ys.map f) (k : Int) = f y := by
  simp [at_, h]

/-- Which of a list of nodes is nearest, and what that costs. -/
def manyW (m : Int) (xs : List ArcD) (s : Int) (ys : List Int) : Int := if listB m xs ys && inB s 0 (m - 1) then (least (costsL m xs s ys) ys.length).1 else -1
def manyC (m : Int) (xs : List ArcD) (s : Int) (ys : List Int) : Int := if listB m xs ys && inB s 0 (m - 1) then (least (costsL m xs s ys) ys.length).2 else -1

end Go.Proofs.Ytaojognjkiifmab

namespace Go.Proofs.Ytaojognjkiifmab
open Go.RowKit

/-- What can be reached costs little. -/
theorem nearL_small {m : Nat} {xs : List ArcD} {s v : Int} (hm : m ≤ 17) (hx : ArcsIn m xs) (hs : 0 ≤ s ∧ s < m) (hv : 0 ≤ v ∧ v < m) (h : at_ (nearL m xs s) v ≠ 99999) : at_ (nearL m xs s) v ≤ 11200 := by
  obtain ⟨_, h2⟩ := (nearL_sound hx hs).2 v hv.1 hv.2
  rcases h2 with h2 | ⟨l, h2⟩
  · exact absurd h2 h
  · obtain ⟨c2, l2, h1, _, _, h4⟩ := h2.simple hx
    have hf := h1.few hx hs h4
    have hc := h1.cost hx
    have := nearL_le hm hx hs h1
    omega

theorem near_tri {m : Nat} {xs : List ArcD} {s u v : Int} (hm : m ≤ 17) (hx : ArcsIn m xs) (hs : 0 ≤ s ∧ s < m) (hu : 0 ≤ u ∧ u < m) (hv : 0 ≤ v ∧ v < m) : at_ (nearL m xs s) v ≤ at_ (nearL m xs s) u + at_ (nearL m xs u) v := by
  have b1 := nearL_bound hx hs hu
  have b2 := nearL_bound hx hu hv
  have b3 := nearL_bound hx hs hv
  by_cases h1 : at_ (nearL m xs s) u < farI
  · by_cases h2 : at_ (nearL m xs u) v < farI
    · exact near_over hm hx hs hu hv h1 h2
    · omega
  · omega

/-- How much more one distance is than another one. -/
def surI (a b : Int) : Int := if b = 99999 then 0 else if 49999 < a - b then 99999 else a - b
/-- What is known of one mark: d from it, b to it. -/
def lessM (d b : List Int) (f t : Int) : Int :=
  let p := if at_ d f < 99999 ∧ 0 < at_ d t - at_ d f then at_ d t - at_ d f else 0
  let q := if at_ b t < 99999 ∧ p < at_ b f - at_ b t then at_ b f - at_ b t else p
  if 49999 < q then 99999 else q
theorem sur_less {d b : List Int} {f t z : Int} (h1 : 0 ≤ at_ d f ∧ at_ d f ≤ 99999) (h2 : 0 ≤ at_ d t ∧ at_ d t ≤ 99999) (h3 : 0 ≤ at_ b f ∧ at_ b f ≤ 99999) (h4 : 0 ≤ at_ b t ∧ at_ b t ≤ 99999) (hz : 0 ≤ z) :
    max (max z (surI (at_ d t) (at_ d f))) (surI (at_ b f) (at_ b t)) = max z (lessM d b f t) := by
  unfold surI lessM
  simp only
  split <;> split <;> (repeat' split) <;> omega
theorem lessM_bound {d b : List Int} {f t : Int} (_h1 : 0 ≤ at_ d f ∧ at_ d f ≤ 99999) (_h2 : 0 ≤ at_ d t ∧ at_ d t ≤ 99999) (_h3 : 0 ≤ at_ b f ∧ at_ b f ≤ 99999) (_h4 : 0 ≤ at_ b t ∧ at_ b t ≤ 99999) :
    0 ≤ lessM d b f t ∧ lessM d b f t ≤ 99999 := by
  unfold lessM
  simp only
  repeat' split
  all_goals omega

/-- What is known of the first k marks. -/
def boundTo (M : Nat) (xs : List ArcD) (ks : List Int) (f t : Int) : Nat → Int
  | 0 => 0
  | k + 1 => max (boundTo M xs ks f t k) (lessM (nearL M xs (at_ ks (k : Int))) (nearL M (xs.map flip) (at_ ks (k : Int))) f t)
def boundI (m : Int) (xs : List ArcD) (ks : List Int) (f t : Int) : Int := if listB m xs ks && (inB f 0 (m - 1) && inB t 0 (m - 1)) then boundTo m.toNat xs ks f t ks.length else -1

theorem at_mem {ks : List Int} {k : Nat} (h : k < ks.length) : at_ ks (k : Int) ∈ ks := by
  have : at_ ks (k : Int) = ks[k] := by simp [at_, h]
  rw [this]
  exact List.getElem_mem h

section
variable {M : Nat} {xs : List ArcD} {ks : List Int} {f t : Int}
theorem four (hx : ArcsIn M xs) (hf : 0 ≤ f ∧ f < M) (ht : 0 ≤ t ∧ t < M) {s : Int} (hs : 0 ≤ s ∧ s < M) :
    (0 ≤ at_ (nearL M xs s) f ∧ at_ (nearL M xs s) f ≤ 99999) ∧ (0 ≤ at_ (nearL M xs s) t ∧ at_ (nearL M xs s) t ≤ 99999) ∧ (0 ≤ at_ (nearL M (xs.map flip) s) f ∧ at_ (nearL M (xs.map flip) s) f ≤ 99999) ∧ (0 ≤ at_ (nearL M (xs.map flip) s) t ∧ at_ (nearL M (xs.map flip) s) t ≤ 99999) :=
  ⟨nearL_bound hx hs hf, nearL_bound hx hs ht, nearL_bound (arcsIn_back hx) hs hf, nearL_bound (arcsIn_back hx) hs ht⟩
theorem boundTo_bound (hx : ArcsIn M xs) (hk : ∀ y ∈ ks, 0 ≤ y ∧ y < M) (hf : 0 ≤ f ∧ f < M) (ht : 0 ≤ t ∧ t < M) : ∀ k, k ≤ ks.length → 0 ≤ boundTo M xs ks f t k ∧ boundTo M xs ks f t k ≤ 99999
  | 0, _ => by unfold boundTo; omega
  | k + 1, h => by
    have ih := boundTo_bound hx hk hf ht k (by omega)
    obtain ⟨h1, h2, h3, h4⟩ := four hx hf ht (hk _ (at_mem (ks := ks) (k := k) (by omega)))
    have := lessM_bound h1 h2 h3 h4
    unfold boundTo
    omega
/-- One mark says no more than what it costs. -/
theorem lessM_le (hM : M ≤ 17) (hx : ArcsIn M xs) (hf : 0 ≤ f ∧ f < M) (ht : 0 ≤ t ∧ t < M) {s : Int} (hs : 0 ≤ s ∧ s < M) :
    lessM (nearL M xs s) (nearL M (xs.map flip) s) f t ≤ at_ (nearL M xs f) t := by
  obtain ⟨h1, h2, h3, h4⟩ := four hx hf ht hs
  have c1 := near_tri hM hx hs hf ht
  have c2 := near_tri hM hx hf ht hs
  have e1 := near_back hM hx hf hs
  have e2 := near_back hM hx ht hs
  have b0 := nearL_bound hx hf ht
  have s1 := fun h => nearL_small hM hx hs hf h
  have s2 := fun h => nearL_small hM (arcsIn_back hx) hs ht h
  have s3 := fun h => nearL_small hM hx hf ht h
  unfold lessM
  simp only
  unfold farI at *
  rw [e1, e2] at c2
  repeat' split
  all_goals omega
theorem boundTo_le (hM : M ≤ 17) (hx : ArcsIn M xs) (hk : ∀ y ∈ ks, 0 ≤ y ∧ y < M) (hf : 0 ≤ f ∧ f < M) (ht : 0 ≤ t ∧ t < M) : ∀ k, k ≤ ks.length → boundTo M xs ks f t k ≤ at_ (nearL M xs f) t
  | 0, _ => by
    have := nearL_bound hx hf ht
    unfold boundTo
    omega
  | k + 1, h => by
    have ih := boundTo_le hM hx hk hf ht k (by omega)
    have := lessM_le hM hx hf ht (hk _ (at_mem (ks := ks) (k := k) (by omega)))
    unfold boundTo
    omega
/-- The first node as a mark says what it costs. -/
theorem lessM_self (hM : M ≤ 17) (hx : ArcsIn M xs) (hf : 0 ≤ f ∧ f < M) (ht : 0 ≤ t ∧ t < M) :
    lessM (nearL M xs f) (nearL M (xs.map flip) f) f t = at_ (nearL M xs f) t := by
  have hle := lessM_le hM hx hf ht hf
  obtain ⟨h1, h2, h3, h4⟩ := four hx hf ht hf
  have e0 := nearL_start hM hx hf
  have e1 := nearL_start hM (arcsIn_back hx) hf
  have s3 := fun h => nearL_small hM hx hf ht h
  unfold lessM at hle ⊢
  simp only at hle ⊢
  rw [e0, e1] at hle ⊢
  repeat' split at hle
  all_goals (repeat' split) <;> omega
theorem boundTo_app (js : List Int) : ∀ k, k ≤ ks.length → boundTo M xs (ks ++ js) f t k = boundTo M xs ks f t k
  | 0, _ => rfl
  | k + 1, h => by
    have ih := boundTo_app js k (by omega)
    have e : at_ (ks ++ js) (k : Int) = at_ ks (k : Int) := by simp [at_, List.getD_eq_getElem?_getD, List.getElem?_append_left (show k < ks.length by omega)]
    rw [boundTo, boundTo, ih, e]
theorem boundTo_with (hM : M ≤ 17) (hx : ArcsIn M xs) (hk : ∀ y ∈ ks, 0 ≤ y ∧ y < M) (hf : 0 ≤ f ∧ f < M) (ht : 0 ≤ t ∧ t < M) : boundTo M xs (ks ++ [f]) f t (ks.length + 1) = at_ (nearL M xs f) t := by
  have hle := boundTo_le hM hx hk hf ht ks.length (Nat.le_refl _)
  have e : at_ (ks ++ [f]) ((ks.length : Nat) : Int) = f := by simp [at_]
  rw [boundTo, boundTo_app _ _ (Nat.le_refl _), e, lessM_self hM hx hf ht]
  omega
/-- Over an arc. -/
theorem lessM_arc (hM : M ≤ 17) (hx : ArcsIn M xs) (ht : 0 ≤ t ∧ t < M) {s : Int} (hs : 0 ≤ s ∧ s < M) {a : ArcD} (ha : a ∈ xs) (hfar : lessM (nearL M xs s) (nearL M (xs.map flip) s) a.t t < 99999) :
    lessM (nearL M xs s) (nearL M (xs.map flip) s) a.f t ≤ a.c + lessM (nearL M xs s) (nearL M (xs.map flip) s) a.t t := by
  have hb := hx a ha
  have hf : 0 ≤ a.f ∧ a.f < M := ⟨hb.1, hb.2.1⟩
  have hg : 0 ≤ a.t ∧ a.t < M := ⟨hb.2.2.1, hb.2.2.2.1⟩
  obtain ⟨h1, h2, h3, h4⟩ := four hx hf ht hs
  obtain ⟨g1, _, g3, _⟩ := four hx hg ht hs
  have c1 : at_ (nearL M xs s) a.f < 99999 → at_ (nearL M xs s) a.t ≤ at_ (nearL M xs s) a.f + a.c := fun h => nearL_arc hM hx hs ha h
  have c2 : at_ (nearL M (xs.map flip) s) a.t < 99999 → at_ (nearL M (xs.map flip) s) a.f ≤ at_ (nearL M (xs.map flip) s) a.t + a.c := fun h => nearL_arc hM (arcsIn_back hx) hs (a := flip a) (List.mem_map_of_mem ha) h
  have s1 := fun h => nearL_small hM hx hs hf h
  have s2 := fun h => nearL_small hM hx hs hg h
  have s3 := fun h => nearL_small hM hx hs ht h
  have r1 := fun h => nearL_small hM (arcsIn_back hx) hs hf h
  have r2 := fun h => nearL_small hM (arcsIn_back hx) hs hg h
  have r3 := fun h => nearL_small hM (arcsIn_back hx) hs ht h
  unfold lessM at hfar ⊢
  simp only at hfar ⊢
  repeat' split at hfar
  all_goals (repeat' split) <;> omega
theorem boundTo_arc (hM : M ≤ 17) (hx : ArcsIn M xs) (hk : ∀ y ∈ ks, 0 ≤ y ∧ y < M) (ht : 0 ≤ t ∧ t < M) {a : ArcD} (ha : a ∈ xs) : ∀ k, k ≤ ks.length → boundTo M xs ks a.t t k < 99999 → boundTo M xs ks a.f t k ≤ a.c + boundTo M xs ks a.t t k
  | 0, _, _ => by
    have := hx a ha
    unfold boundTo
    omega
  | k + 1, h, hb => by
    have hs := hk _ (at_mem (ks := ks) (k := k) (by omega))
    unfold boundTo at hb ⊢
    have ih := boundTo_arc hM hx hk ht ha k (by omega) (by omega)
    have := lessM_arc hM hx ht hs ha (by omega)
    omega
theorem boundTo_self (hx : ArcsIn M xs) : ∀ k, boundTo M xs ks t t k = 0
  | 0 => rfl
  | k + 1 => by
    rw [boundTo, boundTo_self hx k]
    unfold lessM
    simp only [Int.sub_self]
    simp
end

end Go.Proofs.Ytaojognjkiifmab

namespace Go.Proofs.Ytaojognjkiifmab

theorem pick_get {xs : List ArcD} : ∀ (ys : List Int), (∀ y ∈ ys, ∃ a, xs[y.toNat]? = some a) → ∀ (k : Nat) (y : Int), ys[k]? = some y → (pickA xs ys)[k]? = xs[y.toNat]?
  | [], _, k, y, h => by simp at h
  | z :: ys, hh, k, y, h => by
    obtain ⟨a, ha⟩ := hh z (by simp)
    have e : pickA xs (z :: ys) = a :: pickA xs ys := by simp [pickA, ha]
    rw [e]
    cases k with
    | zero =>
      simp only [List.getElem?_cons_zero, Option.some.injEq] at h ⊢
      subst h
      exact ha.symm
    | succ k =>
      simp only [List.getElem?_cons_succ] at h ⊢
      exact pick_get ys (fun y hy => hh y (List.mem_cons_of_mem _ hy)) k y h

section
variable {m : Int} {xs : List ArcD} {load : Int}
theorem strong_arc {y : Int} (h0 : 0 ≤ y) (h1 : y < (forL xs load).length) : arcOf xs (at_ (strongL xs load) y) = arcOf (forL xs load) y ∧ 0 ≤ at_ (strongL xs load) y ∧ at_ (strongL xs load) y < xs.length ∧ ∃ a, xs[(at_ (strongL xs load) y).toNat]? = some a ∧ load ≤ a.d := by
  obtain ⟨hz, h2⟩ := strongL_get h0 h1
  obtain ⟨z, hzz⟩ : ∃ z, z = at_ (strongL xs load) y := ⟨_, rfl⟩
  rw [← hzz] at hz ⊢
  have hb := numsTo_bd (xs := xs) (load := load) xs.length (Nat.le_refl _)
  obtain ⟨g0, g1, a, ga, gd⟩ := hb z (by have := List.mem_of_getElem? hz; rwa [strongL] at this)
  have hp := pick_get (xs := xs) (strongL xs load) (fun u hu => by obtain ⟨_, _, a, ha, _⟩ := hb u (by rwa [strongL] at hu); exact ⟨a, ha⟩) y.toNat z hz
  rw [strong_pick] at hp
  refine ⟨?_, g0, by omega, a, ga, gd⟩
  unfold arcOf
  rw [List.getD_eq_getElem?_getD, List.getD_eq_getElem?_getD, hp]
variable {ps : List Int}
theorem numOf_map {f : Int → Int} {k : Nat} (hk : k < ps.length) : numOf (ps.map f) k = f (numOf ps k) := by
  simp [numOf, List.getD_eq_getElem?_getD, hk]
theorem strong_ok (h : okB m (forL xs load) ps = true) (hN : netB m xs = true) : okB m xs (ps.map fun y => at_ (strongL xs load) y) = true := by
  obtain ⟨_, hw⟩ := (okB_iff _ _ _).1 h
  obtain ⟨hl, hs⟩ := (walkB_iff _ _).1 hw
  refine (okB_iff _ _ _).2 ⟨hN, (walkB_iff _ _).2 ⟨by rw [List.length_map]; exact hl, fun k hk => ?_⟩⟩
  rw [List.length_map] at hk
  have h1 := hs k hk
  have hb : ∀ j, j < ps.length → 0 ≤ numOf ps j ∧ numOf ps j < (forL xs load).length := fun j hj => by
    have := hs j hj
    simp only [stepB, Bool.and_eq_true, inB_iff] at this
    omega
  have h2 := strong_arc (xs := xs) (load := load) (hb k hk).1 (hb k hk).2
  simp only [stepB, Bool.and_eq_true, inB_iff, Bool.or_eq_true, beq_iff_eq] at h1 ⊢
  rw [numOf_map hk, h2.1]
  refine ⟨by omega, ?_⟩
  rcases h1.2 with h3 | h3
  · exact .inl h3
  · by_cases hk0 : k = 0
    · exact .inl (by omega)
    · right
      rw [numOf_map (by omega), (strong_arc (xs := xs) (load := load) (hb (k - 1) (by omega)).1 (hb (k - 1) (by omega)).2).1]
      exact h3
theorem strong_cost (h : okB m (forL xs load) ps = true) (hN : netB m xs = true) : costI m xs (ps.map fun y => at_ (strongL xs load) y) = costI m (forL xs load) ps := by
  have h2 := strong_ok h hN
  obtain ⟨_, hw⟩ := (okB_iff _ _ _).1 h
  obtain ⟨_, hs⟩ := (walkB_iff _ _).1 hw
  unfold costI
  rw [if_pos h, if_pos h2, sumTo_all, sumTo_all]
  unfold costL
  rw [List.map_map]
  congr 1
  refine List.map_congr_left fun y hy => ?_
  obtain ⟨k, hk⟩ := List.getElem?_of_mem hy
  have hkl := (List.getElem?_eq_some_iff.1 hk).1
  have e : numOf ps k = y := by simp [numOf, List.getD_eq_getElem?_getD, hk]
  have := hs k hkl
  simp only [stepB, Bool.and_eq_true, inB_iff] at this
  rw [e] at this
  simp only [Function.comp]
  rw [(strong_arc (xs := xs) (load := load) (by omega) (by omega)).1]

/-- All that the law asks of the best way over which so much may go. -/
theorem lway_gone {a b : Int} (h : lwayB m xs a b load = true) : ∃ M : Nat, m = M ∧ 1 ≤ M ∧ M ≤ 8 ∧ netB (M : Int) xs = true ∧ lnetB (M : Int) xs load = true ∧ (0 ≤ a ∧ a < M) ∧ (0 ≤ b ∧ b < M) ∧ okB m xs (lwayI m xs a b load) = true ∧ costI m xs (lwayI m xs a b load) = at_ (nearL M (forL xs load) a) b ∧
    (lwayI m xs a b load = [] → a = b) ∧ (lwayI m xs a b load ≠ [] → (arcOf xs (numOf (lwayI m xs a b load) 0)).f = a ∧ (arcOf xs (numOf (lwayI m xs a b load) ((lwayI m xs a b load).length - 1))).t = b) ∧ (lwayI m xs a b load).length ≤ 20 ∧
    (∀ y ∈ lwayI m xs a b load, ∃ e, xs[y.toNat]? = some e ∧ 0 ≤ y ∧ load ≤ e.d) ∧ nearWB m xs a b = true ∧ at_ (nearL M xs a) b ≤ at_ (nearL M (forL xs load) a) b := by
  cases hL : lnetB m xs load with
  | false => rw [(lway_net hL).2] at h; cases h
  | true =>
  obtain ⟨e1, e2⟩ := lnet_yes hL
  have hb0 : nearWB m (forL xs load) a b = true := by
    have h' := h
    rw [lwayB, e1, e2] at h'
    exact h'
  have hL' := hL
  simp only [lnetB, Bool.and_eq_true] at hL'
  have hN := hL'.1
  obtain ⟨M, rfl, hM1, hM8⟩ := here_nat hN
  obtain ⟨g1, g2, _, g4, g5, g6, g7, g8, g9, _⟩ := near_gone hb0
  have hh := hb0
  simp only [nearWB, Bool.and_eq_true] at hh
  obtain ⟨hNf, ha, hbb⟩ := (hereB2_iff _ _ _ _).1 hh.1
  have hI : lwayI (M : Int) xs a b load = (nearWI (M : Int) (forL xs load) a b).map fun y => at_ (strongL xs load) y := by rw [lwayI, e1, e2]
  obtain ⟨ps, hps⟩ : ∃ ps, ps = nearWI (M : Int) (forL xs load) a b := ⟨_, rfl⟩
  rw [← hps] at g1 g2 g4 g5 g6 hI
  have hnf : nearI (M : Int) (forL xs load) a = nearL M (forL xs load) a := by rw [nearI, if_pos ((hereB_iff _ _ _).2 ⟨hNf, ha⟩), Int.toNat_natCast]
  rw [hnf] at g2
  obtain ⟨hl, hs⟩ := (walkB_iff _ _).1 ((okB_iff _ _ _).1 g1).2
  have hbd : ∀ j, j < ps.length → 0 ≤ numOf ps j ∧ numOf ps j < (forL xs load).length := fun j hj => by
    have := hs j hj
    simp only [stepB, Bool.and_eq_true, inB_iff] at this
    omega
  -- whether it can be reached at all
  have hfar : at_ (nearL M (forL xs load) a) b < 99999 := by
    have hx := arcsIn_net hNf
    have hT := treeL_of hx hbb (by omega)
    have hf : lab (labsOf M (forL xs load) b) a ≠ farL := by have := hh.2; rw [Int.toNat_natCast] at this; simpa [farB] using this
    rw [near_back (by omega) hx ha hbb, hT.near_at a ha.1 ha.2]
    have := (hT.bound a ha.1 ha.2).2.2.2.2.resolve_left hf
    omega
  have hxw := arcsIn_net hN
  obtain ⟨l, w⟩ := ((nearL_sound (arcsIn_net hNf) ha).2 b hbb.1 (by omega)).2.resolve_left (by unfold farI; omega)
  have hle := nearL_le (by omega) hxw ha w.whole
  rw [hI]
  refine ⟨M, rfl, hM1, hM8, hN, hL, ha, hbb, strong_ok g1 hN, by rw [strong_cost g1 hN, g2], fun e => g4 (by simpa using e), fun e => ?_, by rw [List.length_map]; exact g6, fun y hy => ?_, ?_, hle⟩
  · have e' : ps ≠ [] := fun h0 => e (by rw [h0]; rfl)
    have hp : 0 < ps.length := List.length_pos_iff.2 e'
    obtain ⟨q1, q2⟩ := g5 e'
    rw [List.length_map, numOf_map hp, numOf_map (by omega)]
    rw [(strong_arc (xs := xs) (load := load) (hbd 0 hp).1 (hbd 0 hp).2).1, (strong_arc (xs := xs) (load := load) (hbd _ (by omega)).1 (hbd _ (by omega)).2).1]
    exact ⟨q1, q2⟩
  · obtain ⟨y', hy', rfl⟩ := List.mem_map.1 hy
    obtain ⟨k, hk⟩ := List.getElem?_of_mem hy'
    have hkl := (List.getElem?_eq_some_iff.1 hk).1
    have e : numOf ps k = y' := by simp [numOf, List.getD_eq_getElem?_getD, hk]
    have hq := hbd k hkl
    rw [e] at hq
    obtain ⟨_, q0, _, a', qa, qd⟩ := strong_arc (xs := xs) (load := load) hq.1 hq.2
    exact ⟨a', qa, q0, qd⟩
  · have hT := treeL_of hxw hbb (by omega)
    rw [nearWB, Bool.and_eq_true]
    refine ⟨(hereB2_iff _ _ _ _).2 ⟨hN, ha, hbb⟩, ?_⟩
    rw [Int.toNat_natCast]
    have : lab (labsOf M xs b) a ≠ farL := fun hf => by
      have h3 := hT.near_at a ha.1 ha.2
      rw [← near_back (by omega) hxw ha hbb, hf] at h3
      simp [farL, farI] at h3
      omega
    simpa [farB] using this
end

end Go.Proofs.Ytaojognjkiifmab

namespace Go.Proofs.Ytaojognjkiifmab
open Go.RowKit

set_option maxRecDepth 100000 in
set_option maxHeartbeats 4000000 in
theorem wkEnds_true (m : Int) (A B : Option Addr) (n c l cb : Nat) (xs : List ArcD) (ys : List Int) (fr tt : Int) (w : World) (hn : n ≤ 1048576) (hl : l ≤ 1048576) (hnx : xs.length = n) (hny : ys.length = l) (hx : ArcsAt w A xs) (hy : IntsAt w B ys)
    (ho : okB m xs ys = true) (h0 : ys = [] → fr = tt) (h1 : ys ≠ [] → (arcOf xs (numOf ys 0)).f = fr ∧ (arcOf xs (numOf ys (ys.length - 1))).t = tt) :
    Calls Try.prog 23 #[.agg #[.int .i64 m, .slice A n c], .slice B l cb, .int .i64 fr, .int .i64 tt] w fun e w' => e = .returned (.bool true) ∧ Below w.heap.size w w' := by
  have hb0 : Past w (w.alloc (.cells #[.int .i64 m, .slice A n c] 25)) := (Past.refl _).alloc _
  by_cases hl0 : l = 0
  · subst hl0
    obtain rfl := h0 (List.eq_nil_of_length_eq_zero hny)
    go_enter Try.func23, Try.ntmps23
    go_wp2
    go_ret
    exact ⟨ret_bool (by simp), hb0⟩
  · have hne : ys ≠ [] := fun e => hl0 (by rw [← hny, e]; rfl)
    obtain ⟨h1, h2⟩ := h1 hne
    have hst := ((walkB_iff xs ys).1 (by unfold okB at ho; simp at ho; exact ho.2)).2
    have arc_at : ∀ k, k < l → ∃ (j : Nat) (a : ArcD), numOf ys k = (j : Int) ∧ ys[k]? = some (j : Int) ∧ xs[j]? = some a ∧ arcOf xs (numOf ys k) = a ∧ j < n := fun k hk => by
      have hs := hst k (by omega)
      unfold stepB at hs
      simp only [Bool.and_eq_true, inB_iff] at hs
      obtain ⟨j, hj⟩ : ∃ j : Nat, numOf ys k = (j : Int) := ⟨(numOf ys k).toNat, by omega⟩
      have hjn : j < xs.length := by omega
      refine ⟨j, xs[j], hj, ?_, List.getElem?_eq_getElem hjn, ?_, by omega⟩
      · rw [← hj, numOf, List.getD_eq_getElem?_getD, List.getElem?_eq_getElem (by omega : k < ys.length)]; rfl
      · rw [hj, arcOf, Int.toNat_natCast, List.getD_eq_getElem?_getD, List.getElem?_eq_getElem hjn]; rfl
    obtain ⟨j, ⟨f1, t1, c1, l1, d1⟩, _, y1, x1, a1, j1⟩ := arc_at 0 (by omega)
    obtain ⟨k, ⟨f2, t2, c2, l2, d2⟩, _, y2, x2, a2, k1⟩ := arc_at (l - 1) (by omega)
    rw [a1] at h1
    rw [hny, a2] at h2
    simp only at h1 h2
    subst h1 h2
    obtain ⟨W, hW⟩ : ∃ W, W = w.alloc (.cells #[.int .i64 m, .slice A n c] 25) := ⟨_, rfl⟩
    have hpW : Past w W := by rw [hW]; exact hb0
    obtain ⟨gB, oB, rfl, z0⟩ := hy 0 _ y1
    rw [Nat.add_zero] at z0
    obtain ⟨_, _, e1, z1⟩ := hy (l - 1) _ y2
    injection e1 with e1
    injection e1 with e1 e2
    subst e1 e2
    obtain ⟨gA, oA, rfl, p0, _, _, _, _⟩ := hx j _ x1
    obtain ⟨_, _, e1, _, p1, _, _, _⟩ := hx k _ x2
    injection e1 with e1
    injection e1 with e1 e2
    subst e1 e2
    have b0 := past_cell (w := W) (p := ⟨w.heap.size, 0, none⟩) (v := .int .i64 m) (by rw [hW]; go_simp)
    have b1 := past_cell (w := W) (p := ⟨w.heap.size, 1, none⟩) (v := .slice (some ⟨gA, oA, none⟩) n c) (by rw [hW]; go_simp)
    have z0 := past_cell (cell_in hpW z0)
    have z1 := past_cell (cell_in hpW z1)
    have p0 := past_cell (cell_in hpW p0)
    have p1 := past_cell (cell_in hpW p1)
    have C1 : Hid (∀ q : PastOf W, Calls Try.prog 67 #[.agg #[.int .i64 m, .slice (some ⟨gA, oA, none⟩) n c], .slice (some ⟨gB, oB, none⟩) l cb] q.W fun e w' => e = .returned (.bool true) ∧ Below q.W.heap.size q.W w') := fun q => by
      have := implWalkOk_any m (some ⟨gA, oA, none⟩) (some ⟨gB, oB, none⟩) n c l cb xs ys q.W hn hl hnx hny ((hx.below hpW).below q.h) ((hy.below hpW).below q.h)
      rw [ho] at this
      exact this
    have hl1 : ¬ (l : Int) = 0 := by omega
    have hl2 : (0 : Int) < (l : Int) := by omega
    have hl3 : 0 < l := by omega
    have hw1 : IntKind.i64.wrap ((l : Int) - 1) = ((l - 1 : Nat) : Int) := by rw [IntWalk.i64_in _ (by omega)]; omega
    have i0 : (0 : Int) ≤ ((l - 1 : Nat) : Int) := by omega
    have i1 : ((l - 1 : Nat) : Int) < (l : Int) := by omega
    obtain ⟨L1, hL1⟩ : ∃ L1, L1 = l - 1 := ⟨_, rfl⟩
    rw [← hL1] at hw1 i0 i1 z1
    have j2 : (0 : Int) ≤ (j : Int) := by omega
    have j3 : (j : Int) < (n : Int) := by omega
    have k2 : (0 : Int) ≤ (k : Int) := by omega
    have k3 : (k : Int) < (n : Int) := by omega
    have HW := Lib.hid hW
    clear hW hx hy hst arc_at a1 a2 x1 x2 y1 y2 ho h0 hL1 hb0 hne
    go_enter Try.func23, Try.ntmps23
    go_wp2_with fail
    rw [← HW.out]
    refine wp_region_past (by kernel_rfl) (by kernel_rfl) ?_
    repeat (quiet_step (with_reducible exact rfl))
    quiet_step ((go_at_call 67; exact past_call (C1.out _)))
    repeat (quiet_step (with_reducible exact rfl))
    refine wpQuiet_nil ?_
    rintro W8 ⟨⟨_, hW8⟩, rfl⟩
    go_wp2
    go_ret
    exact ⟨rfl, hpW.trans hW8⟩

end Go.Proofs.Ytaojognjkiifmab

namespace Go.Proofs.Ytaojognjkiifmab
open Go.RowKit

set_option maxRecDepth 100000 in
set_option maxHeartbeats 1000000 in
theorem wkInts_same (A B : Option Addr) (n c c' : Nat) (xs : List Int) (w : World) (hn : n ≤ 1048576) (hl : xs.length = n) (hx : IntsAt w A xs) (hy : IntsAt w B xs) :
    Calls Try.prog 17 #[.slice A n c, .slice B n c'] w fun e w' => e = .returned (.bool true) ∧ Below w.heap.size w w' := by
  go_enter Try.func17, Try.ntmps17
  go_wp2
  go_loopw [5] (fun i wr => ∃ k : Nat, k ≤ n ∧ i = .int .i64 k ∧ Past w wr) (fun i _ => n - (intOf i).toNat)
  case atStart => exact ⟨0, by omega, rfl, Past.refl _⟩
  case round =>
    obtain ⟨k, hk, rfl, hb⟩ := hrel
    by_cases hlt : k < n
    · obtain ⟨x0, ha⟩ : ∃ a, xs[k]? = some a := ⟨_, List.getElem?_eq_getElem (by omega)⟩
      obtain ⟨g, o, rfl, c0⟩ := (hx.below hb) k _ ha
      obtain ⟨g', o', rfl, d0⟩ := (hy.below hb) k _ ha
      have hi : (k : Int) < (n : Int) := by omega
      have h0 : (0 : Int) ≤ (k : Int) := by omega
      clear ha hl
      go_wp2_with fail
      go_quiet (fail)
      go_wp2
      go_roundw
      case rel => exact ⟨k + 1, by omega, by go_num, hb.drewN _⟩
      case measure => simp [intOf]; omega
    · go_wp2
      go_ret
      exact ⟨rfl, hb⟩

end Go.Proofs.Ytaojognjkiifmab

namespace Go.Proofs.Ytaojognjkiifmab
open Go.ChangeShapes Go.WideShapes Go.ChangeAt Go.RowKit

/-- What is read at the end. -/
structure LwS (w0 W : World) (b : Nat) (m : Int) (B : Option Addr) (k cap : Nat) (xs : List ArcD) (X : Option Addr) (ps : List Int) (Y : Option Addr) (qs : List Int) : Prop where
  past : Past w0 W
  arcs : ArcsAt W B xs
  n0 : W.cell? ⟨b, 0, none⟩ = some (.int .i64 m)
  n1 : W.cell? ⟨b, 1, none⟩ = some (.slice B k cap)
  way : IntsAt W X ps
  all : IntsAt W Y qs
theorem LwS.below {w0 W W' : World} {b : Nat} {m : Int} {B : Option Addr} {k cap : Nat} {xs : List ArcD} {X : Option Addr} {ps : List Int} {Y : Option Addr} {qs : List Int} (h : LwS w0 W b m B k cap xs X ps Y qs) (hb : Past W W') : LwS w0 W' b m B k cap xs X ps Y qs :=
  ⟨h.past.trans hb, h.arcs.below hb, cell_in hb h.n0, cell_in hb h.n1, h.way.below hb, h.all.below hb⟩
theorem LwS.drew {w0 W : World} {b : Nat} {m : Int} {B : Option Addr} {k cap : Nat} {xs : List ArcD} {X : Option Addr} {ps : List Int} {Y : Option Addr} {qs : List Int} (h : LwS w0 W b m B k cap xs X ps Y qs) : LwS w0 W.drew b m B k cap xs X ps Y qs := h.below (Past.refl W).drew

set_option maxRecDepth 100000 in
set_option maxHeartbeats 20000000 in
theorem fnLoadWalk_walk (A : Option Addr) (n c : Nat) (w : World) (hn : n ≤ c) (hc : c ≤ maxLen) (hb : BytesAt w A n) :
    Calls Try.prog 4 #[.slice A n c] w fun e w' => e = .returned (.bool true) ∧ Below w.heap.size w w' := by
  by_cases h1 : 1048576 < n
  · have h1' : (1048576 : Int) < (n : Int) := by omega
    go_enter Try.func4, Try.ntmps4
    go_wp2
    go_ret
    exact ⟨rfl, Below.refl _ _⟩
  have h1' : ¬ (1048576 : Int) < (n : Int) := by omega
  go_enter Try.func4, Try.ntmps4
  go_wp2_with fail
  refine (drawLoadWalk_any A n c w hn hc hb).mono ?_
  rintro e w1 ⟨m, B, k, cap, xs, a, b, load, rfl, hxk, hk, hx1, hform, hld, hb1, _⟩
  have HX := Lib.hid hxk
  have hkk : k ≤ 1048576 := by omega
  clear hxk hn hc hb hld
  have hpW : Past w1 (w1.alloc (.cells #[.int .i64 m, .slice B k cap] 25)) := (Past.refl w1).alloc _
  go_wp2_with fail
  refine (implLoadWalk_any m B k cap xs a b load _ hkk HX.out (hx1.below hpW)).mono ?_
  rintro e w2 ⟨v2, rfl, hv2, hb2⟩
  have b0 := cell_in (p := ⟨w1.heap.size, 0, none⟩) (v := .int .i64 m) hb2 (by go_simp)
  have b1 := cell_in (p := ⟨w1.heap.size, 1, none⟩) (v := .slice B k cap) hb2 (by go_simp)
  have hx2 := (hx1.below hpW).below hb2
  have hp2 : Past w w2 := Past.trans hb1 (hpW.trans hb2)
  obtain ⟨X, cx, rfl, hs2, _⟩ := hv2.form
  obtain ⟨ps, hps⟩ : ∃ ps, ps = lwayI m xs a b load := ⟨_, rfl⟩
  obtain ⟨bb, hbb⟩ : ∃ bb, bb = lwayB m xs a b load := ⟨_, rfl⟩
  rw [← hps] at hs2 ⊢
  rw [← hbb]
  obtain ⟨R, hR⟩ : ∃ R, R = ps.length := ⟨_, rfl⟩
  have hR1 : R ≤ 1048576 := by rw [hR, hps]; exact lwayI_len m xs a b load
  rw [← hR]
  have HPS := Lib.hid hps
  have HBB := Lib.hid hbb
  have HR := Lib.hid hR.symm
  clear hps hR hv2 hx1 hb1 hb2 hpW hbb
  go_wp2_with fail
  refine (specLoadWalk_any m B k cap xs a b load _ hkk HX.out hx2).mono ?_
  rintro e w3 ⟨v3, rfl, hv3, hb3⟩
  obtain ⟨F, cf, rfl, hs3, _⟩ := hv3.form
  rw [← HPS.out] at hs3 ⊢
  rw [← HBB.out, HR.out]
  have b0 := cell_in hb3 b0
  have b1 := cell_in hb3 b1
  have hx3 := hx2.below hb3
  have hs23 := hs2.below hb3
  have hp3 := Past.trans hp2 hb3
  clear hv3 hx2 hs2 hb3 hp2
  have hbe : (bb != bb) = false := by cases bb <;> rfl
  have hbe' : (bb == bb) = true := by cases bb <;> rfl
  go_wp2_with fail
  refine (wkInts_same X F R cx cf ps _ hR1 HR.out hs23 hs3).mono ?_
  rintro e w4 ⟨rfl, hb4⟩
  have b0 := cell_in hb4 b0
  have b1 := cell_in hb4 b1
  have hx4 := hx3.below hb4
  have hs4 := hs23.below hb4
  have hs34 := hs3.below hb4
  have hp4 := Past.trans hp3 hb4
  clear hx3 hs23 hs3 hb4 hp3
  cases hC : bb with
  | false =>
    subst hC
    clear hbe hbe'
    go_wp2_with fail
    refine (wkInts_same X F R cx cf ps _ hR1 HR.out hs4 hs34).mono ?_
    rintro e w7 ⟨rfl, hb7⟩
    go_wp2
    go_ret
    exact ⟨rfl, Past.trans hp4 hb7⟩
  | true =>
    subst hC
    obtain ⟨M, rfl, hM1, hM8, hN, hL, ha, hbt, g1, g2, g4, g5, g6, g7, g8, g9⟩ := lway_gone HBB.out.symm
    rw [← HPS.out] at g1 g2 g4 g5 g6 g7
    obtain ⟨T, rfl⟩ : ∃ T : Nat, b = (T : Int) := ⟨b.toNat, by omega⟩
    have hTM : T < M := by omega
    have t0 : (0 : Int) ≤ (T : Int) := by omega
    have t1 : (T : Int) < (M : Int) := hbt.2
    obtain ⟨z, hz⟩ : ∃ z, z = at_ (nearL M (forL xs load) a) (T : Int) := ⟨_, rfl⟩
    rw [← hz] at g2 g9
    have hzt : (nearL M (forL xs load) a)[T]? = some z := by rw [hz]; exact getElem_at _ T (by rw [nearL_length]; exact hTM)
    obtain ⟨e1, e2⟩ := lnet_yes hL
    have hnf : nearI (M : Int) (forL xs load) a = nearL M (forL xs load) a := by rw [nearI, if_pos ((hereB_iff _ _ _).2 ⟨forL_net hN load, ha⟩), Int.toNat_natCast]
    obtain ⟨qo1, qo2, _⟩ := near_gone g8
    have hq2 : costI (M : Int) xs (nearWI (M : Int) xs a (T : Int)) = at_ (nearL M xs a) (T : Int) := by rw [qo2, nearI, if_pos ((hereB_iff _ _ _).2 ⟨hN, ha⟩), Int.toNat_natCast]
    have hfl : (forL xs load).length ≤ 1048576 := Nat.le_trans (forL_len _ _) (by rw [HX.out]; omega)
    have G1 := Lib.hid g1
    have G2 := Lib.hid g2
    have G4 := Lib.hid g4
    have G5 := Lib.hid g5
    have G7 := Lib.hid g7
    have G8 := Lib.hid g8
    have G9 := Lib.hid g9
    have HZT := Lib.hid hzt
    have E1 := Lib.hid e1
    have E2 := Lib.hid e2
    have HNF := Lib.hid hnf
    have HQ2 := Lib.hid hq2
    obtain ⟨K, hK⟩ : ∃ K, K = (forL xs load).length := ⟨_, rfl⟩
    rw [← hK] at hfl
    have HK := Lib.hid hK.symm
    clear hbe hbe' hs34 g1 g2 g4 g5 g7 g8 g9 hz hzt e1 e2 hnf hq2 qo1 qo2 hK hL hN ha hbt
    go_wp2
    go_loopw [11] (fun i wr => ∃ j : Nat, j ≤ R ∧ i = .int .i64 j ∧ Past w4 wr) (fun i _ => R - (intOf i).toNat)
    case atStart => exact ⟨0, by omega, rfl, Past.refl _⟩
    case round =>
      obtain ⟨j, hj, rfl, hbr⟩ := hrel
      have b0r := cell_in hbr b0
      have b1r := cell_in hbr b1
      by_cases hlt : j < R
      · obtain ⟨y, hy⟩ : ∃ y, ps[j]? = some y := ⟨_, List.getElem?_eq_getElem (by have := HR.out; omega)⟩
        obtain ⟨e, he, hy0, hd⟩ := G7.out y (List.mem_of_getElem? hy)
        obtain ⟨Y, rfl⟩ : ∃ Y : Nat, y = (Y : Int) := ⟨y.toNat, by omega⟩
        rw [Int.toNat_natCast] at he
        have hYk : Y < k := by have := (List.getElem?_eq_some_iff.1 he).1; have := HX.out; omega
        obtain ⟨f', t', c', l', d'⟩ := e
        obtain ⟨gx, ox, rfl, _, _, _, _, d1⟩ := (hx4.below hbr) Y _ he
        obtain ⟨gy, oy, rfl, c1⟩ := (hs4.below hbr) j _ hy
        simp only at hd d1
        have D0 := past_cell b0r
        have D1 := past_cell b1r
        have D2 := past_cell c1
        have D3 := past_cell d1
        have j0 : (0 : Int) ≤ (j : Int) := by omega
        have j1 : (j : Int) < (R : Int) := by omega
        have y0 : (0 : Int) ≤ (Y : Int) := by omega
        have y1 : (Y : Int) < (k : Int) := by omega
        have g3 : decide (d' < load) = false := decide_eq_false (by omega)
        clear hy he hd hYk
        go_wp2_with fail
        refine wp_region_past (by kernel_rfl) (by kernel_rfl) ?_
        repeat (go_big_quiet_step (with_reducible exact rfl))
        refine wpQuiet_nil ?_
        rintro _ ⟨⟨W8, hW8⟩, rfl⟩
        go_wp2
        go_roundw
        case rel => exact ⟨j + 1, by omega, by go_num, hbr.trans hW8⟩
        case measure => simp [intOf]; omega
      · obtain rfl : j = R := by omega
        have hxr := hx4.below hbr
        have hsr := hs4.below hbr
        have hpr := Past.trans hp4 hbr
        go_wp2_with fail
        refine (implNearWalk_all (M : Int) B k cap xs a (T : Int) _ hkk HX.out hxr hform).mono ?_
        rintro e w5 ⟨v5, rfl, hv5, hb5⟩
        obtain ⟨Y, cy, rfl, hy5, _⟩ := hv5.form
        obtain ⟨qs, hqs⟩ : ∃ qs, qs = nearWI (M : Int) xs a (T : Int) := ⟨_, rfl⟩
        have hq2 := HQ2.out
        rw [← hqs] at hy5 hq2 ⊢
        obtain ⟨Q, hQ⟩ : ∃ Q, Q = qs.length := ⟨_, rfl⟩
        have hQ1 : Q ≤ 1048576 := by rw [hQ, hqs]; exact nearWI_len _ _ _ _
        rw [← hQ]
        have HQ := Lib.hid hQ.symm
        obtain ⟨u, hu⟩ : ∃ u, u = costI (M : Int) xs qs := ⟨_, rfl⟩
        have huz : u ≤ z := by rw [hu, hq2]; exact G9.out
        have HU := Lib.hid hu.symm
        have hS0 : LwS w w5 w1.heap.size (M : Int) B k cap xs X ps Y qs := ⟨hpr.trans hb5, hxr.below hb5, cell_in hb5 b0r, cell_in hb5 b1r, hsr.below hb5, hy5⟩
        have z1 : decide (u ≤ z) = true := decide_eq_true huz
        have z2 : (z == z) = true := by simp
        clear hqs hQ hu hq2 hv5 hb5 hy5 hxr hsr hpr b0r b1r hbr
        have b0 := hS0.n0
        have b1 := hS0.n1
        go_upto_region 14 with (fail)
        have hS := hS0.drew
        go_region_with (first
          | (go_at_call 23; refine (wkEnds_true (M : Int) B X k cap j cx xs ps a (T : Int) _ hkk hR1 HX.out HR.out hS.arcs hS.way G1.out G4.out G5.out).mono ?_; rintro e w9 ⟨rfl, hb9⟩; have hS := hS.below hb9; have b0 := hS.n0; have b1 := hS.n1; clear hb9)
          | (go_at_call 24; (with_reducible refine (implWalkCost_any (M : Int) B X k cap j cx xs ps _ hkk hR1 HX.out HR.out hS.arcs hS.way).mono ?_); rintro e w9 ⟨rfl, hb9⟩; rw [G2.out]; have hS := hS.below hb9; have b0 := hS.n0; have b1 := hS.n1; clear hb9)
          | (go_at_call 24; (with_reducible refine (implWalkCost_any (M : Int) B Y k cap Q cy xs qs _ hkk hQ1 HX.out HQ.out hS.arcs hS.all).mono ?_); rintro e w9 ⟨rfl, hb9⟩; rw [HU.out]; have hS := hS.below hb9; have b0 := hS.n0; have b1 := hS.n1; clear hb9)
          | (go_at_call 26; refine (implLoadNet_any (M : Int) B k cap xs load _ hkk HX.out hS.arcs).mono ?_; rintro e w9 ⟨E9, c9, rfl, hz9, _, hb9⟩; rw [E2.out] at hz9 ⊢; rw [E1.out, HK.out]; have hS := hS.below hb9; have b0 := hS.n0; have b1 := hS.n1; clear hb9)
          | (go_at_call 25; refine (implNearAll_any (M : Int) E9 K c9 (forL xs load) a _ hfl HK.out hz9).mono ?_; rintro e w10 ⟨v10, rfl, hv10, hb10⟩; rw [HNF.out] at hv10; obtain ⟨D10, cd10, rfl, hd10, _⟩ := hv10.form; rw [nearL_length]; obtain ⟨gd, od, rfl, cT⟩ := hd10 T z HZT.out; have hS := hS.below hb10; have b0 := hS.n0; have b1 := hS.n1; clear hb10 hv10 hd10 hz9))
        all_goals go_wp2
        all_goals go_ret
        all_goals exact ⟨rfl, hS.past⟩

set_option maxRecDepth 100000 in
theorem fnLoadWalk_lifted (os : Os) (started : os.Started) (H : Type) (enc : TypeId × Value → H) :
    ReturnsInHanded {} Try.checked os 4 .any (Rows.fnLoadWalkSpec.pre6 enc Try.prog Try.f4 Rows.fnLoadWalkRow.domain false) (Rows.fnLoadWalkSpec.post enc Try.prog Try.f4 false true false false) := by
  refine returnsInHanded_of_change (C := Try.checked) own started (by kernel_rfl) Try.func4
    (ChangeSpec.witness6 (enc := enc) (C := Try.checked) false ⟨#[], #[.slice none 0 0], []⟩ 8 (by kernel_rfl) (by kernel_rfl) (by kernel_rfl) (by kernel_rfl)) ?_
  intro W base args ds gs before hval0 hW hcnd _
  have hval : ∀ (j : Nat) t v, Try.f4.params[j]? = some t → args[j]? = some v → Value.okWide Try.prog W .any base t v := hval0
  have hW' := hW
  obtain ⟨p, q, hA0, hV, rfl, hfz, hnd⟩ := hW
  have hA : DataW.TrodAll enc Try.prog W 0 (fun _ => true) true Try.f4.params.toList args.toList ds p := hA0
  rw [Try.params4] at hA hval
  obtain ⟨v0, vs0, d0, ds0, p0, q0, hargs, rfl, rfl, h0, r0⟩ := trodAll_cons hA
  obtain ⟨rfl, rfl, rfl⟩ := trodAll_nil r0
  obtain rfl : args = #[v0] := by cases args; simp_all
  obtain ⟨rfl, rfl⟩ := trodVars_none hV
  have k0 := h0
  have lt0 := places_lt k0
  obtain ⟨A0, n0, c0, rfl, hn0, hc0, hb0⟩ := open_bytes (hval 0 22 v0 rfl rfl) h0
  clear hA0 hval0
  refine (fnLoadWalk_walk A0 n0 c0 W hn0 hc0 hb0).mono fun e W' ⟨he, bel⟩ => ?_
  subst he
  exact ⟨_, rfl, _, _, _, [], _, [], hW', trodAll_mk1 (shut_bool Try.underlying4 _), (trodAll_cons_mk (Below.trod laidOut (by kernel_rfl) (of_decide_eq_true (by kernel_rfl)) k0 bel lt0) trodAll_mk0), rfl, bel.frame _, fun h => by cases h⟩

/-- The given statement. -/
theorem fnLoadWalk_proved : Rows.FnLoadWalkSaid :=
  OpenClaim.holds_of_wide 4 Try.f4 rfl rfl rfl rfl rfl rfl rfl ⟨rfl, rfl, rfl, rfl, rfl⟩ rfl rfl rfl rfl rfl (by kernel_rfl) Try.func4 (by kernel_rfl)
    (of_decide_eq_true (by kernel_rfl)) (by unfold Func.isWrapper; first | (rw [if_pos (by decide +kernel)]; kernel_rfl) | (rw [if_neg (by decide +kernel)]; exact ⟨rfl, rfl⟩))
    (fun os started H enc _ => fnLoadWalk_lifted os started H enc)

end Go.Proofs.Ytaojognjkiifmab
