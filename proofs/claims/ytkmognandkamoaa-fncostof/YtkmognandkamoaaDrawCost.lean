/-
  spec.DrawCostOf: a net and how much costs and tolls count are drawn. No condition.
-/
import Derived.Test.YtkmognandkamoaaDrawNetOut
namespace Go.Proofs.Ytkmognandkamoaa
open Go.RowKit

/-- A net and two numbers were drawn. -/
def DrawTwoG (w : World) (e : Ending) (w' : World) : Prop :=
  ∃ (m : Int) (B : Option Addr) (k cap : Nat) (xs : List ArcD) (p q : Int), e = .returned (.tuple #[.agg #[.int .i64 m, .slice B k cap], .int .i64 p, .int .i64 q]) ∧ xs.length = k ∧ k ≤ 13 ∧ ArcsAt w' B xs ∧ ((B = none ∧ k = 0) ∨ ∃ g o, B = some ⟨g, o, none⟩) ∧ p ∈ [100, 50, 0, 101] ∧ q ∈ [0, 100, 30, -1] ∧ Below w.heap.size w w'

/-- What is known between the draws of one statement. -/
structure CoI (w0 : World) (R lo : Nat) (A : Option Addr) (n c f rb nb : Nat) (m : Int) (B : Option Addr) (k cap : Nat) (xs : List ArcD) (u : World) : Prop where
  rd : RdF u R lo A n c f
  n0 : u.cell? ⟨nb, 0, none⟩ = some (.int .i64 m)
  n1 : u.cell? ⟨nb, 1, none⟩ = some (.slice B k cap)
  row : RowN u rb 29 2
  arcs : ArcsAt u B xs
  gr : w0.grownBy u (some R)

theorem CoI.alloc {w0 u : World} {R lo n c f rb nb k cap : Nat} {A B : Option Addr} {m : Int} {xs : List ArcD} (h : CoI w0 R lo A n c f rb nb m B k cap xs u) (o : Obj) : CoI w0 R lo A n c f rb nb m B k cap xs (u.alloc o) :=
  ⟨h.rd.alloc o, cell_in ((Past.refl u).alloc o) h.n0, cell_in ((Past.refl u).alloc o) h.n1, h.row.keep (Below.heap_alloc u o _ h.row.lt), h.arcs.below ((Past.refl u).alloc o), grown_trans h.gr (World.grownBy_alloc u o _)⟩
theorem CoI.drew {w0 u : World} {R lo n c f rb nb k cap : Nat} {A B : Option Addr} {m : Int} {xs : List ArcD} (h : CoI w0 R lo A n c f rb nb m B k cap xs u) : CoI w0 R lo A n c f rb nb m B k cap xs u.drew :=
  ⟨h.rd.drew, h.n0, h.n1, h.row, h.arcs, ⟨h.gr.os, h.gr.tape, h.gr.output, h.gr.size, h.gr.block⟩⟩
theorem CoI.step {w0 u u' : World} {R lo n c f f' rb nb k cap : Nat} {A B : Option Addr} {m : Int} {xs : List ArcD} (h : CoI w0 R lo A n c f rb nb m B k cap xs u) (hr : RdF u' R lo A n c f') (hg : u.grownBy u' (some R)) (h1 : nb ≠ R) (h2 : rb ≠ R) (h3 : blk B ≠ some R) : CoI w0 R lo A n c f' rb nb m B k cap xs u' :=
  ⟨hr, cell_far hg h.n0 h1, cell_far hg h.n1 h1, h.row.young hg h2, h.arcs.grown hg (fun b e => by injection e with e; rw [← e]; exact h3), grown_trans h.gr hg⟩

set_option maxRecDepth 100000 in
set_option maxHeartbeats 4000000 in
theorem drawCostOf_any (A : Option Addr) (n c : Nat) (w : World) (hn : n ≤ c) (hc : c ≤ maxLen) (hb : BytesAt w A n) :
    Calls Try.prog 41 #[.slice A n c] w (DrawTwoG w) := by
  have hpV : Past w (w.alloc (.cells #[.int .i64 0, .slice none 0 0] 29)) := (Past.refl w).alloc _
  go_enter Try.func41, Try.ntmps41
  go_wp2_with fail
  refine (open_any A n c _ hn hc (hb.below hpV)).mono ?_
  rintro e w1 ⟨R, n', c', rfl, hR, hrd, hb1⟩
  rw [World.size_alloc] at hR
  have hF : RdF w1 R _ A n' c' (26 + 83) := ⟨0, by omega, hrd⟩
  have r0 : RowN w1 w.heap.size 29 2 := by
    have r : RowN (w.alloc (.cells #[.int .i64 0, .slice none 0 0] 29)) w.heap.size 29 2 := ⟨_, heap_alloc_new w _, rfl⟩
    exact r.keep (hb1.block _ r.lt)
  have hp1 := hpV.trans hb1
  have hR1 := hF.at_
  clear hrd hb1 hpV
  go_wp2_with fail
  refine (l30AnyNet_any R _ A n' c' 26 w1 hF).mono ?_
  rintro e w2 ⟨m, B, k, cap, xs, rfl, hxk, hk, hxB, hoB, hr2, hg2⟩
  have hp2 : Past w w2 := Below.grown hp1 hg2 hp1.size (fun k e => by injection e with e; omega)
  have r2 := r0.young hg2 (by omega)
  have hBR : blk B ≠ some R := hoB.ne_blk hR1
  have hform := ownForm hoB
  have hneB : blk B ≠ some w.heap.size := hoB.ne_blk (by omega)
  have s12 := hg2.size
  have hs2 : w.heap.size < w2.heap.size := r2.lt
  have hNR : w2.heap.size ≠ R := by omega
  have hwR : w.heap.size ≠ R := by omega
  obtain ⟨W, hW⟩ : ∃ W, W = w2.alloc (.cells #[.int .i64 m, .slice B k cap] 29) := ⟨_, rfl⟩
  have hpW : Past w2 W := by rw [hW]; exact (Past.refl w2).alloc _
  obtain ⟨lo, hI⟩ : ∃ lo, CoI W R lo A n' c' (24 + 1 + 1) w.heap.size w2.heap.size m B k cap xs W := by
    rw [hW]
    exact ⟨_, hr2.alloc _, by go_simp, by go_simp, r2.keep (Below.heap_alloc _ _ _ r2.lt), hxB.below ((Past.refl w2).alloc _), grown_refl _ _⟩
  have hp3 := hp2.trans hpW
  have hsW := hpW.size
  have hRW : R < W.heap.size := hI.rd.at_
  go_upto_region 3 with (fail)
  rw [← hW]
  clear hW hoB hr2 hg2 hxB r0 r2 hF hpW
  have b0 := hI.n0
  have b1 := hI.n1
  have hq0 : ∀ (u : World) (j : Nat) (x : Value), (u.setCell ⟨w.heap.size, j, none⟩ x).cell? ⟨w2.heap.size, 0, none⟩ = u.cell? ⟨w2.heap.size, 0, none⟩ := fun u j x => World.cell?_setCell_other _ _ _ _ (by intro e; injection e; omega)
  have hq1 : ∀ (u : World) (j : Nat) (x : Value), (u.setCell ⟨w.heap.size, j, none⟩ x).cell? ⟨w2.heap.size, 1, none⟩ = u.cell? ⟨w2.heap.size, 1, none⟩ := fun u j x => World.cell?_setCell_other _ _ _ _ (by intro e; injection e; omega)
  have nb0 := World.new_ne W _ b0
  have nb1 := World.new_ne W _ b1
  have hIa := (hI.alloc (.cells #[.int .i64 100, .int .i64 50, .int .i64 0, .int .i64 101] 3)).drew
  have hIb := ((hI.alloc (.cells #[.int .i64 100, .int .i64 50, .int .i64 0, .int .i64 101] 3)).alloc (.cells #[.int .i64 0, .int .i64 100, .int .i64 30, .int .i64 (-1)] 3)).drew
  have hIc := ((hI.alloc (.cells #[.int .i64 0, .int .i64 100, .int .i64 30, .int .i64 (-1)] 3)).alloc (.cells #[.int .i64 100, .int .i64 50, .int .i64 0, .int .i64 101] 3)).drew
  have ia1 : IntsAt (W.alloc (.cells #[.int .i64 100, .int .i64 50, .int .i64 0, .int .i64 101] 3)).drew (some ⟨W.heap.size, 0, none⟩) [100, 50, 0, 101] := ints_new W [100, 50, 0, 101] rfl _
  have ib1 : IntsAt ((W.alloc (.cells #[.int .i64 100, .int .i64 50, .int .i64 0, .int .i64 101] 3)).alloc (.cells #[.int .i64 0, .int .i64 100, .int .i64 30, .int .i64 (-1)] 3)).drew (some ⟨W.heap.size, 0, none⟩) [100, 50, 0, 101] := IntsAt.below (w := W.alloc (.cells #[.int .i64 100, .int .i64 50, .int .i64 0, .int .i64 101] 3)) (ints_new W [100, 50, 0, 101] rfl _) (Past.drew ((Past.refl _).alloc _))
  have ib2 : IntsAt ((W.alloc (.cells #[.int .i64 100, .int .i64 50, .int .i64 0, .int .i64 101] 3)).alloc (.cells #[.int .i64 0, .int .i64 100, .int .i64 30, .int .i64 (-1)] 3)).drew (some ⟨W.heap.size + 1, 0, none⟩) [0, 100, 30, -1] := by have h : IntsAt ((W.alloc (.cells #[.int .i64 100, .int .i64 50, .int .i64 0, .int .i64 101] 3)).alloc (.cells #[.int .i64 0, .int .i64 100, .int .i64 30, .int .i64 (-1)] 3)) (some ⟨(W.alloc (.cells #[.int .i64 100, .int .i64 50, .int .i64 0, .int .i64 101] 3)).heap.size, 0, none⟩) [0, 100, 30, -1] := ints_new _ [0, 100, 30, -1] rfl _; rw [World.size_alloc] at h; exact h
  have ic2 : IntsAt ((W.alloc (.cells #[.int .i64 0, .int .i64 100, .int .i64 30, .int .i64 (-1)] 3)).alloc (.cells #[.int .i64 100, .int .i64 50, .int .i64 0, .int .i64 101] 3)).drew (some ⟨W.heap.size, 0, none⟩) [0, 100, 30, -1] := IntsAt.below (w := W.alloc (.cells #[.int .i64 0, .int .i64 100, .int .i64 30, .int .i64 (-1)] 3)) (ints_new W [0, 100, 30, -1] rfl _) (Past.drew ((Past.refl _).alloc _))
  have ic1 : IntsAt ((W.alloc (.cells #[.int .i64 0, .int .i64 100, .int .i64 30, .int .i64 (-1)] 3)).alloc (.cells #[.int .i64 100, .int .i64 50, .int .i64 0, .int .i64 101] 3)).drew (some ⟨W.heap.size + 1, 0, none⟩) [100, 50, 0, 101] := by have h : IntsAt ((W.alloc (.cells #[.int .i64 0, .int .i64 100, .int .i64 30, .int .i64 (-1)] 3)).alloc (.cells #[.int .i64 100, .int .i64 50, .int .i64 0, .int .i64 101] 3)) (some ⟨(W.alloc (.cells #[.int .i64 0, .int .i64 100, .int .i64 30, .int .i64 (-1)] 3)).heap.size, 0, none⟩) [100, 50, 0, 101] := ints_new _ [100, 50, 0, 101] rfl _; rw [World.size_alloc] at h; exact h
  clear hI
  have cA := oneF (f := 24 + 1) (l := 4) (cb := 4) [100, 50, 0, 101] hIa.rd rfl (by omega) (by omega) ia1 (by omega)
  have cB := oneF (f := 24 + 1) (l := 4) (cb := 4) [100, 50, 0, 101] hIb.rd rfl (by omega) (by omega) ib1 (by omega)
  have cC := oneF (f := 24 + 1) (l := 4) (cb := 4) [100, 50, 0, 101] hIc.rd rfl (by omega) (by omega) ic1 (by omega)
  clear ia1 ib1 ic1
  go_region_held3 (fun w' => w'.cell? ⟨w2.heap.size, 0, none⟩ = some (.int .i64 m) ∧ w'.cell? ⟨w2.heap.size, 1, none⟩ = some (.slice B k cap))
    (first | go_keep | (simp only [hq0, hq1]; assumption))
    (first
      | (go_at_call 80; (with_reducible refine c2.mono ?_); rintro e w7 ⟨q, rfl, hqm, hr7, hg7⟩; have hI := hJ.step hr7 hg7 hNR hwR hBR; clear c2 hJ; have b0 := hI.n0; have b1 := hI.n1; obtain ⟨y0, e0⟩ := hI.row.cell (i := 0) (by omega); obtain ⟨y1, e1⟩ := hI.row.cell (i := 1) (by omega); have z0 := hI.row.frozen 0; have z1 := hI.row.frozen 1)
      | (go_at_call 80; (with_reducible refine cB.mono ?_); rintro e w6 ⟨p, rfl, hpm, hr6, hg6⟩; have hJ := hIb.step hr6 hg6 hNR hwR hBR; have c2 := oneF (f := 24) (l := 4) (cb := 4) [0, 100, 30, -1] hJ.rd rfl (by omega) (by omega) (ib2.grown hg6 (fun b e => by injection e with e; simp [blk]; omega)) (by omega); clear cA cB cC; have b0 := hJ.n0; have b1 := hJ.n1)
      | (go_at_call 80; (with_reducible refine cC.mono ?_); rintro e w6 ⟨p, rfl, hpm, hr6, hg6⟩; have hJ := hIc.step hr6 hg6 hNR hwR hBR; have c2 := oneF (f := 24) (l := 4) (cb := 4) [0, 100, 30, -1] hJ.rd rfl (by omega) (by omega) (ic2.grown hg6 (fun b e => by injection e with e; simp [blk]; omega)) (by omega); clear cA cB cC; have b0 := hJ.n0; have b1 := hJ.n1)
      | (go_at_call 80; (with_reducible refine cA.mono ?_); rintro e w6 ⟨p, rfl, hpm, hr6, hg6⟩; have hI := hIa.step hr6 hg6 hNR hwR hBR; have nb0 := World.new_ne w6 _ hI.n0; have nb1 := World.new_ne w6 _ hI.n1; have hJ := hI.alloc (.cells #[.int .i64 0, .int .i64 100, .int .i64 30, .int .i64 (-1)] 3); have h6R : R < w6.heap.size := hI.rd.at_; have j6 : IntsAt (w6.alloc (.cells #[.int .i64 0, .int .i64 100, .int .i64 30, .int .i64 (-1)] 3)) (some ⟨w6.heap.size, 0, none⟩) [0, 100, 30, -1] := ints_new w6 [0, 100, 30, -1] rfl _; have h6N : w6.heap.size ≠ R := (by omega); have c2 := oneF (f := 24) (l := 4) (cb := 4) [0, 100, 30, -1] hJ.rd rfl (by omega) (by omega) j6 h6N; clear cA cB cC; have b0 := hI.n0; have b1 := hI.n1))
  all_goals (
    have hp7 : Past w w7 := Below.grown hp3 hI.gr hp3.size (fun k e => by injection e with e; omega)
    have hx5 := (hI.arcs.far ⟨w.heap.size, 0, none⟩ (.int .i64 m) hneB).far ⟨w.heap.size, 1, none⟩ (.slice B k cap) hneB
    have hbel := Below.setCell (Below.setCell hp7 (p := ⟨w.heap.size, 0, none⟩) (by simp) (.int .i64 m)) (p := ⟨w.heap.size, 1, none⟩) (by simp) (.slice B k cap)
    go_wp2
    exact bodyPost_ret (v := .tuple #[.agg #[.int .i64 m, .slice B k cap], .int .i64 p, .int .i64 q]) (by simp [results, Try.results41, go_sem, e0, e1]) rfl ⟨m, B, k, cap, xs, p, q, rfl, hxk, hk, hx5, hform, hpm, hqm, hbel⟩)

end Go.Proofs.Ytkmognandkamoaa
