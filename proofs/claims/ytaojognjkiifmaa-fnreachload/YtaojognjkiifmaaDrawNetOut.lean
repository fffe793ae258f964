/-
  l30Node, DrawNetOut: a net in new memory, and a number.
-/
import Derived.Test.YtaojognjkiifmaaDraw4
namespace Go.Proofs.Ytaojognjkiifmaa
open Go.RowKit

theorem two_at (w : World) (x y : Int) : IntsAt (w.alloc (.cells #[.int .i64 x, .int .i64 y] 3)) (some ⟨w.heap.size, 0, none⟩) [x, y] := fun j a hj => by
  refine ⟨w.heap.size, 0, rfl, ?_⟩
  match j with
  | 0 => simp at hj; subst hj; go_simp
  | 1 => simp at hj; subst hj; go_simp
  | j + 2 => simp at hj

/-- A number was drawn. -/
def NumG (w : World) (R lo : Nat) (A : Option Addr) (n c f : Nat) (e : Ending) (w' : World) : Prop :=
  ∃ z : Int, e = .returned (.int .i64 z) ∧ RdF w' R lo A n c f ∧ w.grownBy w' (some R)

set_option maxRecDepth 100000 in
set_option maxHeartbeats 2000000 in
theorem l30Node_any (R lo : Nat) (A B : Option Addr) (n c f k cap : Nat) (m : Int) (w : World) (h : RdF w R lo A n c (f + 2)) :
    Calls Try.prog 73 #[.pointer (some ⟨R, 0, none⟩), .agg #[.int .i64 m, .slice B k cap]] w (NumG w R lo A n c f) := by
  have hRw := h.at_
  have hpV : Past w (w.alloc (.cells #[.int .i64 m, .slice B k cap] 32)) := (Past.refl w).alloc _
  have b0 : (w.alloc (.cells #[.int .i64 m, .slice B k cap] 32)).cell? ⟨w.heap.size, 0, none⟩ = some (.int .i64 m) := by go_simp
  have hne : w.heap.size ≠ R := by omega
  have h' : RdF (w.alloc (.cells #[.int .i64 m, .slice B k cap] 32)) R lo A n c (f + 1 + 1) := h.below hpV
  have gV : w.grownBy (w.alloc (.cells #[.int .i64 m, .slice B k cap] 32)) (some R) := World.grownBy_alloc w _ _
  go_enter Try.func73, Try.ntmps73
  go_wp2_with fail
  refine (pickF (f := f + 1) 16 h').mono ?_
  rintro e w1 ⟨q, rfl, hq0, hq1, hr1, hg1⟩
  have b0 := cell_far hg1 b0 hne
  have gW := grown_trans gV hg1
  have hs1 := gW.size
  have hR1 := hr1.at_
  clear h h' hpV hg1 gV
  by_cases hq : q = 0
  · subst hq
    have hpa : Past w1 (w1.alloc (.cells #[.int .i64 (-1), .int .i64 m] 3)) := (Past.refl w1).alloc _
    have hz := two_at w1 (-1) m
    have hne2 : w1.heap.size ≠ R := by omega
    have gA := grown_trans gW (World.grownBy_alloc w1 (.cells #[.int .i64 (-1), .int .i64 m] 3) (some R))
    have hrA := hr1.below hpa
    clear gW hpa hr1
    go_wp2_with fail
    refine (oneF (l := 2) [-1, m] hrA rfl (by omega) (by omega) hz hne2).mono ?_
    rintro e w2 ⟨z, rfl, _, hr2, hg2⟩
    go_wp2
    go_ret
    exact ⟨z, rfl, hr2, grown_trans gA hg2⟩
  · go_wp2_with fail
    refine (pickF (f := f) m hr1).mono ?_
    rintro e w2 ⟨z, rfl, _, _, hr2, hg2⟩
    go_wp2
    go_ret
    exact ⟨z, rfl, hr2, grown_trans gW hg2⟩

theorem ownForm {w : World} {lo t size n : Nat} {A : Option Addr} (h : OwnAt w lo A t size n) : (A = none ∧ n = 0) ∨ ∃ g o, A = some ⟨g, o, none⟩ := by
  rcases h with h | ⟨g, _, rfl, _⟩
  · exact .inl h
  · exact .inr ⟨g, 0, rfl⟩
/-- A net and a number were drawn. -/
def DrawNodeG (w : World) (e : Ending) (w' : World) : Prop :=
  ∃ (m : Int) (B : Option Addr) (k cap : Nat) (xs : List ArcD) (z : Int), e = .returned (.tuple #[.agg #[.int .i64 m, .slice B k cap], .int .i64 z]) ∧ xs.length = k ∧ k ≤ 13 ∧ ArcsAt w' B xs ∧ ((∀ g, g < w.heap.size → blk B ≠ some g) ∧ ((B = none ∧ k = 0) ∨ ∃ g o, B = some ⟨g, o, none⟩)) ∧ Below w.heap.size w w'

set_option maxRecDepth 100000 in
set_option maxHeartbeats 4000000 in
theorem drawNetOut_any (A : Option Addr) (n c : Nat) (w : World) (hn : n ≤ c) (hc : c ≤ maxLen) (hb : BytesAt w A n) :
    Calls Try.prog 91 #[.slice A n c] w (DrawNodeG w) := by
  have hpV : Past w (w.alloc (.cells #[.int .i64 0, .slice none 0 0] 32)) := (Past.refl w).alloc _
  go_enter Try.func91, Try.ntmps91
  go_wp2_with fail
  refine (open_any A n c _ hn hc (hb.below hpV)).mono ?_
  rintro e w1 ⟨R, n', c', rfl, hR, hrd, hb1⟩
  rw [World.size_alloc] at hR
  have hF : RdF w1 R _ A n' c' (26 + 83) := ⟨0, by omega, hrd⟩
  have r0 : RowN w1 w.heap.size 32 2 := by
    have r : RowN (w.alloc (.cells #[.int .i64 0, .slice none 0 0] 32)) w.heap.size 32 2 := ⟨_, heap_alloc_new w _, rfl⟩
    exact r.keep (hb1.block _ r.lt)
  have hp1 := hpV.trans hb1
  have hR1 := hF.at_
  clear hrd hb1 hpV
  go_wp2_with fail
  refine (l30AnyNet_any R _ A n' c' 26 w1 hF).mono ?_
  rintro e w2 ⟨m, B, k, cap, xs, rfl, hxk, hk, hxB, hoB, hr2, hg2⟩
  have hp2 : Past w w2 := Below.grown hp1 hg2 hp1.size (fun k e => by injection e with e; omega)
  have r2 := r0.young hg2 (by omega)
  have hBR : blk B ≠ some R := hoB.ne_blk hR1
  have hform := ownForm hoB
  have hfar : ∀ g, g < w.heap.size → blk B ≠ some g := fun g hg => hoB.ne_blk (Nat.lt_of_lt_of_le hg hp1.size)
  have hneB : blk B ≠ some w.heap.size := hoB.ne_blk (by omega)
  have s12 := hg2.size
  obtain ⟨W, hW⟩ : ∃ W, W = w2.alloc (.cells #[.int .i64 m, .slice B k cap] 32) := ⟨_, rfl⟩
  have hpW : Past w2 W := by rw [hW]; exact (Past.refl w2).alloc _
  have b0 : W.cell? ⟨w2.heap.size, 0, none⟩ = some (.int .i64 m) := by rw [hW]; go_simp
  have b1 : W.cell? ⟨w2.heap.size, 1, none⟩ = some (.slice B k cap) := by rw [hW]; go_simp
  have hxW := hxB.below hpW
  have hrW := hr2.below hpW
  have r3 := r2.keep (hpW.block _ r2.lt)
  have hp3 := hp2.trans hpW
  have hs2 : w.heap.size < w2.heap.size := r2.lt
  go_upto_region 3 with (fail)
  rw [← hW]
  clear hW hoB hr2 hg2 hxB r0 hF
  have hNR : w2.heap.size ≠ R := by omega
  have hq0 : ∀ (u : World) (j : Nat) (x : Value), (u.setCell ⟨w.heap.size, j, none⟩ x).cell? ⟨w2.heap.size, 0, none⟩ = u.cell? ⟨w2.heap.size, 0, none⟩ := fun u j x => World.cell?_setCell_other _ _ _ _ (by intro e; injection e; omega)
  have hq1 : ∀ (u : World) (j : Nat) (x : Value), (u.setCell ⟨w.heap.size, j, none⟩ x).cell? ⟨w2.heap.size, 1, none⟩ = u.cell? ⟨w2.heap.size, 1, none⟩ := fun u j x => World.cell?_setCell_other _ _ _ _ (by intro e; injection e; omega)
  go_region_held3 (fun w' => w'.cell? ⟨w2.heap.size, 0, none⟩ = some (.int .i64 m) ∧ w'.cell? ⟨w2.heap.size, 1, none⟩ = some (.slice B k cap))
    (first | go_keep | (simp only [hq0, hq1]; assumption))
    (first
      | (go_at_call 73; refine (l30Node_any R _ A B n' c' 24 k cap m _ hrW.drew).mono ?_; rintro e w5 ⟨z, rfl, hr5, hg5⟩; have b0 := cell_far hg5 b0 hNR; have b1 := cell_far hg5 b1 hNR; have r5 : RowN w5 w.heap.size 32 2 := RowN.young (w := W.drew) r3 hg5 (by omega); obtain ⟨y0, e0⟩ := r5.cell (i := 0) (by omega); obtain ⟨y1, e1⟩ := r5.cell (i := 1) (by omega); have z0 := r5.frozen 0; have z1 := r5.frozen 1))
  have hp5 : Past w w5 := Below.grown hp3.drew hg5 hp3.size (fun k e => by injection e with e; omega)
  have hx5 := ((hxW.drew.grown hg5 (fun b e => by injection e with e; rw [← e]; exact hBR)).far ⟨w.heap.size, 0, none⟩ (.int .i64 m) hneB).far ⟨w.heap.size, 1, none⟩ (.slice B k cap) hneB
  have hbel := Below.setCell (Below.setCell hp5 (p := ⟨w.heap.size, 0, none⟩) (by simp) (.int .i64 m)) (p := ⟨w.heap.size, 1, none⟩) (by simp) (.slice B k cap)
  clear hg5 hr5
  go_wp2
  exact bodyPost_ret (v := .tuple #[.agg #[.int .i64 m, .slice B k cap], .int .i64 z]) (by simp [results, Try.results91, go_sem, e0, e1]) rfl ⟨m, B, k, cap, xs, z, rfl, hxk, hk, hx5, ⟨hfar, hform⟩, hbel⟩

end Go.Proofs.Ytaojognjkiifmaa
