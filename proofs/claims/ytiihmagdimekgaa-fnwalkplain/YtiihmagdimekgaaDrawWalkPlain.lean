/-
  DrawWalkPlain: what DrawWalkOk draws.
-/
import Derived.Test.YtiihmagdimekgaaDraw7
namespace Go.Proofs.Ytiihmagdimekgaa
open Go.RowKit

set_option maxRecDepth 100000 in
set_option maxHeartbeats 4000000 in
theorem drawWalkPlain_any (A : Option Addr) (n c : Nat) (w : World) (hn : n ≤ c) (hc : c ≤ maxLen) (hb : BytesAt w A n) :
    Calls Try.prog 44 #[.slice A n c] w (DrawG w) := by
  have hpV : Past w (w.alloc (.cells #[.int .i64 0, .slice none 0 0] 29)) := (Past.refl w).alloc _
  go_enter Try.func44, Try.ntmps44
  go_wp2_with fail
  refine (drawWalkOk_any A n c _ hn hc (hb.below hpV)).mono ?_
  rintro e w1 ⟨m, B, k, cap, xs, v5, zs, rfl, hxk, hk, hx1, hfar, hzl, hv5, hb1⟩
  have r0 : RowN w1 w.heap.size 29 2 := by
    have r : RowN (w.alloc (.cells #[.int .i64 0, .slice none 0 0] 29)) w.heap.size 29 2 := ⟨_, heap_alloc_new w _, rfl⟩
    exact r.keep (hb1.block _ r.lt)
  have hp1 : Past w w1 := hpV.trans hb1
  obtain ⟨y0, e0⟩ := r0.cell (i := 0) (by omega)
  obtain ⟨y1, e1⟩ := r0.cell (i := 1) (by omega)
  have z0 := r0.frozen 0
  have z1 := r0.frozen 1
  rw [World.size_alloc] at hfar hv5
  have hneB := hfar w.heap.size (by omega)
  have hsW : w.heap.size < w.heap.size + 1 := by omega
  have hnv : v5.ownBlock ≠ some w.heap.size := fun e => own_ne hv5 (g := w.heap.size) hsW e.symm
  have hres : Res ((w1.setCell ⟨w.heap.size, 0, none⟩ (.int .i64 m)).setCell ⟨w.heap.size, 1, none⟩ (.slice B k cap)) w.heap.size v5 zs := Res.lower (own_far (own_far hv5 hnv _) hnv _) (Nat.le_of_lt hsW)
  have hx5 := (hx1.far ⟨w.heap.size, 0, none⟩ (.int .i64 m) hneB).far ⟨w.heap.size, 1, none⟩ (.slice B k cap) hneB
  have hbel := Below.setCell (Below.setCell hp1 (p := ⟨w.heap.size, 0, none⟩) (by simp) (.int .i64 m)) (p := ⟨w.heap.size, 1, none⟩) (by simp) (.slice B k cap)
  have hfar' : ∀ g, g < w.heap.size → blk B ≠ some g := fun g hg => hfar g (by omega)
  clear hv5 hb1 hx1 hfar hpV r0 hp1
  go_wp2
  exact bodyPost_ret (v := .tuple #[.agg #[.int .i64 m, .slice B k cap], v5]) (by simp [results, Try.results44, go_sem, e0, e1]) rfl ⟨m, B, k, cap, xs, v5, zs, rfl, hxk, hk, hx5, hfar', hzl, hres, hbel⟩

end Go.Proofs.Ytiihmagdimekgaa
