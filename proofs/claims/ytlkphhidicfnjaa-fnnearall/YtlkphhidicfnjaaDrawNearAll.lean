/-
  spec.DrawNearAll: a net and a number are drawn. No condition.
-/
import Derived.Test.YtlkphhidicfnjaaDrawNetOut
namespace Go.Proofs.Ytlkphhidicfnjaa
open Go.RowKit

set_option maxRecDepth 100000 in
set_option maxHeartbeats 4000000 in
theorem drawNearAll_any (A : Option Addr) (n c : Nat) (w : World) (hn : n ≤ c) (hc : c ≤ maxLen) (hb : BytesAt w A n) :
    Calls Try.prog 12 #[.slice A n c] w (DrawNodeG w) := by
  have hpV : Past w (w.alloc (.cells #[.int .i64 0, .slice none 0 0] 25)) := (Past.refl w).alloc _
  go_enter Try.func12, Try.ntmps12
  go_wp2_with fail
  refine (drawNetOut_any A n c _ hn hc (hb.below hpV)).mono ?_
  rintro e w1 ⟨m, B, k, cap, xs, z, rfl, hxk, hk, hx1, ⟨hfar, hform⟩, hb1⟩
  have r0 : RowN w1 w.heap.size 25 2 := by
    have r : RowN (w.alloc (.cells #[.int .i64 0, .slice none 0 0] 25)) w.heap.size 25 2 := ⟨_, heap_alloc_new w _, rfl⟩
    exact r.keep (hb1.block _ r.lt)
  have hp1 : Past w w1 := hpV.trans hb1
  obtain ⟨y0, e0⟩ := r0.cell (i := 0) (by omega)
  obtain ⟨y1, e1⟩ := r0.cell (i := 1) (by omega)
  have z0 := r0.frozen 0
  have z1 := r0.frozen 1
  rw [World.size_alloc] at hfar
  have hneB := hfar w.heap.size (by omega)
  have hx5 := (hx1.far ⟨w.heap.size, 0, none⟩ (.int .i64 m) hneB).far ⟨w.heap.size, 1, none⟩ (.slice B k cap) hneB
  have hbel := Below.setCell (Below.setCell hp1 (p := ⟨w.heap.size, 0, none⟩) (by simp) (.int .i64 m)) (p := ⟨w.heap.size, 1, none⟩) (by simp) (.slice B k cap)
  have hfar' : ∀ g, g < w.heap.size → blk B ≠ some g := fun g hg => hfar g (by omega)
  clear hb1 hx1 hfar hpV r0 hp1
  go_wp2
  exact bodyPost_ret (v := .tuple #[.agg #[.int .i64 m, .slice B k cap], .int .i64 z]) (by simp [results, Try.results12, go_sem, e0, e1]) rfl ⟨m, B, k, cap, xs, z, rfl, hxk, hk, hx5, ⟨hfar', hform⟩, hbel⟩

end Go.Proofs.Ytlkphhidicfnjaa
