/-
  DrawReachFar: a net in new memory.
-/
import Derived.Test.YtifbigfkakappaaDrawNetBack
namespace Go.Proofs.Ytifbigfkakappaa
open Go.RowKit

set_option maxRecDepth 100000 in
set_option maxHeartbeats 4000000 in
theorem drawReachFar_any (A : Option Addr) (n c : Nat) (w : World) (hn : n ≤ c) (hc : c ≤ maxLen) (hb : BytesAt w A n) :
    Calls Try.prog 6 #[.slice A n c] w (DrawNetG w) := by
  have hpV : Past w (w.alloc (.cells #[.int .i64 0, .slice none 0 0] 25)) := (Past.refl w).alloc _
  go_enter Try.func6, Try.ntmps6
  go_wp2_with fail
  refine (open_any A n c _ hn hc (hb.below hpV)).mono ?_
  rintro e w1 ⟨R, n', c', rfl, hR, hrd, hb1⟩
  rw [World.size_alloc] at hR
  have hF : RdF w1 R _ A n' c' (26 + 83) := ⟨0, by omega, hrd⟩
  have r0 : RowN w1 w.heap.size 25 2 := by
    have r : RowN (w.alloc (.cells #[.int .i64 0, .slice none 0 0] 25)) w.heap.size 25 2 := ⟨_, heap_alloc_new w _, rfl⟩
    exact r.keep (hb1.block _ r.lt)
  have hp1 := hpV.trans hb1
  clear hrd hb1 hpV
  go_wp2_with fail
  refine (l30AnyNet_any R _ A n' c' 26 w1 hF).mono ?_
  rintro e w2 ⟨m, B, k, cap, xs, rfl, hxk, hk, hxB, hoB, _, hg2⟩
  have hp2 : Past w w2 := Below.grown hp1 hg2 hp1.size (fun k e => by injection e with e; omega)
  have r2 := r0.young hg2 (by omega)
  have hneB : blk B ≠ some w.heap.size := hoB.ne_blk r0.lt
  obtain ⟨y0, e0⟩ := r2.cell (i := 0) (by omega)
  obtain ⟨y1, e1⟩ := r2.cell (i := 1) (by omega)
  have z0 := r2.frozen 0
  have z1 := r2.frozen 1
  have hx5 := (hxB.far ⟨w.heap.size, 0, none⟩ (.int .i64 m) hneB).far ⟨w.heap.size, 1, none⟩ (.slice B k cap) hneB
  have ho5 := ((hoB.lower hp1.size).far ⟨w.heap.size, 0, none⟩ (.int .i64 m)).far ⟨w.heap.size, 1, none⟩ (.slice B k cap)
  have hbel := Below.setCell (Below.setCell hp2 (p := ⟨w.heap.size, 0, none⟩) (by simp) (.int .i64 m)) (p := ⟨w.heap.size, 1, none⟩) (by simp) (.slice B k cap)
  clear hxB hoB hg2 hp1 hF
  go_wp2
  exact bodyPost_ret (v := .agg #[.int .i64 m, .slice B k cap]) (by simp [results, Try.results6, go_sem, e0, e1]) rfl ⟨m, B, k, cap, xs, rfl, hxk, hk, hx5, ho5, hbel⟩

end Go.Proofs.Ytifbigfkakappaa
