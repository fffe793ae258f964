/-
  spec.DrawSomeShare: a net and two lists of numbers, in new memory. No condition.
-/
import Derived.Test.YtgeoheeibebmcabDrawWalkJoin
namespace Go.Proofs.Ytgeoheeibebmcab
open Go.RowKit

set_option maxRecDepth 100000 in
set_option maxHeartbeats 4000000 in
theorem drawSomeShare_any (A : Option Addr) (n c : Nat) (w : World) (hn : n ≤ c) (hc : c ≤ maxLen) (hb : BytesAt w A n) :
    Calls Try.prog 42 #[.slice A n c] w (JoinG w) := by
  have hpV : Past w (w.alloc (.cells #[.int .i64 0, .slice none 0 0] 25)) := (Past.refl w).alloc _
  go_enter Try.func42, Try.ntmps42
  go_wp2_with fail
  refine (open_any A n c _ hn hc (hb.below hpV)).mono ?_
  rintro e w1 ⟨R, n', c', rfl, hR, hrd, hb1⟩
  rw [World.size_alloc] at hR
  have hF : RdF w1 R _ A n' c' (53 + 83) := ⟨0, by omega, hrd⟩
  have r0 : RowN w1 w.heap.size 25 2 := by
    have r : RowN (w.alloc (.cells #[.int .i64 0, .slice none 0 0] 25)) w.heap.size 25 2 := ⟨_, heap_alloc_new w _, rfl⟩
    exact r.keep (hb1.block _ r.lt)
  have hp1 := hpV.trans hb1
  have hR1 := hF.at_
  clear hrd hb1 hpV
  go_wp2_with fail
  refine (l30AnyNet_any R _ A n' c' 53 w1 hF).mono ?_
  rintro e w2 ⟨m, B, k, cap, xs, rfl, hxk, hk, hxB, hoB, hr2, hg2⟩
  have HX := Lib.hid hxk
  have hp2 : Past w w2 := Below.grown hp1 hg2 hp1.size (fun k e => by injection e with e; omega)
  have r2 := r0.young hg2 (by omega)
  have hBR : blk B ≠ some R := hoB.ne_blk hR1
  have hneB : blk B ≠ some w.heap.size := hoB.ne_blk (by omega)
  have s12 := hg2.size
  obtain ⟨W, hW⟩ : ∃ W, W = w2.alloc (.cells #[.int .i64 m, .slice B k cap] 25) := ⟨_, rfl⟩
  have hpW : Past w2 W := by rw [hW]; exact (Past.refl w2).alloc _
  have b0 : W.cell? ⟨w2.heap.size, 0, none⟩ = some (.int .i64 m) := by rw [hW]; go_simp
  have b1 : W.cell? ⟨w2.heap.size, 1, none⟩ = some (.slice B k cap) := by rw [hW]; go_simp
  have hWs : W.heap.size = w2.heap.size + 1 := by rw [hW]; simp
  have hxW := hxB.below hpW
  have hrW := hr2.below hpW
  have r3 := r2.keep (hpW.block _ r2.lt)
  have hp3 := hp2.trans hpW
  have hs2 : w.heap.size < w2.heap.size := r2.lt
  have hNR : w2.heap.size ≠ R := by omega
  have hq0 : ∀ (u : World) (j : Nat) (x : Value), (u.setCell ⟨w.heap.size, j, none⟩ x).cell? ⟨w2.heap.size, 0, none⟩ = u.cell? ⟨w2.heap.size, 0, none⟩ := fun u j x => World.cell?_setCell_other _ _ _ _ (by intro e; injection e; omega)
  have hq1 : ∀ (u : World) (j : Nat) (x : Value), (u.setCell ⟨w.heap.size, j, none⟩ x).cell? ⟨w2.heap.size, 1, none⟩ = u.cell? ⟨w2.heap.size, 1, none⟩ := fun u j x => World.cell?_setCell_other _ _ _ _ (by intro e; injection e; omega)
  go_wp2_with fail
  rw [← hW]
  refine (l30AnyWalk_any R _ A B n' c' 27 k cap m xs W hrW hk HX.out hxW hBR).mono ?_
  rintro e w3 ⟨va, za, rfl, hal, hva, hr3, hg3, hna⟩
  have b0 := cell_far hg3 b0 hNR
  have b1 := cell_far hg3 b1 hNR
  have r3 := r3.young hg3 (by omega)
  have hx3 := hxW.grown hg3 (fun b e => by injection e with e; rw [← e]; exact hBR)
  have hp3 : Past w w3 := Below.grown hp3 hg3 hp3.size (fun k e => by injection e with e; omega)
  have hRW : w.heap.size ≤ R ∧ R < W.heap.size := by omega
  have hwW : w.heap.size < W.heap.size := by omega
  have hs3 := hg3.size
  obtain ⟨ga, ca, rfl, ha3, hac, hcma⟩ := hna.form hva
  obtain ⟨la, hla⟩ : ∃ L, L = za.length := ⟨_, rfl⟩
  rw [← hla] at hal hac hva ⊢
  have HA : Hid (za.length ≤ 22) := by rw [Hid, ← hla]; exact hal
  have HL := Lib.hid hla.symm
  have hv3 : Res w3 W.heap.size (.slice (some ⟨ga, 0, none⟩) la ca) za := hva
  have HXX := Lib.hid hx3
  clear hW hoB hr2 hg2 hxB r0 hF hrW hxW hg3 hpW hxk hva hna hla hcma HXX
  have hrW := hr3.less (f' := 26) (by omega)
  have hxW := hx3
  clear hr3 hx3
  go_upto_region 4 with (fail)
  go_region_held3 (fun w' => w'.cell? ⟨w2.heap.size, 0, none⟩ = some (.int .i64 m) ∧ w'.cell? ⟨w2.heap.size, 1, none⟩ = some (.slice B k cap))
    (first | go_keep | (simp only [hq0, hq1]; assumption))
    (first
      | (go_at_call 87; refine (l30AnyWalk_any R _ A B n' c' 0 k cap m xs _ hrW.drew hk HX.out hxW.drew hBR).mono ?_; rintro e w5 ⟨v5, zs, rfl, hzl, hv5, hr5, hg5, hn5⟩; have b0 := cell_far hg5 b0 hNR; have b1 := cell_far hg5 b1 hNR; have r5 : RowN w5 w.heap.size 25 2 := RowN.young (w := w3.drew) r3 hg5 (by omega); obtain ⟨y0, e0⟩ := r5.cell (i := 0) (by omega); obtain ⟨y1, e1⟩ := r5.cell (i := 1) (by omega); have z0 := r5.frozen 0; have z1 := r5.frozen 1))
  have hres := drawn_end hp3 hg5 hv3 hv5 hxW hBR hneB hRW hwW hs3 m B k cap
  clear hv5 hg5 hr5
  go_wp2
  exact bodyPost_ret (v := .tuple #[.agg #[.int .i64 m, .slice B k cap], .slice (some ⟨ga, 0, none⟩) la ca, v5]) (by simp [results, Try.results42, go_sem, e0, e1]) rfl ⟨m, B, k, cap, xs, _, za, v5, zs, rfl, HX.out, hk, hres.1, HA.out, hres.2.1, by simp [NN], hzl, hres.2.2.1, hn5, hres.2.2.2⟩

end Go.Proofs.Ytgeoheeibebmcab
