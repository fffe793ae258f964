/-
  The nodes of a walk: impl's walk.nodes, spec.WalkNodes, impl.WalkNodes.
-/
import Derived.Test.YtokljfeoignbcaaNodes
namespace Go.Proofs.Ytokljfeoignbcaa
open Go.RowKit

/-- The nodes of a walk that has an arc. -/
def nodesW (xs : List ArcD) (ys : List Int) : List Int := if ys.length = 0 then [] else nodesTo xs ys (arcOf xs (numOf ys 0)).f ys.length
def nodesI (m : Int) (xs : List ArcD) (ys : List Int) : List Int := if okB m xs ys then nodesW xs ys else []

theorem nodesI_len (m : Int) (xs : List ArcD) (ys : List Int) : (nodesI m xs ys).length ≤ 1048576 := by
  unfold nodesI
  split
  · rename_i h
    have := ok_len h
    unfold nodesW
    split
    · simp
    · rw [nodesTo_length]; omega
  · simp

set_option maxRecDepth 100000 in
set_option maxHeartbeats 1000000 in
theorem walkNodes_any (m : Int) (A B : Option Addr) (n c l cb : Nat) (xs : List ArcD) (ys : List Int) (w : World) (hnx : xs.length = n) (hny : ys.length = l) (hx : ArcsAt w A xs) (hy : IntsAt w B ys) (ho : okB m xs ys = true) :
    Calls Try.prog 87 #[.agg #[.int .i64 m, .slice A n c, .slice B l cb]] w (Gives w (nodesW xs ys)) := by
  have h20 := ok_len ho
  have h16 := ok_num ho
  rw [hny] at h20
  rw [hnx] at h16
  have HX := Lib.hid hnx
  have HY := Lib.hid hny
  have HO := Lib.hid ho
  clear hnx hny ho
  obtain ⟨i0, hi, hz0, hz1, hz2⟩ := info_parts infoInt
  have hb0 : Past w (w.alloc (.cells #[.int .i64 m, .slice A n c, .slice B l cb] 75)) := (Past.refl _).alloc _
  by_cases hl0 : l = 0
  · have HZ := Lib.hid hl0
    have hl0' : ((l : Int) == 0) = true := by simp; omega
    clear hl0
    go_enter Try.func87, Try.ntmps87
    go_wp2
    go_ret
    exact ⟨_, rfl, by rw [nodesW, if_pos (by rw [HY.out, HZ.out])]; exact Res.nil _ _, hb0⟩
  have hl0' : ((l : Int) == 0) = false := by simp; omega
  obtain ⟨y0, ha0⟩ : ∃ a, ys[0]? = some a := ⟨_, List.getElem?_eq_getElem (by have := HY.out; omega)⟩
  obtain ⟨g, o, rfl, c0⟩ := hy 0 _ ha0
  obtain ⟨j0, ⟨f0, t0, c0', l0', d0'⟩, rfl, hj0, _, _, he0⟩ := ok_arc HO.out ha0
  obtain ⟨g', o', rfl, d0, d1, d2, d3, d4⟩ := hx j0 _ hj0
  have hjn0 : j0 < n := by rw [← HX.out]; exact (List.getElem?_eq_some_iff.1 hj0).1
  have HE0 := Lib.hid he0
  have lg : g < w.heap.size := lt_of_cell c0
  have lg' : g' < w.heap.size := lt_of_cell d0
  simp only [Nat.add_zero] at c0
  clear ha0 hj0 he0 d1 d2 d3 d4
  have r0 : (0 : Int) < (l : Int) := by omega
  have r0n : 0 < l := by omega
  have r1 : (0 : Int) ≤ (j0 : Int) := by omega
  have r2 : (j0 : Int) < (n : Int) := by omega
  have HW : Hid (nodesW xs ys = nodesTo xs ys f0 l) := by rw [Hid, nodesW, if_neg (by rw [HY.out]; exact hl0), HE0.out, HY.out]
  go_enter Try.func87, Try.ntmps87
  obtain ⟨W, hW⟩ : ∃ W, W = w.alloc (.cells #[.int .i64 m, .slice (some ⟨g', o', none⟩) n c, .slice (some ⟨g, o, none⟩) l cb] 75) := ⟨_, rfl⟩
  go_wp2_with fail
  rw [← hW]
  rw [← hW] at hb0
  have hzW : w.heap.size + 1 ≤ W.heap.size := by rw [hW]; simp
  have hzL : w.heap.size < W.heap.size := hzW
  have hzE : W.heap.size ≤ w.heap.size + 1 := by rw [hW]; simp
  have b0 : W.cell? ⟨w.heap.size, 0, none⟩ = some (.int .i64 m) := by rw [hW]; go_simp
  have b1 : W.cell? ⟨w.heap.size, 1, none⟩ = some (.slice (some ⟨g', o', none⟩) n c) := by rw [hW]; go_simp
  have b2 : W.cell? ⟨w.heap.size, 2, none⟩ = some (.slice (some ⟨g, o, none⟩) l cb) := by rw [hW]; go_simp
  have c0 := cell_in hb0 c0
  have d0 := cell_in hb0 d0
  clear hW
  go_still_tail 10, (by kernel_rfl)
  change wpList _ _ _ _ _ W.drew
  clear c0 d0
  go_wp2
  go_loopw [3, 24] (fun v i wr => ∃ k : Nat, k ≤ l ∧ i = .int .i64 k ∧ Res wr (w.heap.size + 1) v (nodesTo xs ys f0 k) ∧ Past W wr) (fun _ i _ => l - (intOf i).toNat)
  case atStart => exact ⟨0, by omega, rfl, by have := (Res.one W (w.heap.size + 1) f0 hzW).drew; simpa [nodesTo] using this, ((Past.refl _).alloc _).drew⟩
  case round =>
    obtain ⟨k, hk, rfl, hv, hb⟩ := hrel
    have hz : w.heap.size < wr.heap.size := Nat.le_trans hzW hb.size
    have b0 := cell_in hb b0
    have b1 := cell_in hb b1
    have b2 := cell_in hb b2
    by_cases hlt : k < l
    · obtain ⟨y, ha⟩ : ∃ a, ys[k]? = some a := ⟨_, List.getElem?_eq_getElem (by have := HY.out; omega)⟩
      obtain ⟨g1, o1, eg, c0⟩ := ((hy.below hb0).below hb) k _ ha
      injection eg with eg
      injection eg with eg1 eg2
      subst eg1 eg2
      obtain ⟨j, ⟨f, t, c', l', d⟩, rfl, hj, q0, q1, he⟩ := ok_arc HO.out ha
      obtain ⟨g1, o1, eg, d0, d1, d2, d3, d4⟩ := ((hx.below hb0).below hb) j _ hj
      injection eg with eg
      injection eg with eg1 eg2
      subst eg1 eg2
      have hjn : j < n := by rw [← HX.out]; exact (List.getElem?_eq_some_iff.1 hj).1
      have HE := Lib.hid he
      clear ha hj he q0 q1
      have i0' : (0 : Int) ≤ (k : Int) := by omega
      have i1 : (k : Int) < (l : Int) := by omega
      have j0 : (0 : Int) ≤ (j : Int) := by omega
      have j1 : (j : Int) < (n : Int) := by omega
      have hkl := nodesTo_length xs ys f0 k
      unfold Res at hv
      rw [hkl] at hv
      clear hkl
      go_wp2_with (first | (at_builtin; refine wpList_append_own _ rfl _ _ 26 rfl (w.heap.size + 1) 3 i0 (.int .i64 0) 1 8 Try.underlying26 hi hz0 hz1 hz2 rfl (by decide) _ _ _ rfl (hv.alloc _) ⟨wr.heap.size, 0, none⟩ 1 1 [.int .i64 t] rfl rfl (cell_one_new _ _ _) (one_cell t) (by unfold maxLen; omega) (by omega) (by simp; omega) ?_; intro v' w3 hown' hgrow3 hnil3))
      go_roundw
      case rel => exact ⟨k + 1, by omega, by go_num, Res.step hown' (nodesTo_length ..) (by rw [nodesTo_next, HE.out]), Past.grown (hb.alloc _) (hv.alloc _) hgrow3 hzE⟩
      case measure => simp [intOf]; omega
    · obtain rfl : l = k := by omega
      go_wp2
      go_ret
      exact ⟨_, rfl, by rw [HW.out]; exact hv.lower (by omega), hb0.trans hb⟩


end Go.Proofs.Ytokljfeoignbcaa
