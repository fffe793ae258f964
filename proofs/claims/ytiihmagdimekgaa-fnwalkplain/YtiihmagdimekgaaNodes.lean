/-
  The nodes of a walk: spec.l2Nodes, impl's walk.nodes, spec.WalkNodes, impl.WalkNodes. And what is known of a slice of numbers that a call hands back in new memory.
-/
import Derived.Test.YtiihmagdimekgaaCost
import Derived.Test.YtiihmagdimekgaaTo
import Derived.Test.YtiihmagdimekgaaResI
namespace Go.Proofs.Ytiihmagdimekgaa
open Go.RowKit

/-- Where a walk begins, and the ends of its first k arcs. -/
def nodesTo (xs : List ArcD) (ys : List Int) (from_ : Int) (k : Nat) : List Int := from_ :: (List.range k).map fun i => (arcOf xs (numOf ys i)).t
theorem nodesTo_length (xs : List ArcD) (ys : List Int) (f : Int) (k : Nat) : (nodesTo xs ys f k).length = k + 1 := by simp [nodesTo]
theorem nodesTo_next (xs : List ArcD) (ys : List Int) (f : Int) (k : Nat) : nodesTo xs ys f (k + 1) = nodesTo xs ys f k ++ [(arcOf xs (numOf ys k)).t] := by simp [nodesTo, List.range_succ]

set_option maxHeartbeats 1000000 in
theorem l2Nodes_any (m fr : Int) (A B : Option Addr) (n c l cb : Nat) (xs : List ArcD) (ys : List Int) (w : World) (hnx : xs.length = n) (hny : ys.length = l) (hx : ArcsAt w A xs) (hy : IntsAt w B ys) (ho : okB m xs ys = true) :
    Calls Try.prog 61 #[.agg #[.int .i64 m, .slice A n c], .slice B l cb, .int .i64 fr] w fun e w' => ∃ v, e = .returned v ∧ Res w' w.heap.size v (nodesTo xs ys fr l) ∧ Below w.heap.size w w' := by
  have h20 := ok_len ho
  have h16 := ok_num ho
  rw [hny] at h20
  rw [hnx] at h16
  have HX := Lib.hid hnx
  have HY := Lib.hid hny
  have HO := Lib.hid ho
  clear hnx hny ho
  obtain ⟨i0, hi, hz0, hz1, hz2⟩ := info_parts infoInt
  have hb0 : Past w (w.alloc (.cells #[.int .i64 m, .slice A n c] 29)) := (Past.refl _).alloc _
  go_enter Try.func61, Try.ntmps61
  go_wp2
  go_loopw [7, 8] (fun v i wr => ∃ k : Nat, k ≤ l ∧ i = .int .i64 k ∧ Res wr (w.heap.size + 1) v (nodesTo xs ys fr k) ∧ Past (w.alloc (.cells #[.int .i64 m, .slice A n c] 29)) wr) (fun _ i _ => l - (intOf i).toNat)
  case atStart => exact ⟨0, by omega, rfl, by have := Res.one (w.alloc (.cells #[.int .i64 m, .slice A n c] 29)) _ fr (Nat.le_refl _); simpa [nodesTo] using this, (Past.refl _).alloc _⟩
  case round =>
    obtain ⟨k, hk, rfl, hv, hb⟩ := hrel
    have hz := hb.lt
    have b0 := cell_in (p := ⟨w.heap.size, 0, none⟩) (v := .int .i64 m) hb (by go_simp)
    have b1 := cell_in (p := ⟨w.heap.size, 1, none⟩) (v := .slice A n c) hb (by go_simp)
    by_cases hlt : k < l
    · obtain ⟨y, ha⟩ : ∃ a, ys[k]? = some a := ⟨_, List.getElem?_eq_getElem (by have := HY.out; omega)⟩
      obtain ⟨g, o, rfl, c0⟩ := ((hy.below hb0).below hb) k _ ha
      obtain ⟨j, ⟨f, t, c', l', d⟩, rfl, hj, q0, q1, he⟩ := ok_arc HO.out ha
      obtain ⟨g', o', rfl, d0, d1, d2, d3, d4⟩ := ((hx.below hb0).below hb) j _ hj
      have hjn : j < n := by rw [← HX.out]; exact (List.getElem?_eq_some_iff.1 hj).1
      have HE := Lib.hid he
      have HA := Lib.hid ha
      have HJ := Lib.hid hj
      clear ha hj he q0 q1
      have i0' : (0 : Int) ≤ (k : Int) := by omega
      have i1 : (k : Int) < (l : Int) := by omega
      have j0 : (0 : Int) ≤ (j : Int) := by omega
      have j1 : (j : Int) < (n : Int) := by omega
      have lg : g < w.heap.size := by
        obtain ⟨g1, o1, e, h⟩ := hy k _ HA.out
        injection e with e
        injection e with e1 e2
        subst e1
        exact lt_of_cell h
      have lg' : g' < w.heap.size := by
        obtain ⟨g1, o1, e, h⟩ := hx j _ HJ.out
        injection e with e
        injection e with e1 e2
        subst e1
        exact h.lt
      have hlo := fun b hb => (World.ownsRow.lt hv b hb).1
      have ag : u7.ownBlock ≠ some g := fun e => by have := hlo _ e; omega
      have ag' : u7.ownBlock ≠ some g' := fun e => by have := hlo _ e; omega
      have aw : u7.ownBlock ≠ some w.heap.size := fun e => by have := hlo _ e; omega
      have hkl := nodesTo_length xs ys fr k
      unfold Res at hv
      rw [hkl] at hv
      clear hkl hlo
      go_wp2_with fail
      go_region_held3 (fun w' => w'.cell? ⟨w.heap.size, 1, none⟩ = some (.slice (some ⟨g', o', none⟩) n c) ∧ w'.cell? ⟨g, o + k, none⟩ = some (.int .i64 j) ∧ w'.cell? ⟨g', o' + j * 5 + 1, none⟩ = some (.int .i64 t))
        (first
          | go_keep
          | (go_split_ands
             refine ⟨?_, ?_, ?_⟩
             · (rw [hgrow.cell_far _ (by simp; omega) (Ne.symm aw)]; assumption)
             · (rw [hgrow.cell_far _ (by simp; omega) (Ne.symm ag)]; assumption)
             · (rw [hgrow.cell_far _ (by simp; omega) (Ne.symm ag')]; assumption)))
        ((refine step_append_lies _ (by rfl) _ _ _ (by rfl) (w.heap.size + 1) 3 i0 _ 1 8 Try.underlying33 hi hz0 hz1 hz2 rfl (by omega) u7 (k + 1) (ints (nodesTo xs ys fr k)) (by rfl) ((hv.alloc _).drew) ⟨wr.heap.size, 0, none⟩ 1 1 [.int .i64 t] (by rfl) (by rfl) (World.news_of_block (cs := #[.int .i64 t]) (t := 3) (fr := (0, 0)) (heap_alloc_new wr _)) (one_cell t) (by omega) (by unfold maxLen; omega) (by omega) (by simp; omega) (wr.heap.size + 1) (by simp) ?_; intro gg cap w1 hown1 hgrow hat hlt'))
      go_wp2
      go_roundw
      case rel => exact ⟨k + 1, by omega, by go_num, Res.step hown1 (nodesTo_length ..) (by rw [nodesTo_next, HE.out]), Past.grown (a := w.alloc (.cells #[.int .i64 m, .slice (some ⟨g', o', none⟩) n c] 29)) (hb.alloc _).drew ((hv.alloc _).drew) hgrow (by simp)⟩
      case measure => simp [intOf]; omega
    · obtain rfl : l = k := by omega
      go_wp2
      go_ret
      exact ⟨_, rfl, hv.lower (by omega), hb0.trans hb⟩

end Go.Proofs.Ytiihmagdimekgaa
