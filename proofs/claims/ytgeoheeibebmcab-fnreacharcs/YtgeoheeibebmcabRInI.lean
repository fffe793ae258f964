/-
  The nodes that can be reached for no more, as the program goes: impl.ReachIn. No condition.
-/
import Derived.Maps.AppendAt
import Derived.Test.YtgeoheeibebmcabRFarI
import Derived.Test.YtgeoheeibebmcabRInS
namespace Go.Proofs.Ytgeoheeibebmcab
open Go.RowKit

/-- A box of a slice of numbers that a function value appends to. -/
structure AppJ (w : World) (bx B : Nat) (zs : List Int) (W : World) (v : Value) : Prop where
  cell : W.cell? ⟨bx, 0, none⟩ = some v
  free : W.frozen? ⟨bx, 0, none⟩ = false
  res : Res W (bx + 1) v zs
  own : ∀ b, v.ownBlock = some b → B ≤ b
  past : Past w W
  le : w.heap.size ≤ bx
theorem Mid.grown {lo B : Nat} {W W' : World} {row : Option Nat} (h : W.grownBy W' row) (hB : B ≤ W.heap.size) (hr : ∀ b, row = some b → B ≤ b) : Mid lo B W W' :=
  ⟨h.size, fun b _ hb => h.block b (by omega) (fun e => by have := hr b e.symm; omega)⟩

set_option maxRecDepth 100000 in
set_option maxHeartbeats 1000000 in
theorem reachIn1_any (k z : Int) (bx lo B : Nat) (zs : List Int) (w W : World) (v : Value) (h : AppJ w bx B zs W v) (hl : zs.length ≤ 1000) (hB : B ≤ W.heap.size) (hlo : bx < lo) :
    Calls Try.prog 57 #[.int .i64 k, .int .i64 z, .pointer (some ⟨bx, 0, none⟩)] W fun e W' => e = .returned (.tuple #[]) ∧ (∃ v', AppJ w bx B (zs ++ [k]) W' v') ∧ Mid lo B W W' := by
  obtain ⟨i0, hi, hz0, hz1, hz2⟩ := info_parts infoInt
  have c0 := h.cell
  have f0 := h.free
  have hv := h.res
  have ho := h.own
  have hp := h.past
  have hle := h.le
  have hbx : bx < W.heap.size := lt_of_cell c0
  unfold Res at hv
  have hne : v.ownBlock ≠ some bx := fun e => by have := (World.ownsRow.lt hv bx e).1; omega
  go_enter Try.func57, Try.ntmps57
  go_wp2_with (first | (at_builtin; (refine wpList_append_own_at _ rfl _ _ 28 rfl (bx + 1) 3 i0 (.int .i64 0) 1 8 Try.underlying28 hi hz0 hz1 hz2 rfl (by decide) v zs.length (ints zs) rfl (hv.alloc _) ⟨W.heap.size, 0, none⟩ 1 1 [.int .i64 k] rfl rfl (cell_one_new _ _ _) (one_cell _) (by unfold maxLen; omega) (by omega) (by simp; omega) ?_; intro v' w4 hown' hgrow4 hnil4 hat4; obtain ⟨gv, cv, hvf, _, _⟩ := World.ownsRow.form hown' (by omega); subst hvf; have c4 := hgrow4.cell (cell_in ((Past.refl W).alloc _) c0) (fun e => hne e.symm); have f4 := (hgrow4.frozen_far ⟨bx, 0, none⟩ (by simp; omega) (fun e => hne e.symm)).trans (free_in ((Past.refl W).alloc _) c0 f0))))
  go_end0
  have hz4 := hgrow4.size
  simp only [World.size_alloc] at hz4
  have hb4 : ∀ b, (Value.slice (some ⟨gv, 0, none⟩) (zs.length + 1) cv).ownBlock = some b → B ≤ b := fun b e => by
    rcases hat4 with h2 | h2
    · exact ho b (by rw [← h2]; exact e)
    · rw [h2] at e
      injection e with e
      simp only [World.size_alloc] at e
      omega
  have hne' : (Value.slice (some ⟨gv, 0, none⟩) (zs.length + 1) cv).ownBlock ≠ some bx := fun e => by have := (World.ownsRow.lt hown' bx e).1; omega
  refine ⟨rfl, ⟨_, World.cell?_setCell_same w4 ⟨bx, 0, none⟩ _ c4, by rw [← f4]; simp, Res.push (own_far hown' hne' _), hb4, Below.setCell (Past.grown (hp.alloc _) (hv.alloc _) hgrow4 (by omega)) (p := ⟨bx, 0, none⟩) hle _, hle⟩, ?_⟩
  exact ((Mid.of_past ((Past.refl W).alloc _) hB).trans (Mid.grown hgrow4 (by simp; omega) ho)).trans (Mid.set (.inl hlo))

set_option maxRecDepth 100000 in
set_option maxHeartbeats 1000000 in
theorem implReachIn_any (m : Int) (A : Option Addr) (n c : Nat) (xs : List ArcD) (s most : Int) (w : World) (hn : n ≤ 1048576) (hnx : xs.length = n) (hx : ArcsAt w A xs) :
    Calls Try.prog 16 #[.agg #[.int .i64 m, .slice A n c], .int .i64 s, .int .i64 most] w (Gives w (reachI m xs s most)) := by
  have HX := Lib.hid hnx
  clear hnx
  obtain ⟨W0, hW0⟩ : ∃ W0, W0 = w.alloc (.cells #[.int .i64 m, .slice A n c] 25) := ⟨_, rfl⟩
  have hpW : Past w W0 := by rw [hW0]; exact (Past.refl _).alloc _
  have hs0 : W0.heap.size = w.heap.size + 1 := by rw [hW0]; simp
  obtain ⟨W1, hW1⟩ : ∃ W1, W1 = W0.alloc (.cells #[.slice none 0 0] 28) := ⟨_, rfl⟩
  have hs1 : W1.heap.size = w.heap.size + 1 + 1 := by rw [hW1, World.size_alloc, hs0]
  have hJ0 : AppJ W0 (w.heap.size + 1) (w.heap.size + 1 + 1) [] W1 (.slice none 0 0) := by
    have hp : Past W0 W1 := by rw [hW1]; exact (Past.refl _).alloc _
    refine ⟨?_, ?_, Res.nil _ _, (fun b e => by cases e), hp, by omega⟩
    · rw [hW1, ← hs0]; go_simp
    · rw [hW1, ← hs0]; go_simp
  have hpp : Past w W1 := hpW.trans hJ0.past
  have b0 := cell_in (W := W0) (w1 := W1) (p := ⟨w.heap.size, 0, none⟩) (v := .int .i64 m) hJ0.past (by rw [hW0]; go_simp)
  have b1 := cell_in (W := W0) (w1 := W1) (p := ⟨w.heap.size, 1, none⟩) (v := .slice A n c) hJ0.past (by rw [hW0]; go_simp)
  obtain ⟨ds, hds⟩ : ∃ ds, nearI m xs s = ds := ⟨_, rfl⟩
  have hdl : ds.length ≤ 8 := by
    rw [← hds]
    unfold nearI
    split
    · rename_i h
      obtain ⟨M, rfl, _, h8⟩ := here_nat ((hereB_iff _ _ _).1 h).1
      rw [nearL_length]
      simp
      exact h8
    · simp
  have hri : reachI m xs s most = inTo ds most ds.length := by
    rw [← hds]
    unfold reachI nearI
    split
    · rw [nearL_length]
    · rfl
  have HRI := Lib.hid hri
  have HDS := Lib.hid hds
  have HW : Hid (W1 = (w.alloc (.cells #[.int .i64 m, .slice A n c] 25)).alloc (.cells #[.slice none 0 0] 28)) := by rw [Hid, hW1, hW0]
  clear hri hds hW0 hW1
  go_enter Try.func16, Try.ntmps16
  go_wp2_with fail
  rw [← HW.out]
  clear HW
  refine (traverse_any 57 #[.pointer (some ⟨w.heap.size + 1, 0, none⟩)] m A n c xs s most _ (enters_of Try.func57 (by kernel_rfl) rfl) hn HX.out (hx.below hpp) ds HDS.out
    (fun B j W => ∃ v, AppJ W0 (w.heap.size + 1) B (inTo ds most j) W v)
    (fun W hW => ⟨_, cell_in hW hJ0.cell, free_in hW hJ0.cell hJ0.free, Res.nil _ _, (fun b e => by cases e), hJ0.past.trans hW, hJ0.le⟩)
    (fun B j W hW hj hno => by rw [inTo_miss hno]; exact hW)
    (fun B j W h1 h2 hj ⟨v, hv⟩ hyes => (reachIn1_any _ _ _ W1.heap.size B _ W0 W v hv (by have := inTo_len ds most j; omega) h2 (by omega)).mono (by
      rintro e W' ⟨rfl, hJ', hm⟩
      rw [inTo_hit hyes]
      exact ⟨rfl, hJ', hm⟩))).mono ?_
  rintro e w4 ⟨rfl, B, _, _, v4, hJ4⟩
  have c4 := hJ4.cell
  have hp4 := hpW.trans hJ4.past
  go_wp2
  go_ret
  exact ⟨_, rfl, by rw [HRI.out]; exact hJ4.res.lower (by omega), hp4⟩

end Go.Proofs.Ytgeoheeibebmcab
