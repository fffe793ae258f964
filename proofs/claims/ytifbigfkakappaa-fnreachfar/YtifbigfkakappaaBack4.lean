/-
  A net turned round: impl.NetBack, also of a net whose arcs are nil.
-/
import Derived.Test.YtifbigfkakappaaBack3
namespace Go.Proofs.Ytifbigfkakappaa
open Go.RowKit

theorem clone_nil (c : Nat) (w : World) : Calls Try.prog 33 #[.slice none 0 c] w (GivesArcs w []) := by
  have heq := fun u : World => Lib.run_eql_slice_nil (P := Try.prog) u 23 57 none 0 c 0 0 Try.underlying23
  simp only [Option.isNone_none] at heq
  go_enter Try.func33, Try.ntmps33
  go_wp2
  go_ret
  exact ⟨_, rfl, by unfold ResA; exact ⟨rfl, .inl ⟨rfl, rfl⟩⟩, Below.refl _ _⟩

set_option maxHeartbeats 1000000 in
theorem implNetBack_nil (m : Int) (c : Nat) (w : World) :
    Calls Try.prog 10 #[.agg #[.int .i64 m, .slice none 0 c]] w (GivesNet w (backN m []) (backL m [])) := by
  have hx : ArcsAt w none [] := fun k a hk => by simp at hk
  have hb0 : Past w ((w.alloc (.cells #[.int .i64 m, .slice none 0 c] 25)).alloc (.cells #[.int .i64 0, .slice none 0 0] 25)) := ((Past.refl _).alloc _).alloc _
  go_enter Try.func10, Try.ntmps10
  go_wp2_with fail
  refine (implNetOk_any m _ 0 c [] _ (by omega) rfl (hx.below hb0)).mono ?_
  rintro e w1 ⟨rfl, hb1⟩
  have b0 := cell_in (p := ⟨w.heap.size, 0, none⟩) (v := .int .i64 m) hb1 (by go_simp)
  have b1 := cell_in (p := ⟨w.heap.size, 1, none⟩) (v := .slice none 0 c) hb1 (by go_simp)
  have e0 := cell_in (p := ⟨w.heap.size + 1, 0, none⟩) (v := .int .i64 0) hb1 (by go_simp)
  have e1 := cell_in (p := ⟨w.heap.size + 1, 1, none⟩) (v := .slice none 0 0) hb1 (by go_simp)
  have z0 := free_in (p := ⟨w.heap.size + 1, 0, none⟩) (v := .int .i64 0) hb1 (by go_simp) (by go_simp)
  have z1 := free_in (p := ⟨w.heap.size + 1, 1, none⟩) (v := .slice none 0 0) hb1 (by go_simp) (by go_simp)
  cases hB : netB m [] with
  | false =>
    have HB := Lib.hid hB
    clear hB
    go_wp2
    exact bodyPost_ret (v := .agg #[.int .i64 0, .slice none 0 0]) (by simp [results, Try.results10, go_sem, e0, e1]) rfl
      ⟨none, 0, by simp [backN, backL, HB.out], by simp only [backL, HB.out, Bool.false_eq_true, if_false]; exact fun k a hk => by simp at hk, by simp only [backL, HB.out, Bool.false_eq_true, if_false]; exact .inl ⟨rfl, rfl⟩, Below.setCell (Below.setCell (bel_trans hb0 hb1) (by simp) _) (by simp) _⟩
  | true =>
    have HB := Lib.hid hB
    clear hB
    have nb0 := World.new_ne w1 _ b0
    have nb1 := World.new_ne w1 _ b1
    go_upto_region 3 with (fail)
    go_cut [3] (BackCut w1 m 0 [])
    case first =>
      go_region_held3 (fun w' => w'.cell? ⟨w.heap.size, 0, none⟩ = some (.int .i64 m) ∧ w'.cell? ⟨w.heap.size, 1, none⟩ = some (.slice none 0 c)) (go_keep)
        (first
          | (go_at_call 33; refine (clone_nil c _).mono ?_; rintro e w2 ⟨v, rfl, hv, hb2⟩; obtain ⟨A2, c2, rfl, hx2, ho2⟩ := hv.formN (n := 0) rfl; have b0 := cell_in hb2 b0; have b1 := cell_in hb2 b1)
          | (go_at_call 33; refine (clone_nil c _).mono ?_; rintro e w2 ⟨v, rfl, hv, hb2⟩; obtain ⟨A2, c2, rfl, hx2, ho2⟩ := hv.formN (n := 0) rfl; have b0 := cell_in hb2 (cell_in ((Past.refl w1).alloc (.cells #[.int .i64 0, .slice none 0 0] 25)).drew b0); have b1 := cell_in hb2 (cell_in ((Past.refl w1).alloc (.cells #[.int .i64 0, .slice none 0 0] 25)).drew b1); have p0 := cell_in (p := ⟨w1.heap.size, 0, none⟩) (v := .int .i64 0) hb2 (by go_simp); have p1 := cell_in (p := ⟨w1.heap.size, 1, none⟩) (v := .slice none 0 0) hb2 (by go_simp); have y0 := free_in (p := ⟨w1.heap.size, 0, none⟩) (v := .int .i64 0) hb2 (by go_simp) (by go_simp); have y1 := free_in (p := ⟨w1.heap.size, 1, none⟩) (v := .slice none 0 0) hb2 (by go_simp) (by go_simp)))
      all_goals go_wp2_with fail
      all_goals go_meet
      · have hb12 : Past w1 w2 := (Past.refl w1).drew.trans hb2
        exact ⟨w2.heap.size, A2, c2, rfl, hb2.size, ⟨_, heap_alloc_new w2 _, rfl⟩, by go_simp, by go_simp, hx2.below ((Past.refl w2).alloc _), OwnAt.keep ho2 (grown_of_below ((Past.refl w2).alloc _) none) (by simp), ho2.ne_new, hb12.alloc _⟩
      · have hbA : Past w1 (w1.alloc (.cells #[.int .i64 0, .slice none 0 0] 25)).drew := ((Past.refl w1).alloc _).drew
        have hb12 : Past w1 w2 := hbA.trans hb2
        have hr : RowN w2 w1.heap.size 25 2 := RowN.keep (w := (w1.alloc (.cells #[.int .i64 0, .slice none 0 0] 25)).drew) ⟨_, heap_alloc_new w1 _, rfl⟩ (hb2.block _ (by simp))
        have hne : blk A2 ≠ some w1.heap.size := ho2.ne_blk (by simp)
        refine ⟨w1.heap.size, A2, c2, rfl, Nat.le_refl _, (hr.set _ _).set _ _, ?_, ?_, (hx2.far _ _ hne).far _ _ hne, ((ho2.lower (by simp)).far _ _).far _ _, hne, Below.setCell (Below.setCell hb12 (by simp) _) (by simp) _⟩
        · exact (World.cell?_setCell_other _ _ _ _ (by simp)).trans (World.cell?_setCell_same _ _ _ p0)
        · exact World.cell?_setCell_same _ _ _ ((World.cell?_setCell_other _ _ _ _ (by simp)).trans p1)
    case rest =>
      obtain ⟨p, A2, c2, rfl, hp, hrp, q0, q1, hx2, ho2, hne, hb12⟩ := hcut
      have sw : w.heap.size + 1 < w1.heap.size := lt_of_cell e0
      have b0 := cell_in hb12 b0
      have b1 := cell_in hb12 b1
      have r1 : RowN wc (w.heap.size + 1) 25 2 := by
        refine RowN.keep (w := w1) (RowN.keep (w := ((w.alloc (.cells #[.int .i64 m, .slice none 0 c] 25)).alloc (.cells #[.int .i64 0, .slice none 0 0] 25))) ⟨#[.int .i64 0, .slice none 0 0], ?_, rfl⟩ (hb1.block _ (by simp))) (hb12.block _ sw)
        have := heap_alloc_new (w.alloc (.cells #[.int .i64 m, .slice none 0 c] 25)) (.cells #[.int .i64 0, .slice none 0 0] 25)
        simpa using this
      have hb0c : Past w wc := hb0.trans (Past.trans hb1 hb12)
      clear e0 e1 z0 z1 nb0 nb1
      obtain ⟨x0, e0⟩ := r1.cell (i := 0) (by omega)
      obtain ⟨x1, e1⟩ := r1.cell (i := 1) (by omega)
      have z0 := r1.frozen 0
      have z1 := r1.frozen 1
      have hne2 : blk A2 ≠ some (w.heap.size + 1) := ho2.ne_blk sw
      go_wp2
      go_loop [19] (fun q => q = .int .i64 0) (fun _ => 0)
      case atStart => rfl
      case round =>
        subst hrel
        go_wp2
        exact bodyPost_ret (v := .agg #[.int .i64 m, .slice A2 0 c2]) (by simp [results, Try.results10, go_sem, e0, e1]) rfl
          ⟨A2, c2, by simp [backN, backL, HB.out], by rw [backL, if_pos HB.out]; exact fun k a hk => by simp at hk, by rw [backL, if_pos HB.out, List.length_map]; exact ((ho2.lower (by omega)).far _ _).far _ _, Below.setCell (Below.setCell hb0c (by simp) _) (by simp) _⟩

theorem implNetBack_all (m : Int) (A : Option Addr) (n c : Nat) (xs : List ArcD) (w : World) (hn : n ≤ 1048576) (hl : xs.length = n) (hx : ArcsAt w A xs) (ho : (A = none ∧ n = 0) ∨ ∃ g o, A = some ⟨g, o, none⟩) :
    Calls Try.prog 10 #[.agg #[.int .i64 m, .slice A n c]] w (GivesNet w (backN m xs) (backL m xs)) := by
  rcases ho with ⟨rfl, rfl⟩ | ⟨g, o, rfl⟩
  · obtain rfl : xs = [] := List.eq_nil_of_length_eq_zero hl
    exact implNetBack_nil m c w
  · exact implNetBack_any m g o n c xs w hn hl hx

end Go.Proofs.Ytifbigfkakappaa
