/-
  A net turned round: impl.NetBack.
-/
import Derived.Test.YtifbigfkakappaaBack2
import Derived.Test.YtifbigfkakappaaMark
import Derived.Deep.DeepCutAuto
namespace Go.Proofs.Ytifbigfkakappaa
open Go.RowKit

/-- What stands behind 'back := Net{..}': a block with the net, its arcs copied into new memory. -/
def BackCut (w1 : World) (m : Int) (n : Nat) (xs : List ArcD) (s3 : Value) (wx : World) : Prop :=
  ∃ (p : Nat) (A : Option Addr) (c : Nat), s3 = .pointer (some ⟨p, 0, none⟩) ∧ w1.heap.size ≤ p ∧ RowN wx p 25 2 ∧ wx.cell? ⟨p, 0, none⟩ = some (.int .i64 m) ∧ wx.cell? ⟨p, 1, none⟩ = some (.slice A n c) ∧
    ArcsAt wx A xs ∧ OwnAt wx w1.heap.size A 57 5 n ∧ blk A ≠ some p ∧ Past w1 wx

set_option maxHeartbeats 1000000 in
theorem implNetBack_any (m : Int) (g o n c : Nat) (xs : List ArcD) (w : World) (hn : n ≤ 1048576) (hl : xs.length = n) (hx : ArcsAt w (some ⟨g, o, none⟩) xs) :
    Calls Try.prog 10 #[.agg #[.int .i64 m, .slice (some ⟨g, o, none⟩) n c]] w (GivesNet w (backN m xs) (backL m xs)) := by
  have HL := Lib.hid hl
  clear hl
  have hb0 : Past w ((w.alloc (.cells #[.int .i64 m, .slice (some ⟨g, o, none⟩) n c] 25)).alloc (.cells #[.int .i64 0, .slice none 0 0] 25)) := ((Past.refl _).alloc _).alloc _
  go_enter Try.func10, Try.ntmps10
  go_wp2_with fail
  refine (implNetOk_any m _ n c xs _ hn HL.out (hx.below hb0)).mono ?_
  rintro e w1 ⟨rfl, hb1⟩
  have b0 := cell_in (p := ⟨w.heap.size, 0, none⟩) (v := .int .i64 m) hb1 (by go_simp)
  have b1 := cell_in (p := ⟨w.heap.size, 1, none⟩) (v := .slice (some ⟨g, o, none⟩) n c) hb1 (by go_simp)
  have e0 := cell_in (p := ⟨w.heap.size + 1, 0, none⟩) (v := .int .i64 0) hb1 (by go_simp)
  have e1 := cell_in (p := ⟨w.heap.size + 1, 1, none⟩) (v := .slice none 0 0) hb1 (by go_simp)
  have z0 := free_in (p := ⟨w.heap.size + 1, 0, none⟩) (v := .int .i64 0) hb1 (by go_simp) (by go_simp)
  have z1 := free_in (p := ⟨w.heap.size + 1, 1, none⟩) (v := .slice none 0 0) hb1 (by go_simp) (by go_simp)
  have hx1 := (hx.below hb0).below hb1
  cases hB : netB m xs with
  | false =>
    have HB := Lib.hid hB
    clear hB
    go_wp2
    exact bodyPost_ret (v := .agg #[.int .i64 0, .slice none 0 0]) (by simp [results, Try.results10, go_sem, e0, e1]) rfl
      ⟨none, 0, by simp [backN, backL, HB.out], by simp only [backL, HB.out, Bool.false_eq_true, if_false]; exact fun k a hk => by simp at hk, by simp only [backL, HB.out, Bool.false_eq_true, if_false]; exact .inl ⟨rfl, rfl⟩, Below.setCell (Below.setCell (bel_trans hb0 hb1) (by simp) _) (by simp) _⟩
  | true =>
    have h16 : n ≤ 16 := by rw [← HL.out]; exact ((netB_iff _ _).1 hB).2.1
    have HB := Lib.hid hB
    clear hB
    have nb0 := World.new_ne w1 _ b0
    have nb1 := World.new_ne w1 _ b1
    go_upto_region 3 with (fail)
    go_cut [3] (BackCut w1 m n xs)
    case first =>
      go_region_held3 (fun w' => w'.cell? ⟨w.heap.size, 0, none⟩ = some (.int .i64 m) ∧ w'.cell? ⟨w.heap.size, 1, none⟩ = some (.slice (some ⟨g, o, none⟩) n c)) (go_keep)
        (first
          | (go_at_call 33; refine (clone_any g o n c xs _ hn HL.out hx1.drew).mono ?_; rintro e w2 ⟨v, rfl, hv, hb2⟩; obtain ⟨A2, c2, rfl, hx2, ho2⟩ := hv.formN HL.out; have b0 := cell_in hb2 b0; have b1 := cell_in hb2 b1)
          | (go_at_call 33; refine (clone_any g o n c xs _ hn HL.out ((hx1.below ((Past.refl w1).alloc (.cells #[.int .i64 0, .slice none 0 0] 25))).drew)).mono ?_; rintro e w2 ⟨v, rfl, hv, hb2⟩; obtain ⟨A2, c2, rfl, hx2, ho2⟩ := hv.formN HL.out; have b0 := cell_in hb2 (cell_in ((Past.refl w1).alloc (.cells #[.int .i64 0, .slice none 0 0] 25)).drew b0); have b1 := cell_in hb2 (cell_in ((Past.refl w1).alloc (.cells #[.int .i64 0, .slice none 0 0] 25)).drew b1); have p0 := cell_in (p := ⟨w1.heap.size, 0, none⟩) (v := .int .i64 0) hb2 (by go_simp); have p1 := cell_in (p := ⟨w1.heap.size, 1, none⟩) (v := .slice none 0 0) hb2 (by go_simp); have y0 := free_in (p := ⟨w1.heap.size, 0, none⟩) (v := .int .i64 0) hb2 (by go_simp) (by go_simp); have y1 := free_in (p := ⟨w1.heap.size, 1, none⟩) (v := .slice none 0 0) hb2 (by go_simp) (by go_simp)))
      all_goals go_wp2_with fail
      all_goals go_meet
      · have hb12 : Past w1 w2 := (Past.refl w1).drew.trans hb2
        exact ⟨w2.heap.size, A2, c2, rfl, hb2.size, ⟨_, heap_alloc_new w2 _, rfl⟩, by go_simp, by go_simp, hx2.below ((Past.refl w2).alloc _), OwnAt.keep ho2 (grown_of_below ((Past.refl w2).alloc _) none) (by simp), ho2.ne_new, hb12.alloc _⟩
      · have hbA : Past w1 (w1.alloc (.cells #[.int .i64 0, .slice none 0 0] 25)).drew := ((Past.refl w1).alloc _).drew
        have hb12 : Past w1 w2 := hbA.trans hb2
        have hr : RowN w2 w1.heap.size 25 2 := RowN.keep (w := (w1.alloc (.cells #[.int .i64 0, .slice none 0 0] 25)).drew) ⟨_, heap_alloc_new w1 _, rfl⟩ (hb2.block _ (by simp))
        have hne : blk A2 ≠ some w1.heap.size := ho2.ne_blk (by simp)
        refine ⟨w1.heap.size, A2, c2, rfl, Nat.le_refl _, (hr.set _ _).set _ _, ?_, ?_, (hx2.far _ _ hne).far _ _ hne, ((ho2.lower (by simp)).far _ _).far _ _, hne, Below.setCell (Below.setCell hb12 (by simp) _) (by simp) _⟩
        · exact (World.cell?_setCell_other _ _ _ _ (by simp)).trans (World.cell?_setCell_same _ _ _ p0)
        · exact World.cell?_setCell_same _ _ _ ((World.cell?_setCell_other _ _ _ _ (by simp)).trans p1)
    case rest =>
      obtain ⟨p, A2, c2, rfl, hp, hrp, q0, q1, hx2, ho2, hne, hb12⟩ := hcut
      have sw : w.heap.size + 1 < w1.heap.size := lt_of_cell e0
      have b0 := cell_in hb12 b0
      have b1 := cell_in hb12 b1
      have r1 : RowN wc (w.heap.size + 1) 25 2 := by
        refine RowN.keep (w := w1) (RowN.keep (w := ((w.alloc (.cells #[.int .i64 m, .slice (some ⟨g, o, none⟩) n c] 25)).alloc (.cells #[.int .i64 0, .slice none 0 0] 25))) ⟨#[.int .i64 0, .slice none 0 0], ?_, rfl⟩ (hb1.block _ (by simp))) (hb12.block _ sw)
        have := heap_alloc_new (w.alloc (.cells #[.int .i64 m, .slice (some ⟨g, o, none⟩) n c] 25)) (.cells #[.int .i64 0, .slice none 0 0] 25)
        simpa using this
      have hb0c : Past w wc := hb0.trans (Past.trans hb1 hb12)
      have hxc := hx1.below hb12
      clear e0 e1 z0 z1 nb0 nb1 hx1
      by_cases hn0 : n = 0
      · obtain ⟨x0, e0⟩ := r1.cell (i := 0) (by omega)
        obtain ⟨x1, e1⟩ := r1.cell (i := 1) (by omega)
        have z0 := r1.frozen 0
        have z1 := r1.frozen 1
        have HZ := Lib.hid hn0
        have hlt0 : ¬ ((0 : Int) < (n : Int)) := by omega
        have hne2 : blk A2 ≠ some (w.heap.size + 1) := ho2.ne_blk sw
        have hnil : xs.map flip = [] := by rw [List.map_eq_nil_iff]; exact List.eq_nil_of_length_eq_zero (HL.out.trans hn0)
        have HNL := Lib.hid hnil
        clear hn0 hnil
        go_wp2
        go_loop [19] (fun q => q = .int .i64 0) (fun _ => 0)
        case atStart => rfl
        case round =>
          subst hrel
          go_wp2
          exact bodyPost_ret (v := .agg #[.int .i64 m, .slice A2 n c2]) (by simp [results, Try.results10, go_sem, e0, e1]) rfl
            ⟨A2, c2, by simp [backN, backL, HB.out, HL.out], by rw [backL, if_pos HB.out, HNL.out]; exact fun k a hk => by simp at hk, by rw [backL, if_pos HB.out, List.length_map, HL.out]; exact ((ho2.lower (by omega)).far _ _).far _ _, Below.setCell (Below.setCell hb0c (by simp) _) (by simp) _⟩
      · obtain ⟨g2, sz, rfl, hg2, hr2, hs2⟩ : ∃ g2 sz, A2 = some ⟨g2, 0, none⟩ ∧ w1.heap.size ≤ g2 ∧ RowN wc g2 57 sz ∧ n * 5 ≤ sz := by
          rcases ho2 with ⟨_, h0⟩ | h
          · exact absurd h0 hn0
          · exact h
        have hpg : p ≠ g2 := fun e => hne (by rw [e]; rfl)
        have hturn : Turned wc g2 sz xs 0 := ⟨hr2, fun j a hj => absurd hj (by omega), fun j a _ ha => by
          obtain ⟨g3, o3, e, h5⟩ := hx2 j a ha
          injection e with e
          injection e with e1 e2
          subst e1 e2
          simpa using h5⟩
        have gw : g < w.heap.size := by
          obtain ⟨a, ha⟩ : ∃ a, xs[0]? = some a := ⟨_, List.getElem?_eq_getElem (by have := HL.out; omega)⟩
          obtain ⟨g3, o3, e, h5⟩ := hx 0 a ha
          injection e with e
          injection e with e1 e2
          subst e1
          exact h5.lt
        clear hx2 ho2 hne hr2
        go_wp2
        go_loopw [19] (fun q wr => ∃ k : Nat, k ≤ n ∧ q = .int .i64 k ∧ Turned wr g2 sz xs k ∧ wc.grownBy wr (some g2)) (fun q _ => n - (intOf q).toNat)
        case atStart => exact ⟨0, by omega, rfl, hturn, grown_refl _ _⟩
        case round =>
          obtain ⟨k, hk, rfl, ht, hg⟩ := hrel
          have q0 := cell_far hg q0 hpg
          have q1 := cell_far hg q1 hpg
          by_cases hlt : k < n
          · obtain ⟨⟨f, t, c', l, d⟩, ha⟩ : ∃ a, xs[k]? = some a := ⟨_, List.getElem?_eq_getElem (by have := HL.out; omega)⟩
            obtain ⟨g3, o3, eg, c0, c1, c2', c3, c4⟩ := (hxc.grown hg (fun b hb => by injection hb with hb; simp [blk]; omega)) k _ ha
            injection eg with eg
            injection eg with eg1 eg2
            subst eg1 eg2
            obtain ⟨d0, d1, d2, d3, d4⟩ := ht.2.2 k _ (Nat.le_refl _) ha
            have z0 := ht.1.frozen (k * 5)
            have z1 := ht.1.frozen (k * 5 + 1)
            have HA := Lib.hid ha
            have hg2r : g2 < wr.heap.size := ht.1.lt
            have hpr : p < wr.heap.size := lt_of_cell q0
            clear ha d2 d3 d4
            have i0 : (0 : Int) ≤ (k : Int) := by omega
            have i1 : (k : Int) < (n : Int) := by omega
            go_wp2_with fail
            go_region
            go_wp2
            go_roundw
            case rel =>
              refine ⟨k + 1, by omega, by go_num, ?_, ?_⟩
              · have h2 := ht.next HA.out
                exact Turned.keep h2 (Below.heap_alloc _ _ _ h2.1.lt)
              · have h2 := grown_set (grown_set hg (k * 5) (.int .i64 t)) (k * 5 + 1) (.int .i64 f)
                have h3 := grown_trans h2 (World.grownBy_alloc _ (.cells #[.int .i64 f, .int .i64 t, .int .i64 c', .int .i64 l, .int .i64 d] 57) _)
                exact ⟨h3.os, h3.tape, h3.output, h3.size, h3.block⟩
            case measure => simp [intOf]; omega
          · obtain rfl : n = k := by omega
            have r1 := r1.young hg (by omega)
            obtain ⟨x0, e0⟩ := r1.cell (i := 0) (by omega)
            obtain ⟨x1, e1⟩ := r1.cell (i := 1) (by omega)
            have z0 := r1.frozen 0
            have z1 := r1.frozen 1
            have hbf : Past w wr := Below.grown hb0c hg hb0c.size (fun b hb => by injection hb with hb; omega)
            go_wp2
            have hxf : ArcsAt wr (some ⟨g2, 0, none⟩) (xs.map flip) := fun j a hj => by
              rw [List.getElem?_map] at hj
              cases hxj : xs[j]? with
              | none => rw [hxj] at hj; cases hj
              | some b =>
                rw [hxj] at hj
                injection hj with hj
                subst hj
                exact ⟨g2, 0, rfl, by rw [Nat.zero_add]; exact ht.2.1 j b (by have := (List.getElem?_eq_some_iff.1 hxj).1; rw [HL.out] at this; exact this) hxj⟩
            have hne2 : blk (some ⟨g2, 0, none⟩) ≠ some (w.heap.size + 1) := by simp [blk]; omega
            exact bodyPost_ret (v := .agg #[.int .i64 m, .slice (some ⟨g2, 0, none⟩) n c2]) (by simp [results, Try.results10, go_sem, e0, e1]) rfl
              ⟨_, c2, by simp [backN, backL, HB.out, HL.out], by rw [backL, if_pos HB.out]; exact (hxf.far _ _ hne2).far _ _ hne2, .inr ⟨g2, sz, rfl, by omega, (ht.1.set _ _).set _ _, by rw [backL, if_pos HB.out, List.length_map, HL.out]; exact hs2⟩, Below.setCell (Below.setCell hbf (by simp) _) (by simp) _⟩

end Go.Proofs.Ytifbigfkakappaa
