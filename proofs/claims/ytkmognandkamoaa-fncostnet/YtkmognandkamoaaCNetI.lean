/-
  A net with other costs: impl.CostNet. No condition.
-/
import Derived.Test.YtkmognandkamoaaPCnet
import Derived.Test.YtkmognandkamoaaCMet
import Derived.Deep.DeepCutAuto
namespace Go.Proofs.Ytkmognandkamoaa
open Go.RowKit

set_option maxRecDepth 100000 in
set_option maxHeartbeats 2000000 in
theorem implCostNet_all (m : Int) (A : Option Addr) (n c : Nat) (xs : List ArcD) (B : Option Addr) (l cb : Nat) (ys : List Int) (w : World) (hn : n ≤ 1048576) (hnx : xs.length = n) (hx : ArcsAt w A xs) (ho : (A = none ∧ n = 0) ∨ ∃ g o, A = some ⟨g, o, none⟩) (hl : l ≤ 1048576) (hly : ys.length = l) (hy : IntsAt w B ys) :
    Calls Try.prog 19 #[.agg #[.int .i64 m, .slice A n c], .slice B l cb] w (GivesNetB w (cnetN m xs ys) (cnetL m xs ys) (metricB m xs ys)) := by
  have HL := Lib.hid hnx
  have HY := Lib.hid hly
  have HO := Lib.hid ho
  clear hnx hly ho
  have hb0 : Past w ((w.alloc (.cells #[.int .i64 m, .slice A n c] 29)).alloc (.cells #[.int .i64 0, .slice none 0 0] 29)) := ((Past.refl _).alloc _).alloc _
  go_enter Try.func19, Try.ntmps19
  go_wp2_with fail
  refine (metricOk_any m A n c xs B l cb ys _ hn HL.out (hx.below hb0) hl HY.out (hy.below hb0)).mono ?_
  rintro e w1 ⟨rfl, hb1⟩
  have b0 := cell_in (p := ⟨w.heap.size, 0, none⟩) (v := .int .i64 m) hb1 (by go_simp)
  have b1 := cell_in (p := ⟨w.heap.size, 1, none⟩) (v := .slice A n c) hb1 (by go_simp)
  have e0 := cell_in (p := ⟨w.heap.size + 1, 0, none⟩) (v := .int .i64 0) hb1 (by go_simp)
  have e1 := cell_in (p := ⟨w.heap.size + 1, 1, none⟩) (v := .slice none 0 0) hb1 (by go_simp)
  have z0 := free_in (p := ⟨w.heap.size + 1, 0, none⟩) (v := .int .i64 0) hb1 (by go_simp) (by go_simp)
  have z1 := free_in (p := ⟨w.heap.size + 1, 1, none⟩) (v := .slice none 0 0) hb1 (by go_simp) (by go_simp)
  have hx1 := (hx.below hb0).below hb1
  have hy1 := (hy.below hb0).below hb1
  cases hB : metricB m xs ys with
  | false =>
    have HB := Lib.hid hB
    clear hB
    go_wp2
    exact bodyPost_ret (v := .tuple #[.agg #[.int .i64 0, .slice none 0 0], .bool false]) (by simp [results, Try.results19, go_sem, e0, e1]) rfl
      ⟨none, 0, by simp [cnetN, cnetL, HB.out], by simp only [cnetL, HB.out, Bool.false_eq_true, if_false]; exact fun k a hk => by simp at hk, by simp only [cnetL, HB.out, Bool.false_eq_true, if_false]; exact .inl ⟨rfl, rfl⟩, Below.setCell (Below.setCell (bel_trans hb0 hb1) (by simp) _) (by simp) _⟩
  | true =>
    have hln : ys.length = xs.length := by
      have h := hB
      simp only [metricB, Bool.and_eq_true, decide_eq_true_eq] at h
      exact h.2.1
    obtain rfl : l = n := by rw [← HL.out, ← HY.out]; exact hln
    have HLN := Lib.hid hln
    have HB := Lib.hid hB
    clear hB hln
    have nb0 := World.new_ne w1 _ b0
    have nb1 := World.new_ne w1 _ b1
    go_upto_region 3 with (fail)
    go_cut [6] (BackCut w1 m l xs)
    case first =>
      go_region_held3 (fun w' => w'.cell? ⟨w.heap.size, 0, none⟩ = some (.int .i64 m) ∧ w'.cell? ⟨w.heap.size, 1, none⟩ = some (.slice A l c)) (go_keep)
        (first
          | (go_at_call 55; refine (clone_all A l c xs _ hn HL.out hx1.drew HO.out).mono ?_; rintro e w2 ⟨v, rfl, hv, hb2⟩; obtain ⟨A2, c2, rfl, hx2, ho2⟩ := hv.formN HL.out; have b0 := cell_in hb2 b0; have b1 := cell_in hb2 b1)
          | (go_at_call 55; refine (clone_all A l c xs _ hn HL.out ((hx1.below ((Past.refl w1).alloc (.cells #[.int .i64 0, .slice none 0 0] 29))).drew) HO.out).mono ?_; rintro e w2 ⟨v, rfl, hv, hb2⟩; obtain ⟨A2, c2, rfl, hx2, ho2⟩ := hv.formN HL.out; have b0 := cell_in hb2 (cell_in ((Past.refl w1).alloc (.cells #[.int .i64 0, .slice none 0 0] 29)).drew b0); have b1 := cell_in hb2 (cell_in ((Past.refl w1).alloc (.cells #[.int .i64 0, .slice none 0 0] 29)).drew b1); have p0 := cell_in (p := ⟨w1.heap.size, 0, none⟩) (v := .int .i64 0) hb2 (by go_simp); have p1 := cell_in (p := ⟨w1.heap.size, 1, none⟩) (v := .slice none 0 0) hb2 (by go_simp); have y0 := free_in (p := ⟨w1.heap.size, 0, none⟩) (v := .int .i64 0) hb2 (by go_simp) (by go_simp); have y1 := free_in (p := ⟨w1.heap.size, 1, none⟩) (v := .slice none 0 0) hb2 (by go_simp) (by go_simp)))
      all_goals go_wp2_with fail
      all_goals go_meet
      · have hb12 : Past w1 w2 := (Past.refl w1).drew.trans hb2
        exact ⟨w2.heap.size, A2, c2, rfl, hb2.size, ⟨_, heap_alloc_new w2 _, rfl⟩, by go_simp, by go_simp, hx2.below ((Past.refl w2).alloc _), OwnAt.keep ho2 (grown_of_below ((Past.refl w2).alloc _) none) (by simp), ho2.ne_new, hb12.alloc _⟩
      · have hbA : Past w1 (w1.alloc (.cells #[.int .i64 0, .slice none 0 0] 29)).drew := ((Past.refl w1).alloc _).drew
        have hb12 : Past w1 w2 := hbA.trans hb2
        have hr : RowN w2 w1.heap.size 29 2 := RowN.keep (w := (w1.alloc (.cells #[.int .i64 0, .slice none 0 0] 29)).drew) ⟨_, heap_alloc_new w1 _, rfl⟩ (hb2.block _ (by simp))
        have hne : blk A2 ≠ some w1.heap.size := ho2.ne_blk (by simp)
        refine ⟨w1.heap.size, A2, c2, rfl, Nat.le_refl _, (hr.set _ _).set _ _, ?_, ?_, (hx2.far _ _ hne).far _ _ hne, ((ho2.lower (by simp)).far _ _).far _ _, hne, Below.setCell (Below.setCell hb12 (by simp) _) (by simp) _⟩
        · exact (World.cell?_setCell_other _ _ _ _ (by simp)).trans (World.cell?_setCell_same _ _ _ p0)
        · exact World.cell?_setCell_same _ _ _ ((World.cell?_setCell_other _ _ _ _ (by simp)).trans p1)
    case rest =>
      obtain ⟨p, A2, c2, rfl, hp, hrp, q0, q1, hx2, ho2, hne, hb12⟩ := hcut
      have sw : w.heap.size + 1 < w1.heap.size := lt_of_cell e0
      have r1 : RowN wc (w.heap.size + 1) 29 2 := by
        refine RowN.keep (w := w1) (RowN.keep (w := ((w.alloc (.cells #[.int .i64 m, .slice A l c] 29)).alloc (.cells #[.int .i64 0, .slice none 0 0] 29))) ⟨#[.int .i64 0, .slice none 0 0], ?_, rfl⟩ (hb1.block _ (by simp))) (hb12.block _ sw)
        have := heap_alloc_new (w.alloc (.cells #[.int .i64 m, .slice A l c] 29)) (.cells #[.int .i64 0, .slice none 0 0] 29)
        simpa using this
      have hb0c : Past w wc := hb0.trans (Past.trans hb1 hb12)
      have hyc := hy1.below hb12
      have hNv : cnetN m xs ys = m := by rw [cnetN, HB.out, if_pos rfl]
      have hLv : cnetL m xs ys = costed xs ys := by rw [cnetL, HB.out, if_pos rfl]
      have hll : (costed xs ys).length = l := by rw [costed_len HLN.out, HL.out]
      have HNV := Lib.hid hNv
      have HLV := Lib.hid hLv
      have HLL := Lib.hid hll
      clear e0 e1 z0 z1 nb0 nb1 hx1 b0 b1 hNv hLv hll
      by_cases hn0 : l = 0
      · obtain ⟨x0, e0⟩ := r1.cell (i := 0) (by omega)
        obtain ⟨x1, e1⟩ := r1.cell (i := 1) (by omega)
        have z0 := r1.frozen 0
        have z1 := r1.frozen 1
        have hlt0 : ¬ ((0 : Int) < (l : Int)) := by omega
        have hnil : costed xs ys = [] := List.eq_nil_of_length_eq_zero (HLL.out.trans hn0)
        have HNL := Lib.hid hnil
        clear hn0 hnil
        go_wp2
        go_loop [22] (fun q => q = .int .i64 0) (fun _ => 0)
        case atStart => rfl
        case round =>
          subst hrel
          go_wp2
          exact bodyPost_ret (v := .tuple #[.agg #[.int .i64 m, .slice A2 l c2], .bool true]) (by simp [results, Try.results19, go_sem, e0, e1]) rfl
            ⟨A2, c2, by rw [HNV.out, HLV.out, HLL.out, HB.out], by rw [HLV.out, HNL.out]; exact fun k a hk => by simp at hk, by rw [HLV.out, HLL.out]; exact ((ho2.lower (by omega)).far _ _).far _ _, Below.setCell (Below.setCell hb0c (by simp) _) (by simp) _⟩
      · obtain ⟨g2, sz, rfl, hg2, hr2, hs2⟩ : ∃ g2 sz, A2 = some ⟨g2, 0, none⟩ ∧ w1.heap.size ≤ g2 ∧ RowN wc g2 52 sz ∧ l * 5 ≤ sz := by
          rcases ho2 with ⟨_, h0⟩ | h
          · exact absurd h0 hn0
          · exact h
        have hpg : p ≠ g2 := fun e => hne (by rw [e]; rfl)
        have hturn : Costed wc g2 sz xs ys 0 := ⟨hr2, fun j a c hj => absurd hj (by omega), fun j a _ ha => by
          obtain ⟨g3, o3, e, h5⟩ := hx2 j a ha
          injection e with e
          injection e with e1 e2
          subst e1 e2
          simpa using h5⟩
        have gB : ∀ b, blk B = some b → b < w.heap.size := fun b hbb => by
          obtain ⟨y, hy0⟩ : ∃ a, ys[0]? = some a := ⟨_, List.getElem?_eq_getElem (by have := HY.out; omega)⟩
          obtain ⟨g3, o3, rfl, h5⟩ := hy 0 y hy0
          simp [blk] at hbb
          subst hbb
          exact lt_of_cell h5
        clear hx2 ho2 hne hr2
        go_wp2
        go_loopw [22] (fun q wr => ∃ k : Nat, k ≤ l ∧ q = .int .i64 k ∧ Costed wr g2 sz xs ys k ∧ wc.grownBy wr (some g2)) (fun q _ => l - (intOf q).toNat)
        case atStart => exact ⟨0, by omega, rfl, hturn, grown_refl _ _⟩
        case round =>
          obtain ⟨k, hk, rfl, ht, hg⟩ := hrel
          have q0 := cell_far hg q0 hpg
          have q1 := cell_far hg q1 hpg
          by_cases hlt : k < l
          · obtain ⟨a, ha⟩ : ∃ a, xs[k]? = some a := ⟨_, List.getElem?_eq_getElem (by have := HL.out; omega)⟩
            obtain ⟨y, hyk⟩ : ∃ a, ys[k]? = some a := ⟨_, List.getElem?_eq_getElem (by have := HY.out; omega)⟩
            obtain ⟨g3, o3, rfl, c0⟩ := (hyc.grown hg (fun b hb e => by injection hb with hb; have := gB b e; omega)) k _ hyk
            obtain ⟨d0, d1, d2, d3, d4⟩ := ht.2.2 k _ (Nat.le_refl _) ha
            have z2 := ht.1.frozen (k * 5 + 2)
            have HN := Lib.hid (ht.next ha hyk)
            clear ha hyk d0 d1 d3 d4
            have i0 : (0 : Int) ≤ (k : Int) := by omega
            have i1 : (k : Int) < (l : Int) := by omega
            go_wp2
            go_roundw
            case rel => exact ⟨k + 1, by omega, by go_num, HN.out, grown_set hg _ _⟩
            case measure => simp [intOf]; omega
          · obtain rfl : l = k := by omega
            have r1 := r1.young hg (by omega)
            obtain ⟨x0, e0⟩ := r1.cell (i := 0) (by omega)
            obtain ⟨x1, e1⟩ := r1.cell (i := 1) (by omega)
            have z0 := r1.frozen 0
            have z1 := r1.frozen 1
            have hbf : Past w wr := Below.grown hb0c hg hb0c.size (fun b hb => by injection hb with hb; omega)
            go_wp2
            have hne2 : blk (some ⟨g2, 0, none⟩) ≠ some (w.heap.size + 1) := by simp [blk]; omega
            exact bodyPost_ret (v := .tuple #[.agg #[.int .i64 m, .slice (some ⟨g2, 0, none⟩) l c2], .bool true]) (by simp [results, Try.results19, go_sem, e0, e1]) rfl
              ⟨_, c2, by rw [HNV.out, HLV.out, HLL.out, HB.out], by rw [HLV.out]; exact ((ht.arcs HL.out).far _ _ hne2).far _ _ hne2, by rw [HLV.out]; exact .inr ⟨g2, sz, rfl, by omega, (ht.1.set _ _).set _ _, by rw [HLL.out]; exact hs2⟩, Below.setCell (Below.setCell hbf (by simp) _) (by simp) _⟩

theorem implCostNet_any (m : Int) (g n c : Nat) (xs : List ArcD) (B : Option Addr) (l cb : Nat) (ys : List Int) (w : World) (hn : n ≤ 1048576) (hnx : xs.length = n) (hx : ArcsAt w (some ⟨g, 0, none⟩) xs) (hl : l ≤ 1048576) (hly : ys.length = l) (hy : IntsAt w B ys) :
    Calls Try.prog 19 #[.agg #[.int .i64 m, .slice (some ⟨g, 0, none⟩) n c], .slice B l cb] w (GivesNetB w (cnetN m xs ys) (cnetL m xs ys) (metricB m xs ys)) :=
  implCostNet_all m _ n c xs B l cb ys w hn hnx hx (.inr ⟨g, 0, rfl⟩) hl hly hy

theorem cnetL_lenM (m : Int) (xs : List ArcD) (cs : List Int) : (cnetL m xs cs).length ≤ 1048576 := by
  unfold cnetL costed
  split
  · rename_i h
    simp only [metricB, Bool.and_eq_true] at h
    have := net_num h.1
    rw [List.length_zipWith]
    omega
  · simp

end Go.Proofs.Ytkmognandkamoaa
