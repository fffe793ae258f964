/-
  FnExactWalkJoin answers true at every input: impl.WalkJoin answers as spec.WalkJoin, leaves its arguments alone and owns its answer. No condition.
-/
import Derived.Test.YtmncokldkecknaaJoin2
import Derived.Test.YtmncokldkecknaaSame
import Derived.Test.YtmncokldkecknaaMark
import Derived.Test.YtmncokldkecknaaOpen
namespace Go.Proofs.Ytmncokldkecknaa
open Go.ChangeShapes Go.WideShapes Go.ChangeAt Go.RowKit

set_option maxHeartbeats 1000000 in
theorem exactWalkJoin_walk (m : Int) (A B Q : Option Addr) (n c l cb r cq : Nat) (xs : List ArcD) (ys us : List Int) (w : World) (hn : n ≤ maxLen) (_hl : l ≤ maxLen) (_hr : r ≤ maxLen) (hnx : xs.length = n) (hny : ys.length = l) (hnu : us.length = r) (hx : ArcsAt w A xs) (hy : IntsAt w B ys) (hu : IntsAt w Q us) :
    Calls Try.prog 9 #[.agg #[.int .i64 m, .slice A n c], .slice B l cb, .slice Q r cq] w fun e w' => e = .returned (.bool true) ∧ Below w.heap.size w w' := by
  have HX := Lib.hid hnx
  have HY := Lib.hid hny
  have HU := Lib.hid hnu
  clear hnx hny hnu
  have hb0 : Past w (w.alloc (.cells #[.int .i64 m, .slice A n c] 24)) := (Past.refl _).alloc _
  by_cases hl20 : 1048576 < l
  · have hl20' : (1048576 : Int) < (l : Int) := by omega
    go_enter Try.func9, Try.ntmps9
    go_wp2
    go_ret
    exact ⟨rfl, hb0⟩
  have hl2 : l ≤ 1048576 := by omega
  have hl20' : ¬ (1048576 : Int) < (l : Int) := by omega
  by_cases hr20 : 1048576 < r
  · have hr20' : (1048576 : Int) < (r : Int) := by omega
    go_enter Try.func9, Try.ntmps9
    go_wp2
    go_ret
    exact ⟨rfl, hb0⟩
  have hr2 : r ≤ 1048576 := by omega
  have hr20' : ¬ (1048576 : Int) < (r : Int) := by omega
  go_enter Try.func9, Try.ntmps9
  go_wp2_with fail
  refine (szNet_any m A n c 1048576 _ (by omega) (by omega) hn).mono ?_
  rintro e w1 ⟨rfl, hb1⟩
  have hb01 := hb0.trans hb1
  by_cases h20 : n ≤ 1048576
  · have hr : roomLeft 1048576 n = 1048576 - n := by unfold roomLeft; rw [if_neg (by omega)]
    rw [hr]
    clear hr
    have a0 := cell_in (p := ⟨w.heap.size, 0, none⟩) (v := .int .i64 m) hb1 (by go_simp)
    have a1 := cell_in (p := ⟨w.heap.size, 1, none⟩) (v := .slice A n c) hb1 (by go_simp)
    have hx1 := hx.below hb01
    have hy1 := hy.below hb01
    have hu1 := hu.below hb01
    clear hx hy hu hb1 hb0
    -- w0 := spec.F(toNet(aN), toIntS(aW))
    go_wp2_with fail
    refine (toNet_any m A n c xs _ h20 HX.out hx1).mono ?_
    rintro e w2 ⟨g2, rfl, hb2, hg2, hm2⟩
    go_wp2_with fail
    refine (toIntS_any B l cb ys _ hl2 HY.out (hy1.below hb2)).mono ?_
    rintro e w3 ⟨g3, rfl, hb3, hg3, hm3⟩
    go_wp2_with fail
    refine (toIntS_any Q r cq us _ hr2 HU.out ((hu1.below hb2).below hb3)).mono ?_
    rintro e w3' ⟨g3', rfl, hb3', hg3', hm3'⟩
    go_wp2_with fail
    refine (specWalkJoin_any m _ n n _ _ l r xs ys us _ h20 hl2 hr2 HX.out HY.out HU.out (((hm2.arcs HX.out).below hb3).below hb3') ((hm3.ints HY.out).below hb3') (hm3'.ints HU.out)).mono ?_
    rintro e w4 ⟨v4, rfl, hv4, hb4⟩
    obtain ⟨ok, hok⟩ : ∃ ok, ok = okB m xs (ys ++ us) := ⟨_, rfl⟩
    rw [← hok]
    have HK := Lib.hid hok
    clear hok
    have hzl := joinI_len m xs ys us
    obtain ⟨zs, hzs⟩ : ∃ zs, zs = joinI m xs ys us := ⟨_, rfl⟩
    rw [← hzs] at hv4 hzl
    obtain ⟨N, hN⟩ : ∃ N, N = zs.length := ⟨_, rfl⟩
    obtain ⟨A4, c4, rfl, hi4, ho4⟩ := hv4.form
    rw [← hN] at hzl
    have HZ := Lib.hid hzs
    have HN := Lib.hid hN
    rw [← hN]
    clear hN hzs hv4 ho4
    have hb14 : Past w1 w4 := Past.trans hb2 (Past.trans hb3 (Past.trans hb3' hb4))
    have a0 := cell_in hb14 a0
    have a1 := cell_in hb14 a1
    have hx4 := hx1.below hb14
    have hy4 := hy1.below hb14
    have hu4 := hu1.below hb14
    have huE := hu4
    have hxE := hx4
    have hyE := hy4
    have hzE := hi4
    have s14 := hb14.size
    have s01 := hb01.size
    have sb : w.heap.size < w4.heap.size := lt_of_cell a0
    have hb04 := hb01.trans hb14
    clear hb14 hb2 hb3 hb3' hb4 hb01 hx1 hy1 hu1 hm2 hm3 hm3'
    -- x0 := toNet(aN)
    go_wp2_with fail
    refine (toNet_any m A n c xs _ h20 HX.out hx4).mono ?_
    rintro e w5 ⟨g5, rfl, hb5, hg5, hm5⟩
    have sg5 := hm5.1.lt
    have a0 := cell_in hb5 a0
    have a1 := cell_in hb5 a1
    -- x1 := toIntS(aA)
    go_wp2_with fail
    have hb5' : Past w5 (w5.alloc (.cells #[.int .i64 m, .slice (some ⟨g5, 0, none⟩) n n] 29)) := (Past.refl w5).alloc _
    refine (toIntS_any B l cb ys _ hl2 HY.out ((hy4.below hb5).below hb5')).mono ?_
    rintro e w5' ⟨g6, rfl, hb6', hg6, hm6⟩
    -- x2 := toIntS(aB)
    go_wp2_with fail
    refine (toIntS_any Q r cq us _ hr2 HU.out (((hu4.below hb5).below hb5').below hb6')).mono ?_
    rintro e w6 ⟨g6', rfl, hb6'', hg6', hm6'⟩
    have s66 : g6 < w5'.heap.size := hm6.1.lt
    have s66' : w5'.heap.size ≤ g6' := hg6'
    have hb6 := Past.trans hb6' hb6''
    have p0 := cell_in (p := ⟨w5.heap.size, 0, none⟩) (v := .int .i64 m) hb6 (by go_simp)
    have p1 := cell_in (p := ⟨w5.heap.size, 1, none⟩) (v := .slice (some ⟨g5, 0, none⟩) n n) hb6 (by go_simp)
    have hb56 : Past w5 w6 := hb5'.trans hb6
    have a0 := cell_in hb56 a0
    have a1 := cell_in hb56 a1
    have hm5 := hm5.below hb56
    have hm6 := hm6.below hb6''
    have hx6 := (hx4.below hb5).below hb56
    have hy6 := (hy4.below hb5).below hb56
    have hu6 := (hu4.below hb5).below hb56
    have hz6 := (hi4.below hb5).below hb56
    have s56 := hb56.size
    have s45 := hb5.size
    have s5 := hm5.1.lt
    have s6 := hm6.1.lt
    have s6' := hm6'.1.lt
    have s55 : w5.heap.size < g6 := by have := hg6; simp at this; omega
    have sg5 : g5 < w5.heap.size := sg5
    have hb06 := hb04.trans (Past.trans hb5 hb56)
    clear hb04 hb5 hb56 hb6 hb6' hb6'' hb5' hx4 hy4 hu4
    -- g0 := impl.F(x0, x1)
    go_wp2_with fail
    refine (implWalkJoin_any m _ n n _ _ l r xs ys us _ h20 hl2 hr2 HX.out HY.out HU.out (hm5.arcs HX.out) (hm6.ints HY.out) (hm6'.ints HU.out)).mono ?_
    rintro e w7 ⟨v7, rfl, hv7, hb7⟩
    rw [← HK.out]
    rw [← HZ.out] at hv7
    obtain ⟨A7, c7, rfl, hi7, ho7⟩ := hv7.form
    rw [← HN.out] at ho7
    rw [← HN.out]
    have a0 := cell_in hb7 a0
    have a1 := cell_in hb7 a1
    have p0 := cell_in hb7 p0
    have p1 := cell_in hb7 p1
    have hx7 := hx6.below hb7
    have hy7 := hy6.below hb7
    have hu7 := hu6.below hb7
    have hm6' := hm6'.below hb7
    have hz7 := hz6.below hb7
    have hm5 := hm5.below hb7
    have hm6 := hm6.below hb7
    have hb07 := hb06.trans hb7
    have s76 := hb7.size
    clear hb06 hb7 hx6 hy6 hu6 hz6 hv7
    -- eqIntS(g0, w0)
    go_wp2_with fail
    refine (eqIntS_same A7 A4 N c7 c4 zs _ hzl HN.out.symm hi7 hz7).mono ?_
    rintro e w8 ⟨rfl, hb8⟩
    have a0 := cell_in hb8 a0
    have a1 := cell_in hb8 a1
    have p0 := cell_in hb8 p0
    have p1 := cell_in hb8 p1
    have hx8 := hx7.below hb8
    have hq8 := (hm5.below hb8).arcs HX.out
    -- eqNet(x0, toNet(aN))
    go_wp2_with fail
    go_region_held3 (fun w' => w'.cell? ⟨w.heap.size, 0, none⟩ = some (.int .i64 m) ∧ w'.cell? ⟨w.heap.size, 1, none⟩ = some (.slice A n c) ∧ w'.cell? ⟨w5.heap.size, 0, none⟩ = some (.int .i64 m) ∧ w'.cell? ⟨w5.heap.size, 1, none⟩ = some (.slice (some ⟨g5, 0, none⟩) n n)) (go_keep)
      (first
        | (go_at_call 17; refine (toNet_any m A n c xs _ h20 HX.out hx8.drew).mono ?_; rintro e w9 ⟨g9, rfl, hb9, hg9, hm9⟩; have a0 := cell_in hb9 a0; have a1 := cell_in hb9 a1; have p0 := cell_in hb9 p0; have p1 := cell_in hb9 p1)
        | (go_at_call 19; refine (eqNet_same m _ _ n n n xs _ h20 HX.out (hq8.drew.below hb9) (hm9.arcs HX.out)).mono ?_; rintro e w10 ⟨rfl, hb10⟩; have a0 := cell_in hb10 a0; have a1 := cell_in hb10 a1; have p0 := cell_in hb10 p0; have p1 := cell_in hb10 p1))
    have hb710 : Past w7 w10 := Past.trans hb8 ((Past.refl w8).drew.trans (Past.trans hb9 hb10))
    clear hb8 hb9 hb10 hx8 hq8 hm9
    -- eqIntS(x1, toIntS(aW))
    go_wp2_with fail
    refine (toIntS_any B l cb ys _ hl2 HY.out (hy7.below hb710)).mono ?_
    rintro e w11 ⟨g11, rfl, hb11, hg11, hm11⟩
    go_wp2_with fail
    refine (eqIntS_same _ _ l l l ys _ hl2 HY.out (((hm6.below hb710).below hb11).ints HY.out) (hm11.ints HY.out)).mono ?_
    rintro e w12 ⟨rfl, hb12⟩
    -- eqIntS(x2, toIntS(aB))
    go_wp2_with fail
    refine (toIntS_any Q r cq us _ hr2 HU.out (((hu7.below hb710).below hb11).below hb12)).mono ?_
    rintro e w11' ⟨g11', rfl, hb11', hg11', hm11'⟩
    go_wp2_with fail
    refine (eqIntS_same _ _ r r r us _ hr2 HU.out (((((hm6'.below hb710).below hb11).below hb12).below hb11').ints HU.out) (hm11'.ints HU.out)).mono ?_
    rintro e w12' ⟨rfl, hb12'⟩
    have hb1012 : Past w10 w12' := Past.trans hb11 (Past.trans hb12 (Past.trans hb11' hb12'))
    have hb712 : Past w7 w12' := hb710.trans hb1012
    have a0 := cell_in hb1012 a0
    have a1 := cell_in hb1012 a1
    have p0 := cell_in hb1012 p0
    have p1 := cell_in hb1012 p1
    have hx12 := hx7.below hb712
    have hy12 := hy7.below hb712
    have hu12 := hu7.below hb712
    have hm6' := hm6'.below hb712
    have hz12 := hz7.below hb712
    have hi12 := hi7.below hb712
    have ho12 := ho7.below hb712
    have hm5 := hm5.below hb712
    have hm6 := hm6.below hb712
    have hb012 := hb07.trans hb712
    have s612 : w6.heap.size ≤ w12'.heap.size := Nat.le_trans s76 hb712.size
    clear hb712 hb710 hb1012 hb11 hb12 hb11' hb12' hm11 hm11' hb07 hx7 hy7 hu7 hz7 hi7 ho7
    -- k = markNet(x0, k)
    go_wp2_with fail
    refine (markNet_any m (some ⟨g5, 0, none⟩) n n 1 g5 53 _ h20 _ rfl (by omega) (.inr ⟨g5, n * 5, rfl, Nat.le_refl _, hm5.1, Nat.le_refl _⟩)).mono ?_
    rintro e w13 ⟨rfl, hb13, _⟩
    have hb13' : w12'.grownBy w13 (some g5) := hb13
    have hb013 : Past w w13 := below_marked hb012 hb13 (.inr ⟨g5, n * 5, rfl, Nat.le_refl _, hm5.1, Nat.le_refl _⟩) (by omega)
    have a0 := cell_far hb13' a0 (by simp only [ne_eq]; omega)
    have a1 := cell_far hb13' a1 (by simp only [ne_eq]; omega)
    have hx13 := ArcsAt.old hxE hx12 hb13' (by omega)
    have hy13 := IntsAt.old hyE hy12 hb13' (by omega)
    have hu13 := IntsAt.old huE hu12 hb13' (by omega)
    have hz13 := IntsAt.old hzE hz12 hb13' (by omega)
    have hi13 := IntsAt.young (by rw [← HN.out]; exact ho12) hi12 hb13' (by omega)
    have ho13 := ho12.young hb13' (by omega)
    have hr13 := hm6.1.young hb13' (by omega)
    have hr13' := hm6'.1.young hb13' (by omega)
    have s613 : w6.heap.size ≤ w13.heap.size := Nat.le_trans s612 hb13'.size
    clear hb13 hb13' hx12 hy12 hu12 hz12 hi12 ho12 hm5 hm6 hm6' hb012 p0 p1
    -- k = markIntS(x1, k)
    go_wp2_with fail
    refine (markIntS_any (some ⟨g6, 0, none⟩) l l (1 + 5 * n) g6 3 _ hl2 _ (by push_cast; omega) (by omega) (.inr ⟨g6, l, rfl, Nat.le_refl _, hr13, by omega⟩)).mono ?_
    rintro e w14 ⟨rfl, hb14, _⟩
    have hb14' : w13.grownBy w14 (some g6) := hb14
    have hb014 : Past w w14 := below_marked hb013 hb14 (.inr ⟨g6, l, rfl, Nat.le_refl _, hr13, by omega⟩ : OwnAt w13 g6 _ 3 1 l) (by omega)
    have a0 := cell_far hb14' a0 (by simp only [ne_eq]; omega)
    have a1 := cell_far hb14' a1 (by simp only [ne_eq]; omega)
    have hx14 := ArcsAt.old hxE hx13 hb14' (by omega)
    have hy14 := IntsAt.old hyE hy13 hb14' (by omega)
    have hu14 := IntsAt.old huE hu13 hb14' (by omega)
    have hr14' := hr13'.young hb14' (by omega)
    have hz14 := IntsAt.old hzE hz13 hb14' (by omega)
    have hi14 := IntsAt.young (by rw [← HN.out]; exact ho13) hi13 hb14' (by omega)
    have ho14 := ho13.young hb14' (by omega)
    have s64 : w6.heap.size ≤ w14.heap.size := Nat.le_trans s613 hb14'.size
    clear hb14 hb14' hx13 hy13 hu13 hz13 hi13 ho13 hr13 hr13' hb013
    -- k = markIntS(x2, k)
    go_wp2_with fail
    refine (markIntS_any (some ⟨g6', 0, none⟩) r r (1 + 5 * n + l) g6' 3 _ hr2 _ (by push_cast; omega) (by omega) (.inr ⟨g6', r, rfl, Nat.le_refl _, hr14', by omega⟩)).mono ?_
    rintro e w24 ⟨rfl, hb24, _⟩
    have hb24' : w14.grownBy w24 (some g6') := hb24
    have hb024 : Past w w24 := below_marked hb014 hb24 (.inr ⟨g6', r, rfl, Nat.le_refl _, hr14', by omega⟩ : OwnAt w14 g6' _ 3 1 r) (by omega)
    have a0 := cell_far hb24' a0 (by simp only [ne_eq]; omega)
    have a1 := cell_far hb24' a1 (by simp only [ne_eq]; omega)
    have hx24 := ArcsAt.old hxE hx14 hb24' (by omega)
    have hy24 := IntsAt.old hyE hy14 hb24' (by omega)
    have hu24 := IntsAt.old huE hu14 hb24' (by omega)
    have hz24 := IntsAt.old hzE hz14 hb24' (by omega)
    have hi24 := IntsAt.young (by rw [← HN.out]; exact ho14) hi14 hb24' (by omega)
    have ho24 := ho14.young hb24' (by omega)
    have s624 : w6.heap.size ≤ w24.heap.size := Nat.le_trans s64 hb24'.size
    clear hb24 hb24' hx14 hy14 hu14 hz14 hi14 ho14 hr14' hb014
    have hkn : ¬ (((1 + 5 * n + l : Nat) : Int) + (r : Int) < 0) := by omega
    -- eqIntS(g0, w0) once more
    go_wp2_with fail
    refine (eqIntS_same A7 A4 N c7 c4 zs _ hzl HN.out.symm hi24 hz24).mono ?_
    rintro e w15 ⟨rfl, hb15⟩
    have a0 := cell_in hb15 a0
    have a1 := cell_in hb15 a1
    have hx15 := hx24.below hb15
    have hy15 := hy24.below hb15
    have hu15 := hu24.below hb15
    have hz15 := hz24.below hb15
    have ho15 := ho24.below hb15
    have hb015 := hb024.trans hb15
    have s65 : w6.heap.size ≤ w15.heap.size := Nat.le_trans s624 hb15.size
    clear hb15 hx24 hy24 hu24 hz24 hi24 ho24 hb024
    -- m = markIntS(g0, m)
    go_wp2_with fail
    refine (markIntS_any A7 N c7 1 w6.heap.size 3 _ hzl _ rfl (by omega) ho15).mono ?_
    rintro e w16 ⟨rfl, hb16, hk16⟩
    have hb016 : Past w w16 := below_marked hb015 hb16 ho15 (by omega)
    have hb616 : Below w6.heap.size w15 w16 := below_own hb16 ho15 (by omega)
    have a0 := (hb616.cell (p := ⟨w.heap.size, 0, none⟩) (by simp only; omega)).trans a0
    have a1 := (hb616.cell (p := ⟨w.heap.size, 1, none⟩) (by simp only; omega)).trans a1
    have hx16 := ArcsAt.under hxE hx15 hb616 (by omega)
    have hy16 := IntsAt.under hyE hy15 hb616 (by omega)
    have hu16 := IntsAt.under huE hu15 hb616 (by omega)
    have hz16 := IntsAt.under hzE hz15 hb616 (by omega)
    clear hb16 hb616 ho15 hb015 hx15 hy15 hu15 hz15
    -- q = heldIntS(g0, q)
    go_wp2_with fail
    refine (heldIntS_any A7 N c7 1 _ hzl _ rfl (by omega) hk16).mono ?_
    rintro e w17 ⟨rfl, rfl⟩
    have hqn : ¬ (((1 : Nat) : Int) + (N : Int) < 0) := by omega
    -- h0 := impl.F(toNet(aN), toIntS(aW))
    go_wp2_with fail
    refine (toNet_any m A n c xs _ h20 HX.out hx16).mono ?_
    rintro e w18 ⟨g18, rfl, hb18, hg18, hm18⟩
    go_wp2_with fail
    refine (toIntS_any B l cb ys _ hl2 HY.out (hy16.below hb18)).mono ?_
    rintro e w19 ⟨g19, rfl, hb19, hg19, hm19⟩
    go_wp2_with fail
    refine (toIntS_any Q r cq us _ hr2 HU.out ((hu16.below hb18).below hb19)).mono ?_
    rintro e w19' ⟨g19', rfl, hb19', hg19', hm19'⟩
    go_wp2_with fail
    refine (implWalkJoin_any m _ n n _ _ l r xs ys us _ h20 hl2 hr2 HX.out HY.out HU.out (((hm18.below hb19).below hb19').arcs HX.out) ((hm19.below hb19').ints HY.out) (hm19'.ints HU.out)).mono ?_
    rintro e w20 ⟨v20, rfl, hv20, hb20⟩
    rw [← HK.out]
    rw [← HZ.out] at hv20
    obtain ⟨A20, c20, rfl, hi20, ho20⟩ := hv20.form
    rw [← HN.out]
    have hb1620 : Past w16 w20 := Past.trans hb18 (Past.trans hb19 (Past.trans hb19' hb20))
    clear hv20 ho20 hb18 hb19 hb19' hb20
    -- eqIntS(h0, w0)
    go_wp2_with fail
    refine (eqIntS_same A20 A4 N c20 c4 zs _ hzl HN.out.symm hi20 (hz16.below hb1620)).mono ?_
    rintro e w21 ⟨rfl, hb21⟩
    -- q = heldIntS(g0, q)
    go_wp2_with fail
    refine (heldIntS_any A7 N c7 1 _ hzl _ rfl (by omega) ((hk16.below hb1620).below hb21)).mono ?_
    rintro e w22 ⟨rfl, rfl⟩
    go_wp2
    go_ret
    exact ⟨rfl, hb016.trans (hb1620.trans hb21)⟩
  · have hr : roomLeft 1048576 n = -1 := by unfold roomLeft; rw [if_pos (by omega)]
    rw [hr]
    go_wp2
    go_ret
    exact ⟨rfl, hb01⟩

set_option maxRecDepth 100000 in
theorem exactWalkJoin_lifted (os : Os) (started : os.Started) (H : Type) (enc : TypeId × Value → H) :
    ReturnsInHanded {} Try.checked os 9 .any (Rows.fnExactWalkJoinSpec.pre6 enc Try.prog Try.f9 Rows.fnExactWalkJoinRow.domain false) (Rows.fnExactWalkJoinSpec.post enc Try.prog Try.f9 false true false false) := by
  refine returnsInHanded_of_change (C := Try.checked) own started (by kernel_rfl) Try.func9
    (ChangeSpec.witness6 (enc := enc) (C := Try.checked) false ⟨#[], #[.agg #[.int .i64 0, .slice none 0 0], .slice none 0 0, .slice none 0 0], []⟩ 8 (by kernel_rfl) (by kernel_rfl) (by kernel_rfl) (by kernel_rfl)) ?_
  intro W base args ds gs before hval0 hW hcnd _
  have hval : ∀ (j : Nat) t v, Try.f9.params[j]? = some t → args[j]? = some v → Value.okWide Try.prog W .any base t v := hval0
  have hW' := hW
  obtain ⟨p, q, hA0, hV, rfl, hfz, hnd⟩ := hW
  have hA : DataW.TrodAll enc Try.prog W 0 (fun _ => true) true Try.f9.params.toList args.toList ds p := hA0
  rw [Try.params9] at hA hval
  obtain ⟨v0, vs0, d0, ds0, p0, q0, hargs, rfl, rfl, h0, r0⟩ := trodAll_cons hA
  obtain ⟨v1, vs1, d1, ds1, p1, q1, rfl, rfl, rfl, h1, r1⟩ := trodAll_cons r0
  obtain ⟨v2, vs2, d2, ds2, p2, q2, rfl, rfl, rfl, h2, r2⟩ := trodAll_cons r1
  obtain ⟨rfl, rfl, rfl⟩ := trodAll_nil r2
  obtain rfl : args = #[v0, v1, v2] := by cases args; simp_all
  obtain ⟨rfl, rfl⟩ := trodVars_none hV
  have k0 := h0
  have lt0 := places_lt k0
  have k1 := h1
  have lt1 := places_lt k1
  have k2 := h2
  have lt2 := places_lt k2
  obtain ⟨m, A, n, c, xs, rfl, hnx, hn, hx, _⟩ := open_net (hval 0 24 v0 rfl rfl) h0
  obtain ⟨B, l, cb, ys, rfl, hny, hl, hy⟩ := open_list (hval 1 33 v1 rfl rfl) h1
  obtain ⟨Q, r, cq, us, rfl, hnu, hr, hu⟩ := open_list (hval 2 33 v2 rfl rfl) h2
  clear hA0 hval0
  refine (exactWalkJoin_walk m A B Q n c l cb r cq xs ys us W hn hl hr hnx hny hnu hx hy hu).mono fun e W' ⟨he, bel⟩ => ?_
  subst he
  exact ⟨_, rfl, _, _, _, [], _, [], hW', trodAll_mk1 (shut_bool Try.underlying4 _), (trodAll_cons_mk (Below.trod laidOut (by kernel_rfl) (of_decide_eq_true (by kernel_rfl)) k0 bel lt0) (trodAll_cons_mk (Below.trod laidOut (by kernel_rfl) (of_decide_eq_true (by kernel_rfl)) k1 bel lt1) (trodAll_cons_mk (Below.trod laidOut (by kernel_rfl) (of_decide_eq_true (by kernel_rfl)) k2 bel lt2) trodAll_mk0))), rfl, bel.frame _, fun h => by cases h⟩

/-- The given statement. -/
theorem exactWalkJoin_proved : Rows.FnExactWalkJoinSaid :=
  OpenClaim.holds_of_wide 9 Try.f9 rfl rfl rfl rfl rfl rfl rfl ⟨rfl, rfl, rfl, rfl, rfl⟩ rfl rfl rfl rfl rfl (by kernel_rfl) Try.func9 (by kernel_rfl)
    (of_decide_eq_true (by kernel_rfl)) (by unfold Func.isWrapper; first | (rw [if_pos (by decide +kernel)]; kernel_rfl) | (rw [if_neg (by decide +kernel)]; exact ⟨rfl, rfl⟩))
    (fun os started H enc _ => exactWalkJoin_lifted os started H enc)

end Go.Proofs.Ytmncokldkecknaa
