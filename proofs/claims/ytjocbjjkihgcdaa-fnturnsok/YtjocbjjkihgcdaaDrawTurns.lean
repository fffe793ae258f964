/-
  Turns that are drawn of bytes: l30Turns: 9 at most, in new memory. No condition.
-/
import Derived.Test.YtjocbjjkihgcdaaDraw6
import Derived.Test.YtjocbjjkihgcdaaRTurnL
namespace Go.Proofs.Ytjocbjjkihgcdaa
open Go.RowKit

theorem ResTurn.young {w w' : World} {lo g : Nat} {v : Value} {zs : List TurnD} (h : ResTurn w lo v zs) (hg : w.grownBy w' (some g)) (hl : g < lo) : ResTurn w' lo v zs :=
  World.ownsRow.kept h hg (.inr fun e => own_ne h hl e.symm)
/-- Turns were drawn into new memory. -/
def TurnsG (w : World) (R lo : Nat) (A : Option Addr) (n c f : Nat) (e : Ending) (w' : World) : Prop :=
  ∃ v zs, e = .returned v ∧ zs.length ≤ 9 ∧ ResTurn w' w.heap.size v zs ∧ RdF w' R lo A n c f ∧ w.grownBy w' (some R)

set_option maxRecDepth 100000 in
set_option maxHeartbeats 4000000 in
theorem l30Turns_any (R lo : Nat) (A B : Option Addr) (n c f k cap : Nat) (m : Int) (xs : List ArcD) (w : World) (h : RdF w R lo A n c (f + 29)) (hk : k ≤ 13) (hxk : xs.length = k) (hx : ArcsAt w B xs) (hBR : blk B ≠ some R) :
    Calls Try.prog 73 #[.pointer (some ⟨R, 0, none⟩), .agg #[.int .i64 m, .slice B k cap]] w (TurnsG w R lo A n c f) := by
  have hRw := h.at_
  have HX := Lib.hid hxk
  clear hxk
  obtain ⟨i0, hi, hz0, hz1, hz2⟩ := info_parts infoTurn
  obtain ⟨W, hW⟩ : ∃ W, W = w.alloc (.cells #[.int .i64 m, .slice B k cap] 31) := ⟨_, rfl⟩
  have hWs : W.heap.size = w.heap.size + 1 := by rw [hW]; simp
  have bW : W.cell? ⟨w.heap.size, 1, none⟩ = some (.slice B k cap) := by rw [hW]; go_simp
  have hgW : w.grownBy W (some R) := by rw [hW]; exact World.grownBy_alloc w _ _
  have hF : RdF W R lo A n c (f + 29) := by rw [hW]; exact h.alloc _
  have hRW : R < W.heap.size := by omega
  have hRb : R ≠ w.heap.size := by omega
  have hle : w.heap.size ≤ W.heap.size := by omega
  have hres0 : ResTurn (W.alloc (.cells #[] 56)) W.heap.size (.slice (some ⟨w.heap.size + 1, 0, none⟩) 0 0) [] := by
    have h0 : ResTurn (W.alloc (.cells #[] 56)) W.heap.size (.slice (some ⟨W.heap.size, 0, none⟩) 0 0) [] := World.ownsRow_made W _ 0 (Nat.le_refl _) (by unfold maxLen; omega) rfl
    have h1 : ∀ q, q = W.heap.size → ResTurn (W.alloc (.cells #[] 56)) W.heap.size (.slice (some ⟨q, 0, none⟩) 0 0) [] := fun q e => by subst e; exact h0
    exact h1 _ hWs.symm
  have HW := Lib.hid hW
  clear hW hWs h
  go_enter Try.func73, Try.ntmps73
  go_wp2_with fail
  rw [← HW.out]
  refine (pickF (f := f + 28) _ (hF.alloc _)).mono ?_
  rintro e w1 ⟨k1, rfl, k10, k11, hr1, hg1⟩
  obtain ⟨j1, rfl⟩ : ∃ j : Nat, k1 = j := ⟨k1.toNat, by omega⟩
  have hj1 : j1 ≤ 8 := by omega
  have hgw1 : W.grownBy w1 (some R) := grown_trans (World.grownBy_alloc W _ _) hg1
  have hres1 := hres0.young hg1 hRW
  clear hres0 hg1 k11
  go_wp2
  go_loopw [5, 6] (fun v q wr => ∃ (j : Nat) (zs : List TurnD), j + zs.length ≤ 8 ∧ q = .int .i64 j ∧ ResTurn wr W.heap.size v zs ∧ RdF wr R lo A n c (f + 4 + 3 * j) ∧ W.grownBy wr (some R)) (fun _ q _ => (intOf q).toNat)
  case atStart => exact ⟨j1, [], by simp; omega, rfl, hres1, hr1.less (by omega), hgw1⟩
  case round =>
    obtain ⟨j, zs, hjz, rfl, hv, hrd, hgV⟩ := hrel
    have b1 := cell_far hgV bW (Ne.symm hRb)
    by_cases hgo : 0 < j ∧ 0 < k
    · obtain ⟨hj, hk0⟩ := hgo
      obtain ⟨j', rfl⟩ : ∃ j', j = j' + 1 := ⟨j - 1, by omega⟩
      have hk0' : (0 : Int) < (k : Int) := by omega
      go_wp2_with fail
      refine (pickF (f := f + 4 + 3 * j' + 2) _ (hrd.less (by omega))).mono ?_
      rintro e w2 ⟨x, rfl, x0, x1, hr2, hg2⟩
      obtain ⟨ix, rfl⟩ : ∃ i : Nat, x = i := ⟨x.toNat, by omega⟩
      have hix : ix < k := by omega
      have b2 := cell_far hg2 b1 (Ne.symm hRb)
      clear x1
      go_wp2_with fail
      refine (pickF (f := f + 4 + 3 * j' + 1) _ hr2).mono ?_
      rintro e w3 ⟨y, rfl, y0, y1, hr3, hg3⟩
      obtain ⟨iy, rfl⟩ : ∃ i : Nat, y = i := ⟨y.toNat, by omega⟩
      have hiy : iy < k := by omega
      have b3 := cell_far hg3 b2 (Ne.symm hRb)
      have hgV3 := grown_trans hgV (grown_trans hg2 hg3)
      have hv3 := (hv.young hg2 hRW).young hg3 hRW
      have hx3 : ArcsAt w3 B xs := hx.grown (grown_trans hgW hgV3) (fun b e => by injection e with e; rw [← e]; exact hBR)
      clear y1 hg2 hg3 b1 b2 hv hr2
      obtain ⟨⟨f1, t1, c1, l1, d1⟩, ha⟩ : ∃ a, xs[ix]? = some a := ⟨_, List.getElem?_eq_getElem (by have := HX.out; omega)⟩
      obtain ⟨⟨f2, t2, c2, l2, d2⟩, hb⟩ : ∃ a, xs[iy]? = some a := ⟨_, List.getElem?_eq_getElem (by have := HX.out; omega)⟩
      obtain ⟨g, o, rfl, p0, p1, p2, p3, p4⟩ := hx3 ix _ ha
      obtain ⟨g', o', eg, q0, q1, q2, q3, q4⟩ := hx3 iy _ hb
      injection eg with eg
      injection eg with eg1 eg2
      subst eg1 eg2
      clear ha hb p0 p2 p3 p4 q1 q2 q3 q4
      have i1 : (ix : Int) < (k : Int) := by omega
      have i2 : (iy : Int) < (k : Int) := by omega
      by_cases hE : t1 = f2
      rotate_left
      · have hne : (t1 != f2) = true := by simpa using hE
        clear hE
        go_wp2_with fail
        go_quiet (fail)
        go_wp2
        go_roundw
        case rel => exact ⟨j', zs, by omega, by go_num, hv3, RdF.less (f := f + 4 + 3 * j' + 1) (by obtain ⟨p, hp, hh⟩ := hr3; exact ⟨p, hp, hh.drewN _⟩) (by omega), ⟨hgV3.os, hgV3.tape, hgV3.output, hgV3.size, hgV3.block⟩⟩
        case measure => simp [intOf]
      have hne : (t1 != f2) = false := by simpa using hE
      clear hE
      go_wp2_with fail
      go_quiet (fail)
      obtain ⟨w4, hw4⟩ : ∃ u, u = w3.drewN nq := ⟨_, rfl⟩
      have hr4 : RdF w4 R lo A n c (f + 4 + 3 * j' + 1) := by rw [hw4]; obtain ⟨p, hp, hh⟩ := hr3; exact ⟨p, hp, hh.drewN _⟩
      have hgV4 : W.grownBy w4 (some R) := by rw [hw4]; exact ⟨hgV3.os, hgV3.tape, hgV3.output, hgV3.size, hgV3.block⟩
      have hv4 : ResTurn w4 W.heap.size u5 zs := by rw [hw4]; exact hv3
      rw [← hw4]
      clear hw4 hr3 hgV3 hv3 hx3 b3 p1 q0 hne
      go_wp2_with fail
      refine (oneF (f := f + 4 + 3 * j') [-1, -1, 0, 3, 9] (hr4.alloc _) rfl (by simp) (by simp) (ints_new w4 _ rfl _) (by have := hr4.at_; omega)).mono ?_
      rintro e w5 ⟨z, rfl, hzm, hr5, hg5⟩
      have hgV5 := grown_trans hgV4 (grown_trans (World.grownBy_alloc w4 _ _) hg5)
      have hv5 := (hv4.below ((Past.refl w4).alloc _)).young hg5 hRW
      clear hzm hr4 hv4 hg5 hgV4
      obtain ⟨w6, hw6⟩ : ∃ u, u = w5.alloc (.cells #[.int .i64 ix, .int .i64 iy, .int .i64 z] 56) := ⟨_, rfl⟩
      have hb6 : Past w5 w6 := by rw [hw6]; exact (Past.refl w5).alloc _
      have t0 : w6.cell? ⟨w5.heap.size, 0, none⟩ = some (.int .i64 ix) := by rw [hw6]; go_simp
      have t1' : w6.cell? ⟨w5.heap.size, 1, none⟩ = some (.int .i64 iy) := by rw [hw6]; go_simp
      have t2' : w6.cell? ⟨w5.heap.size, 2, none⟩ = some (.int .i64 z) := by rw [hw6]; go_simp
      have hr6 := hr5.below hb6
      have hv6 := hv5.below hb6
      have hgV6 := grown_trans hgV5 (grown_of_below hb6 _)
      have hs6 := hgV6.size
      go_wp2_with fail
      rw [← hw6]
      clear hw6 hr5 hv5 hgV5 hb6
      obtain ⟨A5, cap5, rfl, hx5, _⟩ := hv6.form
      obtain ⟨D, hD⟩ : ∃ D, D = zs.length := ⟨_, rfl⟩
      have hown : w6.ownsRow W.heap.size 56 3 (.slice A5 zs.length cap5) D (cellsTurn zs) := by have := hv6; unfold ResTurn at this; rw [← hD] at this ⊢; exact this
      rw [← hD] at hjz hown ⊢
      have HD := Lib.hid hD
      have HO := Lib.hid hown
      have HV := Lib.hid hv6
      clear hD hown hv6
      go_wp2
      go_loop [10, 11] (fun b q => ∃ (i : Nat) (bb : Bool), i ≤ D ∧ q = .int .i64 i ∧ b = .bool bb) (fun _ q => D - (intOf q).toNat)
      case atStart => exact ⟨0, false, Nat.zero_le _, rfl, rfl⟩
      case round =>
        obtain ⟨i, bb, hiD, rfl, rfl⟩ := hrel
        by_cases hlt : i < D
        · obtain ⟨⟨s0, s1, s2⟩, hs⟩ : ∃ a, zs[i]? = some a := ⟨_, List.getElem?_eq_getElem (by have := HD.out; omega)⟩
          obtain ⟨g5, o5, rfl, z0, z1, z2⟩ := hx5 i _ hs
          clear hs
          have n0 : (0 : Int) ≤ (i : Int) := by omega
          have n1 : (i : Int) < (D : Int) := by omega
          cases bb with
          | true =>
            go_wp2
            go_round
            case rel => exact ⟨i + 1, true, by omega, by go_num, rfl⟩
            case measure => simp [intOf]; omega
          | false =>
            cases h1 : (s0 == (ix : Int)) with
            | false =>
              go_wp2
              go_round
              case rel => exact ⟨i + 1, false, by omega, by go_num, rfl⟩
              case measure => simp [intOf]; omega
            | true =>
              cases h2 : (s1 == (iy : Int)) with
              | false =>
                go_wp2
                go_round
                case rel => exact ⟨i + 1, false, by omega, by go_num, rfl⟩
                case measure => simp [intOf]; omega
              | true =>
                go_wp2
                go_round
                case rel => exact ⟨i + 1, true, by omega, by go_num, rfl⟩
                case measure => simp [intOf]; omega
        · obtain rfl : i = D := by omega
          cases bb with
          | true =>
            go_wp2
            go_roundw
            case rel => exact ⟨j', zs, by have := HD.out; omega, by go_num, by have := HV.out; rw [← HD.out] at this; exact this, hr6.less (by omega), hgV6⟩
            case measure => simp [intOf]
          | false =>
            go_wp2_with (first | (at_builtin; refine wpList_append_own _ rfl _ _ 33 rfl W.heap.size 56 i0 _ 3 24 Try.underlying33 hi hz0 hz1 hz2 rfl (by decide) _ i _ rfl (HO.out.alloc _) ⟨w6.heap.size, 0, none⟩ 1 1 [.int .i64 ix, .int .i64 iy, .int .i64 z] rfl rfl (newTurn w6 _ _ _ _) (cellsTurn_one [⟨ix, iy, z⟩]) (by unfold maxLen; omega) (by omega) (by simp; omega) ?_; intro v7 w7 hown' hgrow7 hnil7))
            go_roundw
            case rel => exact ⟨j', zs ++ [⟨ix, iy, z⟩], by rw [List.length_append, ← HD.out]; simp; omega, by go_num, ResTurn.push (a := ⟨ix, iy, z⟩) (by rw [← HD.out]; exact hown'), ((hr6.alloc _).own hgrow7 (HO.out.alloc _) hRW).less (by omega), grown_next (grown_trans hgV6 (World.grownBy_alloc w6 _ _)) hgrow7 (fun g e => (HO.out.lt g e).1)⟩
            case measure => simp [intOf]
    · have hcase : (∃ j', j = j' + 1 ∧ ¬ (0 : Int) < (k : Int)) ∨ j = 0 := by
        rcases Nat.eq_zero_or_pos j with e | e
        · exact .inr e
        · exact .inl ⟨j - 1, by omega, by omega⟩
      clear hgo
      have hlz : zs.length ≤ 8 := by omega
      have hfz : RdF wr R lo A n c (f + 4) := hrd.less (by omega)
      rcases hcase with ⟨j', rfl, hk0⟩ | rfl
      all_goals
        go_wp2_with fail
        refine (pickF (f := f + 3) _ hfz).mono ?_
        rintro e w2 ⟨x, rfl, x0, x1, hr2, hg2⟩
        have hv2 := hv.young hg2 hRW
        have hgV2 := grown_trans hgV hg2
        clear hv hg2 hgV hrd hfz b1 hjz
        by_cases hx0 : x = 0
        · subst hx0
          go_wp2_with fail
          refine (pickF (f := f + 2) _ hr2).mono ?_
          rintro e w3 ⟨y, rfl, y0, y1, hr3, hg3⟩
          go_wp2_with fail
          refine (pickF (f := f + 1) _ hr3).mono ?_
          rintro e w4 ⟨z, rfl, z0, z1, hr4, hg4⟩
          have hv4 := (hv2.young hg3 hRW).young hg4 hRW
          have hgV4 := grown_trans hgV2 (grown_trans hg3 hg4)
          clear hg3 hg4 hv2 hgV2 hr2 hr3
          go_wp2_with fail
          refine (oneF (f := f) [-2, 100, 1] (hr4.alloc _) rfl (by simp) (by simp) (ints_new w4 _ rfl _) (by have := hr4.at_; omega)).mono ?_
          rintro e w5 ⟨q, rfl, hqm, hr5, hg5⟩
          have hgV5 := grown_trans hgV4 (grown_trans (World.grownBy_alloc w4 _ _) hg5)
          have hs5 := hgV5.size
          have hv5 := (hv4.below ((Past.refl w4).alloc _)).young hg5 hRW
          obtain ⟨D, hD⟩ : ∃ D, D = zs.length := ⟨_, rfl⟩
          have hown : w5.ownsRow W.heap.size 56 3 u5 D (cellsTurn zs) := by have := hv5; unfold ResTurn at this; rw [← hD] at this; exact this
          have HO := Lib.hid hown
          rw [← hD] at hlz
          have HD := Lib.hid hD
          clear hown hD hqm hr4 hg5 hv4 hv5 hgV4
          go_wp2_with (first | (at_builtin; refine wpList_append_own _ rfl _ _ 33 rfl W.heap.size 56 i0 _ 3 24 Try.underlying33 hi hz0 hz1 hz2 rfl (by decide) _ D _ rfl (HO.out.alloc _) ⟨w5.heap.size, 0, none⟩ 1 1 [.int .i64 y, .int .i64 z, .int .i64 q] rfl rfl (newTurn w5 _ _ _ _) (cellsTurn_one [⟨y, z, q⟩]) (by unfold maxLen; omega) (by omega) (by simp; omega) ?_; intro v7 w7 hown' hgrow7 hnil7))
          go_ret
          exact ⟨_, zs ++ [⟨y, z, q⟩], rfl, by rw [List.length_append, ← HD.out]; simp; omega, ResTurn.lower (lo := W.heap.size) (ResTurn.push (a := ⟨y, z, q⟩) (by rw [← HD.out]; exact hown')) hle, ((hr5.alloc _).own hgrow7 (HO.out.alloc _) hRW), grown_trans hgW (grown_next (grown_trans hgV5 (World.grownBy_alloc w5 _ _)) hgrow7 (fun g e => (HO.out.lt g e).1))⟩
        · have b6 : (x == 0) = false := by simpa using hx0
          go_wp2
          go_ret
          exact ⟨_, zs, rfl, by omega, hv2.lower hle, hr2.less (by omega), grown_trans hgW hgV2⟩

end Go.Proofs.Ytjocbjjkihgcdaa
