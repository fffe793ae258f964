/-
  A cost for each arc, with heights taken off and put on: spec.CostLift. No condition.
-/
import Derived.Test.YtfhnkmakgijiaaaCLift
import Derived.Test.YtfhnkmakgijiaaaCOfS
namespace Go.Proofs.Ytfhnkmakgijiaaa
open Go.RowKit

set_option maxRecDepth 100000 in
set_option maxHeartbeats 2000000 in
theorem specCostLift_any (m : Int) (A : Option Addr) (n c : Nat) (xs : List ArcD) (B : Option Addr) (l cb : Nat) (ys : List Int) (w : World) (hn : n ≤ 1048576) (hnx : xs.length = n) (hx : ArcsAt w A xs) (hl : l ≤ 1048576) (hly : ys.length = l) (hy : IntsAt w B ys) :
    Calls Try.prog 28 #[.agg #[.int .i64 m, .slice A n c], .slice B l cb] w (GivesB w (liftI m xs ys) (liftB m xs ys)) := by
  have HX := Lib.hid hnx
  have HY := Lib.hid hly
  clear hnx hly
  obtain ⟨i0, hi, hz0, hz1, hz2⟩ := info_parts infoInt
  obtain ⟨Wb, hWb⟩ : ∃ Wb, Wb = w.alloc (.cells #[.int .i64 m, .slice A n c] 29) := ⟨_, rfl⟩
  obtain ⟨W, hW⟩ : ∃ W, W = Wb.alloc (.cells #[] 3) := ⟨_, rfl⟩
  have hb0 : Past w Wb := by rw [hWb]; exact (Past.refl _).alloc _
  have hbW : Past Wb W := by rw [hW]; exact (Past.refl _).alloc _
  have hsz : Wb.heap.size = w.heap.size + 1 := by rw [hWb]; simp
  have hres : Res W (w.heap.size + 1) (.slice (some ⟨w.heap.size + 1, 0, none⟩) 0 0) [] := by rw [hW, hWb]; exact res_none _ _ _
  have B0 : Wb.cell? ⟨w.heap.size, 0, none⟩ = some (.int .i64 m) := by rw [hWb]; go_simp
  have B1 : Wb.cell? ⟨w.heap.size, 1, none⟩ = some (.slice A n c) := by rw [hWb]; go_simp
  have HE := Lib.hid (hWb ▸ hW)
  have hx0 := hx.below hb0
  have hy0 := hy.below hb0
  clear hW hWb hx hy
  go_enter Try.func28, Try.ntmps28
  go_wp2_with fail
  rw [← HE.out]
  clear HE
  refine (l1Ok_any m A n c xs _ hn HX.out (hx0.below hbW)).mono ?_
  rintro e w1 ⟨rfl, hb1⟩
  have hres := hres.below hb1
  have hb1 := hbW.trans hb1
  have b0 := cell_in hb1 B0
  have b1 := cell_in hb1 B1
  clear hbW
  cases hB : netB m xs with
  | false =>
    have HB := Lib.hid (lift_bad (m := m) (xs := xs) (hs := ys) (by rw [highB, hB]; rfl))
    clear hB
    go_wp2
    go_ret2
    exact ⟨_, by rw [HB.out.1]; rfl, by rw [HB.out.2]; exact Res.nil _ _, hb0.trans hb1⟩
  | true =>
    have h16 := net_num hB
    rw [HX.out] at h16
    have HB := Lib.hid hB
    clear hB
    by_cases hlm : (l : Int) = m
    rotate_left
    · have e1 : ((l : Int) != m) = true := by simpa using hlm
      have HC := Lib.hid (lift_bad (m := m) (xs := xs) (hs := ys) (by rw [highB, HY.out, decide_eq_false hlm]; simp))
      go_wp2
      go_ret2
      exact ⟨_, by rw [HC.out.1]; rfl, by rw [HC.out.2]; exact Res.nil _ _, hb0.trans hb1⟩
    subst hlm
    have e1 : ((l : Int) != (l : Int)) = false := by simp
    go_wp2
    clear e1
    go_loopw [7] (fun i wr => ∃ k : Nat, k ≤ l ∧ i = .int .i64 k ∧ Past w1 wr ∧ (ys.take k).all (fun z => inB z 0 99) = true) (fun i _ => l - (intOf i).toNat)
    case atStart => exact ⟨0, by omega, rfl, Past.refl _, by simp⟩
    case round =>
      obtain ⟨k, hk, rfl, hb, hok⟩ := hrel
      have HK := Lib.hid hok
      clear hok
      have b1 := cell_in hb b1
      have hb2 := hb1.trans hb
      by_cases hlt : k < l
      · obtain ⟨y, ha⟩ : ∃ a, ys[k]? = some a := ⟨_, List.getElem?_eq_getElem (by have := HY.out; omega)⟩
        obtain ⟨g, o, rfl, c0⟩ := (hy0.below hb2) k _ ha
        have HA := Lib.hid ha
        clear ha
        have i0 : (0 : Int) ≤ (k : Int) := by omega
        have i1 : (k : Int) < (l : Int) := by omega
        go_wp2_with fail
        refine (l1In_any y 0 99 _).mono ?_
        rintro e w2 ⟨rfl, rfl⟩
        cases hB : inB y 0 99 with
        | false =>
          have HC := Lib.hid (lift_bad (m := (l : Int)) (xs := xs) (hs := ys) (by rw [highB, allB, all_bad HA.out hB]; simp))
          clear hB
          go_wp2
          go_ret2
          exact ⟨_, by rw [HC.out.1]; rfl, by rw [HC.out.2]; exact Res.nil _ _, hb0.trans hb2⟩
        | true =>
          have HC := Lib.hid hB
          clear hB
          go_wp2
          go_roundw
          case rel => exact ⟨k + 1, by omega, by go_num, hb, all_next HK.out HA.out HC.out⟩
          case measure => simp [intOf]; omega
      · obtain rfl : l = k := by omega
        have HH : Hid (highB (l : Int) xs ys = true) := (highB_iff _ _ _).2 ⟨HB.out, by rw [HY.out], all_done HK.out HY.out⟩
        have hr0 : Res wr (w.heap.size + 1) (.slice (some ⟨w.heap.size + 1, 0, none⟩) 0 0) (liftsOf ys (xs.take 0)) := by simpa [liftsOf] using hres.below hb
        clear hres HK hb hb1 b0
        obtain ⟨w2, hw2⟩ : ∃ w2, w2 = wr := ⟨_, rfl⟩
        rw [← hw2] at hb2 b1 hr0 ⊢
        clear hw2
        go_wp2
        go_loopw [6, 8] (fun v i wr => ∃ k : Nat, k ≤ n ∧ i = .int .i64 k ∧ Res wr (w.heap.size + 1) v (liftsOf ys (xs.take k)) ∧ Past Wb wr) (fun _ i _ => n - (intOf i).toNat)
        case atStart => exact ⟨0, by omega, rfl, hr0, hb2⟩
        case round =>
          obtain ⟨k, hk, rfl, hv, hb⟩ := hrel
          clear b1 hr0
          have hz := hb.size
          have b0 := cell_in hb B0
          have b1 := cell_in hb B1
          by_cases hlt : k < n
          · obtain ⟨⟨f, t, c', l', d⟩, ha⟩ : ∃ a, xs[k]? = some a := ⟨_, List.getElem?_eq_getElem (by have := HX.out; omega)⟩
            obtain ⟨g', o', rfl, d0, d1, d2, d3, d4⟩ := (hx0.below hb) k _ ha
            obtain ⟨x, y, q1, q2, bx, by_, bc, bf, bt, eo⟩ := lift_way HH.out ha
            simp only at q1 q2 bc bf bt eo
            have HN : Hid (liftsOf ys (xs.take (k + 1)) = liftsOf ys (xs.take k) ++ [c' - x + y]) := by rw [Hid, liftsOf_next ha, eo]
            have hkl : (liftsOf ys (xs.take k)).length = k := by rw [liftsOf, List.length_map, List.length_take, HX.out]; omega
            have HKL := Lib.hid hkl
            obtain ⟨g, o, rfl, c0⟩ := (hy0.below hb) _ _ q1
            obtain ⟨g1, o1, eg, c1⟩ := (hy0.below hb) _ _ q2
            injection eg with eg
            injection eg with eg1 eg2
            subst eg1 eg2
            have t1 : IntKind.i64.wrap (c' - x) = c' - x := IntWalk.i64_in _ (by omega)
            obtain ⟨z, hzz⟩ : ∃ z, z = c' - x + y := ⟨_, rfl⟩
            have t2 : IntKind.i64.wrap (c' - x + y) = z := by rw [hzz]; exact IntWalk.i64_in _ (by omega)
            rw [← hzz] at HN
            clear hzz
            have lg : g < w.heap.size + 1 := by
              obtain ⟨g1, o1, e, h⟩ := hy0 _ _ q1
              injection e with e
              injection e with e1 e2
              subst e1
              have h3 : g < Wb.heap.size := lt_of_cell h
              omega
            have hlo := fun b hb => (World.ownsRow.lt hv b hb).1
            have hlz := fun b hb => (World.ownsRow.lt hv b hb).2
            have ag : u6.ownBlock ≠ some g := fun e => by have := hlo _ e; omega
            have ar : u6.ownBlock ≠ some wr.heap.size := fun e => by have := hlz _ e; omega
            unfold Res at hv
            rw [hkl] at hv
            clear ha eo hkl hlo hlz
            have i0' : (0 : Int) ≤ (k : Int) := by omega
            have i1 : (k : Int) < (n : Int) := by omega
            have f0 := bf.1
            have f1 := bf.2
            have u0' := bt.1
            have u1' := bt.2
            go_wp2_with fail
            obtain ⟨W2, hW2⟩ : ∃ W2, W2 = wr.alloc (.cells #[.int .i64 f, .int .i64 t, .int .i64 c', .int .i64 l', .int .i64 d] 52) := ⟨_, rfl⟩
            rw [← hW2]
            have hbW2 : Past wr W2 := by rw [hW2]; exact (Past.refl _).alloc _
            have s2 : wr.heap.size < W2.heap.size := by rw [hW2]; simp
            have e0 : W2.cell? ⟨wr.heap.size, 0, none⟩ = some (.int .i64 f) := by rw [hW2]; go_simp
            have e1 : W2.cell? ⟨wr.heap.size, 1, none⟩ = some (.int .i64 t) := by rw [hW2]; go_simp
            have e2 : W2.cell? ⟨wr.heap.size, 2, none⟩ = some (.int .i64 c') := by rw [hW2]; go_simp
            have c0 := cell_in hbW2 c0
            have c1 := cell_in hbW2 c1
            have hv2 : W2.ownsRow (w.heap.size + 1) 3 1 u6 k (ints (liftsOf ys (xs.take k))) := by rw [hW2]; exact hv.alloc _
            have hb2 := hb.trans hbW2
            have hz2' := hb2.size
            clear hW2 d0 d1 d2 d3 d4 hv hbW2
            go_region_held3 (fun w' => w'.cell? ⟨wr.heap.size, 0, none⟩ = some (.int .i64 f) ∧ w'.cell? ⟨wr.heap.size, 1, none⟩ = some (.int .i64 t) ∧ w'.cell? ⟨wr.heap.size, 2, none⟩ = some (.int .i64 c') ∧ w'.cell? ⟨g, o + f.toNat, none⟩ = some (.int .i64 x) ∧ w'.cell? ⟨g, o + t.toNat, none⟩ = some (.int .i64 y))
              (first
                | go_keep
                | (go_split_ands
                   refine ⟨?_, ?_, ?_, ?_, ?_⟩
                   · (rw [hgrow.cell_far _ (by simp; omega) (Ne.symm ar)]; assumption)
                   · (rw [hgrow.cell_far _ (by simp; omega) (Ne.symm ar)]; assumption)
                   · (rw [hgrow.cell_far _ (by simp; omega) (Ne.symm ar)]; assumption)
                   · (rw [hgrow.cell_far _ (by simp; omega) (Ne.symm ag)]; assumption)
                   · (rw [hgrow.cell_far _ (by simp; omega) (Ne.symm ag)]; assumption)))
              ((refine step_append_lies _ (by rfl) _ _ _ (by rfl) (w.heap.size + 1) 3 i0 _ 1 8 Try.underlying25 hi hz0 hz1 hz2 rfl (by omega) u6 k (ints (liftsOf ys (xs.take k))) (by rfl) ((hv2.alloc _).drew) ⟨W2.heap.size, 0, none⟩ 1 1 [.int .i64 z] (by rfl) (by rfl) (World.news_of_block (cs := #[.int .i64 z]) (t := 3) (fr := (0, 0)) (heap_alloc_new W2 _)) (one_cell z) (by omega) (by unfold maxLen; omega) (by omega) (by simp; omega) (W2.heap.size + 1) (by simp) ?_; intro gg cap w3 hown1 hgrow hat hlt'))
            go_wp2
            go_roundw
            case rel => exact ⟨k + 1, by omega, by go_num, Res.step hown1 (by rw [HN.out, List.length_append, HKL.out]; rfl) HN.out, Past.grown (hb2.alloc _).drew ((hv2.alloc _).drew) hgrow (by omega)⟩
            case measure => simp [intOf]; omega
          · obtain rfl : n = k := by omega
            rw [List.take_of_length_le (by rw [HX.out]; exact Nat.le_refl _)] at hv
            have hcl : (liftsOf ys xs).length = n := by rw [liftsOf, List.length_map, HX.out]
            obtain ⟨D, cd, rfl, hd3, _⟩ := hv.form
            obtain ⟨cs, hcs⟩ : ∃ cs, cs = liftsOf ys xs := ⟨_, rfl⟩
            rw [← hcs] at hcl hv hd3
            rw [hcl] at hv
            have HCL := Lib.hid hcl
            have HCS := Lib.hid hcs
            have HVL : Hid ((liftsOf ys xs).length = n) := by rw [Hid, ← hcs, hcl]
            rw [HVL.out]
            clear hcl hcs
            go_wp2_with fail
            refine (l9Ok_any (l : Int) A n c D n cd cs _ HCL.out hn hd3).mono ?_
            rintro e w4 ⟨rfl, hb4⟩
            have hM : (decide (cs.length = n) && allB cs) = liftB (l : Int) xs ys := by rw [liftB, HH.out, HCL.out, HCS.out]; simp
            rw [hM]
            have hv4 := (hv.below hb4).lower (show w.heap.size ≤ w.heap.size + 1 by omega)
            have hb4 := (hb0.trans hb).trans hb4
            clear hM hv
            cases hL : liftB (l : Int) xs ys with
            | false =>
              have HL := Lib.hid hL
              clear hL
              go_wp2
              go_ret2
              exact ⟨_, by rw [HL.out]; rfl, by rw [liftI, HL.out]; exact Res.nil _ _, hb4⟩
            | true =>
              have HL := Lib.hid hL
              clear hL
              go_wp2
              go_ret2
              exact ⟨_, by rw [HL.out]; rfl, by rw [liftI, HL.out, if_pos rfl, ← HCS.out]; exact hv4, hb4⟩

end Go.Proofs.Ytfhnkmakgijiaaa
