/-
  The best way from a node to another one, as the program goes: impl.NearWalk. No condition.
-/
import Derived.Test.YtokljfeoignbcaaNWalk
namespace Go.Proofs.Ytokljfeoignbcaa
open Go.RowKit

set_option maxRecDepth 100000 in
set_option maxHeartbeats 2000000 in
theorem implNearWalk_all (m : Int) (A : Option Addr) (n c : Nat) (xs : List ArcD) (a b : Int) (w : World) (hn : n ≤ 1048576) (hnx : xs.length = n) (hx : ArcsAt w A xs) (ho : (A = none ∧ n = 0) ∨ ∃ g o, A = some ⟨g, o, none⟩) :
    Calls Try.prog 27 #[.agg #[.int .i64 m, .slice A n c], .int .i64 a, .int .i64 b] w (GivesB w (nearWI m xs a b) (nearWB m xs a b)) := by
  have HX := Lib.hid hnx
  clear hnx
  obtain ⟨i0, hi, hz0, hz1, hz2⟩ := info_parts infoInt
  go_enter Try.func27, Try.ntmps27
  have hb0 : Past w ((w.alloc (.cells #[.int .i64 m, .slice A n c] 30)).alloc (.cells #[.int .i64 a, .int .i64 b] 3)) := ((Past.refl _).alloc _).alloc _
  have hz : IntsAt ((w.alloc (.cells #[.int .i64 m, .slice A n c] 30)).alloc (.cells #[.int .i64 a, .int .i64 b] 3)) (some ⟨w.heap.size + 1, 0, none⟩) [a, b] := fun k y hk => by
    match k, hk with
    | 0, hk => simp at hk; subst hk; exact ⟨_, _, rfl, by go_simp⟩
    | 1, hk => simp at hk; subst hk; exact ⟨_, _, rfl, by go_simp⟩
    | k + 2, hk => simp at hk
  go_wp2_with fail
  refine (netHas_any m A n c xs _ 2 2 [a, b] _ hn HX.out (hx.below hb0) (by omega) rfl hz).mono ?_
  rintro e w1 ⟨rfl, hb1⟩
  have b0 := cell_in (p := ⟨w.heap.size, 0, none⟩) (v := .int .i64 m) hb1 (by go_simp)
  have b1 := cell_in (p := ⟨w.heap.size, 1, none⟩) (v := .slice A n c) hb1 (by go_simp)
  have hx1 := (hx.below hb0).below hb1
  have hp1 := hb0.trans hb1
  have hH : (netB m xs && [a, b].all (fun z => inB z 0 (m - 1))) = hereB2 m xs a b := by simp [hereB2, hereB, Bool.and_assoc]
  rw [hH]
  clear hH hb0 hz hb1
  cases hB : hereB2 m xs a b with
  | false =>
    have HB := Lib.hid hB
    clear hB
    go_wp2
    refine bodyPost_ret (v := .tuple #[.slice none 0 0, .bool false]) (by simp [results, Try.results27, go_sem]) rfl ?_
    exact ⟨_, by rw [nearWB, HB.out]; rfl, by rw [nearWI, HB.out]; exact Res.nil _ _, hp1⟩
  | true =>
    obtain ⟨hN, ⟨ha0, ha1⟩, hbb0, hbb1⟩ := (hereB2_iff _ _ _ _).1 hB
    obtain ⟨M, rfl, h3, h8⟩ := here_nat hN
    have hbh : hereB (M : Int) xs b = true := (hereB_iff _ _ _).2 ⟨hN, hbb0, hbb1⟩
    have h16 : n ≤ 16 := by rw [← HX.out]; exact ((netB_iff _ _).1 hN).2.1
    have HBH := Lib.hid hbh
    have HB := Lib.hid hB
    have HN := Lib.hid hN
    have HT := Lib.hid (treeL_of (arcsIn_net hN) ⟨hbb0, hbb1⟩ h8)
    clear hB hN hbh
    go_wp2_with fail
    refine (implNearTree_all (M : Int) A n c xs b _ hn HX.out hx1 ho).mono ?_
    rintro e W ⟨v2, rfl, hv2, hb2⟩
    have b0 := cell_in hb2 b0
    have b1 := cell_in hb2 b1
    have hxW := hx1.below hb2
    have hpW := hp1.trans hb2
    obtain ⟨Z, cz, rfl, hz2', _⟩ := hv2.form
    have htr : treeTI (M : Int) xs b = treeM M xs b := by rw [treeTI, HBH.out, if_pos rfl, Int.toNat_natCast]
    rw [htr, treeM_length]
    rw [htr] at hz2'
    have hcell : ∀ v : Int, 0 ≤ v → v < M → ∃ g o, Z = some ⟨g, o, none⟩ ∧ W.cell? ⟨g, o + v.toNat, none⟩ = some (.int .i64 (treeI xs (labsOf M xs b) v)) := fun v h0 h1 => by
      obtain ⟨g, o, e, h⟩ := hz2' v.toNat _ (treeM_get M xs b (v := v.toNat) (by omega))
      refine ⟨g, o, e, ?_⟩
      rw [h, show ((v.toNat : Nat) : Int) = v by omega]
    obtain ⟨gZ, oZ, rfl, _⟩ := hcell b hbb0 hbb1
    have hcell2 : ∀ v : Int, 0 ≤ v → v < M → W.cell? ⟨gZ, oZ + v.toNat, none⟩ = some (.int .i64 (treeI xs (labsOf M xs b) v)) := fun v h0 h1 => by
      obtain ⟨g, o, e, h⟩ := hcell v h0 h1
      injection e with e
      injection e with e1 e2
      subst e1 e2
      exact h
    obtain ⟨L, hL⟩ : ∃ L, L = labsOf M xs b := ⟨_, rfl⟩
    have hfar : farB M xs b a = decide (lab L a = farL) := by rw [hL]; rfl
    have hway : wayM M xs a b = if farB M xs b a then [] else wayL xs L b a := by rw [hL]; rfl
    rw [← hL] at hcell2 HT
    have HC := Lib.hid hcell2
    have HWAY := Lib.hid hway
    have HFAR := Lib.hid hfar
    have hgW : gZ < W.heap.size := lt_of_cell (hcell2 b hbb0 hbb1)
    clear hcell hcell2 hz2' hv2 htr hL hway hfar hb2 hx1
    go_wp2
    go_loopw [9, 10] (fun v q wr => ∃ (at' : Int) (zs : List Int), q = .int .i64 at' ∧ 0 ≤ at' ∧ at' < M ∧ (lab L at' = farL ↔ lab L a = farL) ∧ Res wr W.heap.size v zs ∧ (lab L a ≠ farL → wayL xs L b a = zs ++ wayL xs L b at') ∧ zs.length + (lab L at').x1.toNat ≤ 7 ∧ Past W wr) (fun _ q _ => (lab L (intOf q)).x1.toNat)
    case atStart => exact ⟨a, [], rfl, ha0, ha1, Iff.rfl, Res.nil _ _, fun _ => rfl, by have := HT.out.bound a ha0 ha1; simp; omega, Past.refl _⟩
    case round =>
      obtain ⟨at', zs, rfl, t0, t1, hiff, hv, hzs, hzl, hbr⟩ := hrel
      by_cases hat : at' = b
      · subst hat
        have hne : (at' != at') = false := by simp
        have hfa : lab L a ≠ farL := fun e => by
          have := hiff.2 e
          rw [HT.out.lab_to] at this
          unfold farL farI at this
          simp at this
        have hB2 : farB M xs at' a = false := by rw [HFAR.out]; simpa using hfa
        have hzs := hzs hfa
        rw [HT.out.wayL_to, List.append_nil] at hzs
        have HZ := Lib.hid hzs
        have HB2 := Lib.hid hB2
        clear hzs hB2 hne
        go_wp2
        refine bodyPost_ret (v := .tuple #[u9, .bool true]) (by simp [results, Try.results27, go_sem]) rfl ?_
        refine ⟨_, by rw [nearWB, HB.out, Int.toNat_natCast, HB2.out]; rfl, ?_, hpW.trans hbr⟩
        rw [nearWI, HB.out, if_pos rfl, Int.toNat_natCast, HWAY.out, HB2.out, if_neg (by simp), HZ.out]
        exact hv.lower hpW.size
      · have hne : (at' != b) = true := by simpa using hat
        have cA := cell_in hbr (HC.out at' t0 t1)
        by_cases hf : lab L at' = farL
        · have hB2 : farB M xs b a = true := by rw [HFAR.out]; simpa using hiff.1 hf
          rw [HT.out.none at' (.inr hf)] at cA
          have HB2 := Lib.hid hB2
          clear hB2 hf hiff
          go_wp2
          refine bodyPost_ret (v := .tuple #[.slice none 0 0, .bool false]) (by simp [results, Try.results27, go_sem]) rfl ?_
          refine ⟨_, by rw [nearWB, HB.out, Int.toNat_natCast, HB2.out]; rfl, ?_, hpW.trans hbr⟩
          rw [nearWI, HB.out, if_pos rfl, Int.toNat_natCast, HWAY.out, HB2.out, if_pos rfl]
          exact Res.nil _ _
        · obtain ⟨j, ⟨f1, t1', c1, l1, d1⟩, e1, e2, e3, e4, e5, _, e7, e8⟩ := HT.out.some at' hat hf t0 t1
          have hstep := HT.out.wayL_step hat e1 e2 e5
          have hbt := arcsIn_net HN.out _ (List.mem_of_getElem? e2)
          simp only at e4 e5 hbt hstep
          rw [e1] at cA
          have hjn : j < n := by rw [← HX.out]; exact (List.getElem?_eq_some_iff.1 e2).1
          have hbT := HT.out.bound t1' (by omega) (by omega)
          have hjn0 : ¬ ((j : Int) < 0) := by omega
          have j0 : (0 : Int) ≤ (j : Int) := by omega
          have j1 : (j : Int) < (n : Int) := by omega
          obtain ⟨gx, ox, rfl, _, c1', _, _, _⟩ := (hxW.below hbr) j _ e2
          have hgx : gx < w.heap.size := by
            obtain ⟨g'', o'', e, hh⟩ := hx j _ e2
            injection e with e
            injection e with e1 e2
            subst e1
            exact hh.lt
          have b1' := cell_in hbr b1
          have hs1 := hpW.size
          have hs2 := hbr.size
          have hwW : w.heap.size < W.heap.size := lt_of_cell b1
          have hvA : (wr.alloc (.cells #[.int .i64 (j : Int)] 3)).ownsRow W.heap.size 3 1 u9 zs.length (ints zs) := World.ownsRow.alloc hv _
          have hpa5 : Past wr (wr.alloc (.cells #[.int .i64 (j : Int)] 3)) := (Past.refl wr).alloc _
          have hb1' : ∀ w3, (wr.alloc (.cells #[.int .i64 (j : Int)] 3)).grownBy w3 u9.ownBlock → w3.cell? ⟨w.heap.size, 1, none⟩ = some (.slice (some ⟨gx, ox, none⟩) n c) := fun w3 hg => hg.cell (cell_in hpa5 b1') (own_ne (g := w.heap.size) hvA (by omega))
          have hc1' : ∀ w3, (wr.alloc (.cells #[.int .i64 (j : Int)] 3)).grownBy w3 u9.ownBlock → w3.cell? ⟨gx, ox + j * 5 + 1, none⟩ = some (.int .i64 t1') := fun w3 hg => hg.cell (cell_in hpa5 c1') (own_ne (g := gx) hvA (by omega))
          have HB1 := Lib.hid hb1'
          have HC1 := Lib.hid hc1'
          have HSTEP := Lib.hid hstep
          have HZS := Lib.hid hzs
          have hfa : lab L a ≠ farL := fun e => hf (hiff.2 e)
          obtain ⟨D, hD⟩ : ∃ D, D = zs.length := ⟨_, rfl⟩
          rw [← hD] at hvA hzl
          have HDD := Lib.hid hD
          clear hb1' hc1' hstep hzs e1 e2 e3 e7 e8 hD c1' hiff
          go_wp2_with (first | (at_builtin; refine wpList_append_own _ rfl _ _ 26 rfl W.heap.size 3 i0 (.int .i64 0) 1 8 Try.underlying26 hi hz0 hz1 hz2 rfl (by decide) _ _ _ rfl hvA ⟨wr.heap.size, 0, none⟩ 1 1 [.int .i64 (j : Int)] rfl rfl (cell_one_new _ _ _) (one_cell _) (by unfold maxLen; omega) (by omega) (by simp; omega) ?_; intro v' w3 hown' hgrow3 hnil3; have b1 := HB1.out _ hgrow3; have c1 := HC1.out _ hgrow3))
          go_roundw
          case rel =>
            refine ⟨t1', zs ++ [(j : Int)], by go_num, by omega, by omega, ⟨fun e => absurd e e4, fun e => absurd e hfa⟩, Res.push (by rw [← HDD.out]; exact hown'), fun _ => ?_, ?_, Past.grown (hbr.alloc _) hvA hgrow3 (Nat.le_refl _)⟩
            · rw [HZS.out hfa, HSTEP.out, List.append_assoc]; rfl
            · rw [List.length_append, ← HDD.out]; simp; omega
          case measure => simp only [intOf]; omega
theorem implNearWalk_any (m : Int) (g n c : Nat) (xs : List ArcD) (a b : Int) (w : World) (hn : n ≤ 1048576) (hnx : xs.length = n) (hx : ArcsAt w (some ⟨g, 0, none⟩) xs) :
    Calls Try.prog 27 #[.agg #[.int .i64 m, .slice (some ⟨g, 0, none⟩) n c], .int .i64 a, .int .i64 b] w (GivesB w (nearWI m xs a b) (nearWB m xs a b)) :=
  implNearWalk_all m _ n c xs a b w hn hnx hx (.inr ⟨_, _, rfl⟩)

end Go.Proofs.Ytokljfeoignbcaa
