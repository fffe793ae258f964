/-
  FnTurnsOk answers true at every input: turns are ok without any of them; with one twice they are not. No condition.
-/
import Derived.Test.YtjocbjjkihgcdaaTOkS
import Derived.Test.YtjocbjjkihgcdaaTApp
import Derived.Test.YtjocbjjkihgcdaaPTurn3
import Derived.Test.YtjocbjjkihgcdaaDrawTurnsOk
import Derived.Test.YtjocbjjkihgcdaaOpenB
import Derived.Test.YtjocbjjkihgcdaaQPast
namespace Go.Proofs.Ytjocbjjkihgcdaa
open Go.ChangeShapes Go.WideShapes Go.ChangeAt Go.RowKit

theorem twiceOf {w : World} {lo k : Nat} {v : Value} {ts : List TurnD} {x0 x1 x2 : Int} {cs : List Value} (h : w.ownsRow lo 56 3 v k cs) (hk : k = ts.length + 1) (hc : cs = cellsTurn ts ++ [.int .i64 x0, .int .i64 x1, .int .i64 x2]) : ∃ A c, v = .slice A k c ∧ TurnsAt w A (ts ++ [⟨x0, x1, x2⟩]) := by
  have hr : ResTurn w lo v (ts ++ [⟨x0, x1, x2⟩]) := res_of_own h (by simp [hk]) (by rw [hc, cellsTurn_append]; rfl)
  obtain ⟨A, c, rfl, h1, _⟩ := hr.form
  exact ⟨A, c, by rw [hk]; simp, h1⟩
/-- What region 10 leaves: the turns without one of them, in new memory. -/
def FewCut (wr : World) (zs : List TurnD) (D : Nat) (v : Value) (wc : World) : Prop := ∃ A2 c2, v = .slice A2 D c2 ∧ TurnsAt wc A2 zs ∧ Past wr wc
theorem fewCut_of {wr w : World} {lo : Nat} {v : Value} {ts : List TurnD} {j k D : Nat} {cs : List Value} (h : w.ownsRow lo 56 3 v k cs) (hj : j < ts.length) (hk : k = ts.length - 1) (hD : D = ts.length - 1) (hc : cs = cellsTurn (ts.take j) ++ cellsTurn (ts.drop (j + 1))) (hp : Past wr w) : FewCut wr (fewT ts j) D v w := by
  have hr : ResTurn w lo v (fewT ts j) := res_of_own h (by rw [fewT_len hj, hk]) (by rw [hc, fewT, cellsTurn_append])
  obtain ⟨A, c, rfl, h1, _⟩ := hr.form
  exact ⟨A, c, by rw [fewT_len hj, hD], h1, hp⟩

set_option maxRecDepth 100000 in
set_option maxHeartbeats 8000000 in
theorem fnTurnsOk_walk (A : Option Addr) (n c : Nat) (w : World) (hn : n ≤ c) (hc : c ≤ maxLen) (hb : BytesAt w A n) :
    Calls Try.prog 8 #[.slice A n c] w fun e w' => e = .returned (.bool true) ∧ Below w.heap.size w w' := by
  by_cases h1 : 1048576 < n
  · have h1' : (1048576 : Int) < (n : Int) := by omega
    go_enter Try.func8, Try.ntmps8
    go_wp2
    go_ret
    exact ⟨rfl, Below.refl _ _⟩
  have h1' : ¬ (1048576 : Int) < (n : Int) := by omega
  obtain ⟨i0, hi, hz0, hz1, hz2⟩ := info_parts infoTurn
  go_enter Try.func8, Try.ntmps8
  go_wp2_with fail
  refine (drawTurnsOk_any A n c w hn hc hb).mono ?_
  rintro e w1 ⟨m, B, k, cap, xs, u, ts, rfl, hxk, hk, hx1, htl, hu, hb1⟩
  obtain ⟨E, ce, rfl, ht1, hlc, hcm, hE⟩ := hu.form2
  obtain ⟨l, hl⟩ : ∃ l, l = ts.length := ⟨_, rfl⟩
  rw [← hl] at htl hlc hE ⊢
  have HX := Lib.hid hxk
  have HT := Lib.hid hl.symm
  clear hl hxk hu hn hc hb
  obtain ⟨W, hW⟩ : ∃ W, W = w1.alloc (.cells #[.int .i64 m, .slice B k cap] 31) := ⟨_, rfl⟩
  have hpW : Past w1 W := by rw [hW]; exact (Past.refl w1).alloc _
  have b0 : W.cell? ⟨w1.heap.size, 0, none⟩ = some (.int .i64 m) := by rw [hW]; go_simp
  have b1 : W.cell? ⟨w1.heap.size, 1, none⟩ = some (.slice B k cap) := by rw [hW]; go_simp
  have hxW := hx1.below hpW
  have htW := ht1.below hpW
  have hbW : Past w W := Past.trans hb1 hpW
  go_wp2_with fail
  rw [← hW]
  clear hW hx1 ht1 hpW hb1
  have C3 := Lib.hid (fun q : PastOf W => implTurnsOk_any m B k cap xs E l ce ts q.W (by omega) HX.out (hxW.below q.h) (by omega) HT.out (htW.below q.h))
  have C4 := Lib.hid (fun q : PastOf W => specTurnsOk_any m B k cap xs E l ce ts q.W (by omega) HX.out (hxW.below q.h) (by omega) HT.out (htW.below q.h))
  refine (C3.out ⟨W, Past.refl _⟩).mono ?_
  rintro e w2 ⟨rfl, hb2⟩
  have hp2 : Past W w2 := hb2
  have b0' := cell_in hp2 b0
  have b1' := cell_in hp2 b1
  clear hb2
  cases hTO : turnsB m xs ts with
  | false =>
    rw [hTO] at C4
    clear hTO
    go_wp2_with fail
    refine (C4.out ⟨w2, hp2⟩).mono ?_
    rintro e w3 ⟨rfl, hb3⟩
    have hp3 : Past W w3 := Past.trans hp2 hb3
    have b0' := cell_in hb3 b0'
    have b1' := cell_in hb3 b1'
    clear hb3 hp2
    go_wp2_with fail
    refine (C4.out ⟨w3, hp3⟩).mono ?_
    rintro e w4 ⟨rfl, hb4⟩
    go_wp2
    go_ret
    exact ⟨rfl, hbW.trans (hp3.trans hb4)⟩
  | true =>
  have HTO := Lib.hid hTO
  rw [hTO] at C4
  clear hTO
  go_wp2_with fail
  refine (C4.out ⟨w2, hp2⟩).mono ?_
  rintro e w3 ⟨rfl, hb3⟩
  have hp3 : Past W w3 := Past.trans hp2 hb3
  clear hb3 hp2 b0' b1' C3 C4
  go_wp2
  go_loopw [6] (fun i wr => ∃ j : Nat, j ≤ l ∧ i = .int .i64 j ∧ Past W wr) (fun i _ => l - (intOf i).toNat)
  case atStart => exact ⟨0, Nat.zero_le _, rfl, hp3⟩
  case round =>
    obtain ⟨j, hj, rfl, hb⟩ := hrel
    clear hp3
    by_cases hlt : j < l
    · obtain ⟨g, rfl, hgE⟩ : ∃ g, E = some ⟨g, 0, none⟩ ∧ w.heap.size ≤ g := by
        rcases hE with ⟨_, h0, _⟩ | h
        · omega
        · exact h
      obtain ⟨⟨x0, x1, x2⟩, hs⟩ : ∃ a, ts[j]? = some a := ⟨_, List.getElem?_eq_getElem (by have := HT.out; omega)⟩
      have htr := htW.below hb
      have hxr := hxW.below hb
      have HS := Lib.hid hs
      have i0' : (0 : Int) ≤ (j : Int) := by omega
      have i1 : (j : Int) < (l : Int) := by omega
      have i2 : (j : Int) ≤ (ce : Int) := by omega
      have i3 : (0 : Int) ≤ (j : Int) + 1 := by omega
      have i4 : (j : Int) + 1 ≤ (l : Int) := by omega
      have i5 : (l : Int) ≤ (ce : Int) := by omega
      have i6 : (j : Int) + 1 ≤ (ce : Int) := by omega
      have e1 : ((j : Int) + 1).toNat = j + 1 := by omega
      have e2 : IntKind.i64.wrap ((j : Int) + 1) = (j : Int) + 1 := IntWalk.i64_in _ (by omega)
      clear hs
      have hres0 : ResTurn (wr.drew.alloc (.cells #[] 56)) wr.heap.size (.slice (some ⟨wr.heap.size, 0, none⟩) 0 0) [] := World.ownsRow_made wr.drew _ 0 (Nat.le_refl _) (by unfold maxLen; omega) rfl
      have M1 : True := trivial
      have hdr : TurnsAt wr (some ⟨g, (j + 1) * 3, none⟩) (ts.drop (j + 1)) := by simpa using turns_drop htr (j + 1)
      have M2 : True := trivial
      go_wp2_with fail
      go_upto_region 10 with (fail)
      go_cut [7] (FewCut wr (fewT ts j) (l - 1))
      case first =>
        by_cases hcj : ce = j + 1
        · obtain rfl : l = j + 1 := by omega
          subst hcj
          have hdn : ts.drop (j + 1) = [] := List.drop_of_length_le (by rw [HT.out]; exact Nat.le_refl _)
          have HDN := Lib.hid hdn
          have hnil : TurnsAt wr (some ⟨g, 0, none⟩) [] := fun k a h => by simp at h
          clear hdr hdn i1 i2 i4 i5 i6
          have k1 : (j : Int) ≤ (j : Int) + 1 := by omega
          have k2 : (j : Int) < (j : Int) + 1 := by omega
          go_region_held3 (fun _ => True) (trivial)
            (first
              | (have _t := M1; refine step_append_any (by rfl) _ _ _ (by rfl) wr.heap.size 56 i0 _ 3 24 Try.underlying33 hi hz0 hz1 hz2 rfl (by omega) (.slice (some ⟨wr.heap.size, 0, none⟩) 0 0) 0 [] (by rfl) hres0 _ _ _ (by rfl) (cellsTurn (ts.take j)) (by rw [cellsTurn_length, List.length_take, HT.out]; omega) (turns_news (turns_take (htr.below (((Past.refl wr).drew).alloc _)) j)) (cellsTurn_one _) (by unfold maxLen; omega) (by omega) (by simp) ?_; intro v1 w9 hown1 hgrow1 hat1; clear M1; have hp9 : Past wr w9 := past_grown (R := wr.heap.size) (((Past.refl wr).drew).alloc _) hgrow1 (Nat.le_refl _))
              | (have _t := M2; refine step_append_any (by rfl) _ _ _ (by rfl) wr.heap.size 56 i0 _ 3 24 Try.underlying33 hi hz0 hz1 hz2 rfl (by omega) v1 _ _ (by rfl) hown1 ⟨g, 0, none⟩ 0 0 (by rfl) (cellsTurn []) (by rfl) (turns_news (hnil.below hp9)) (cellsTurn_one _) (by unfold maxLen; omega) (by omega) (by have := hp9.size; omega) ?_; intro v2 w10 hown2 hgrow2 hat2; clear M2))
          all_goals go_wp2_with fail
          all_goals go_meet
          all_goals exact fewCut_of hown2 (by rw [HT.out]; exact hlt) (by rw [HT.out]; omega) (by rw [HT.out]) (by rw [HDN.out]; rfl) (Below.grown hp9 hgrow2 hp9.size (fun k e => (hown1.lt k e).1))
        · go_region_held3 (fun _ => True) (trivial)
            (first
              | (have _t := M1; refine step_append_any (by rfl) _ _ _ (by rfl) wr.heap.size 56 i0 _ 3 24 Try.underlying33 hi hz0 hz1 hz2 rfl (by omega) (.slice (some ⟨wr.heap.size, 0, none⟩) 0 0) 0 [] (by rfl) hres0 _ _ _ (by rfl) (cellsTurn (ts.take j)) (by rw [cellsTurn_length, List.length_take, HT.out]; omega) (turns_news (turns_take (htr.below (((Past.refl wr).drew).alloc _)) j)) (cellsTurn_one _) (by unfold maxLen; omega) (by omega) (by simp) ?_; intro v1 w9 hown1 hgrow1 hat1; clear M1; have hp9 : Past wr w9 := past_grown (R := wr.heap.size) (((Past.refl wr).drew).alloc _) hgrow1 (Nat.le_refl _))
              | (have _t := M2; refine step_append_any (by rfl) _ _ _ (by rfl) wr.heap.size 56 i0 _ 3 24 Try.underlying33 hi hz0 hz1 hz2 rfl (by omega) v1 _ _ (by rfl) hown1 ⟨g, (j + 1) * 3, none⟩ (l - (j + 1)) (ce - (j + 1)) (by rfl) (cellsTurn (ts.drop (j + 1))) (by rw [cellsTurn_length, List.length_drop, HT.out]) (turns_news (hdr.below hp9)) (cellsTurn_one _) (by unfold maxLen; omega) (by omega) (by have := hp9.size; omega) ?_; intro v2 w10 hown2 hgrow2 hat2; clear M2))
          all_goals go_wp2_with fail
          all_goals go_meet
          all_goals exact fewCut_of hown2 (by rw [HT.out]; exact hlt) (by rw [HT.out]; omega) (by rw [HT.out]) (by simp) (Below.grown hp9 hgrow2 hp9.size (fun k e => (hown1.lt k e).1))
      case rest =>
        obtain ⟨A2, cz, rfl, hx2, hp10⟩ := hcut
        have htb := List.all_eq_true.1 (turnsB_all HTO.out).2.2.1 _ (List.mem_of_getElem? HS.out)
        simp only [turnB, Bool.and_eq_true, inB_iff, decide_eq_true_eq] at htb
        obtain ⟨hq0, hq1, hq2, hq3⟩ := htb
        obtain ⟨p, rfl⟩ : ∃ p : Nat, x0 = p := ⟨x0.toNat, by omega⟩
        obtain ⟨q, rfl⟩ : ∃ q : Nat, x1 = q := ⟨x1.toNat, by omega⟩
        have hpk : p < k := by have := HX.out; omega
        have hqk : q < k := by have := HX.out; omega
        obtain ⟨⟨f, t, c', l', d⟩, ha⟩ : ∃ a, xs[p]? = some a := ⟨_, List.getElem?_eq_getElem (by have := HX.out; omega)⟩
        obtain ⟨⟨f', t', c'', l'', d'⟩, hb'⟩ : ∃ a, xs[q]? = some a := ⟨_, List.getElem?_eq_getElem (by have := HX.out; omega)⟩
        rw [arcAt_get (i := (p : Int)) (by simpa using ha), arcAt_get (i := (q : Int)) (by simpa using hb')] at hq2
        simp only at hq2
        subst hq2
        obtain ⟨gb, ob, rfl, _, a1w, _, _, _⟩ := hxr p _ ha
        obtain ⟨gb', ob', eg, d0w, _, _, _, _⟩ := hxr q _ hb'
        injection eg with eg
        injection eg with eg1 eg2
        subst eg1 eg2
        obtain ⟨g', o', eg, c0w, c1w, c2w⟩ := htr j _ HS.out
        injection eg with eg
        injection eg with eg1 eg2
        subst eg1 eg2
        rw [Nat.zero_add] at c0w c1w c2w
        simp only at a1w d0w c0w c1w c2w
        have n0w := cell_in hb b0
        have n1w := cell_in hb b1
        have HFEW := Lib.hid (fewT_ok HTO.out (i := j) (by rw [HT.out]; exact hlt))
        have HFL : Hid ((fewT ts j).length = l - 1) := by rw [Hid, fewT_len (by rw [HT.out]; exact hlt), HT.out]
        have HBAD := Lib.hid (twice_bad (m := m) (xs := xs) HS.out)
        have p0 : (0 : Int) ≤ (p : Int) := by omega
        have p1 : (p : Int) < (k : Int) := by omega
        have p2 : (0 : Int) ≤ (q : Int) := by omega
        have p3 : (q : Int) < (k : Int) := by omega
        have M3 : True := trivial
        have M4 : True := trivial
        clear ha hb' hq0 hq1 hq3 e1 e2 hdr hres0 M1 M2 b0 b1
        have n0 := cell_in hp10 n0w
        have n1 := cell_in hp10 n1w
        have c0 := cell_in hp10 c0w
        have c1 := cell_in hp10 c1w
        have c2 := cell_in hp10 c2w
        have a1 := cell_in hp10 a1w
        have d0 := cell_in hp10 d0w
        have y0 := World.new_ne wc _ n0
        have y1 := World.new_ne wc _ n1
        have y2 := World.new_ne wc _ c0
        have y3 := World.new_ne wc _ c1
        have y4 := World.new_ne wc _ c2
        have y5 := World.new_ne wc _ a1
        have y6 := World.new_ne wc _ d0
        go_wp2_with fail
        go_region_held3 (fun w' => w'.cell? ⟨w1.heap.size, 0, none⟩ = some (.int .i64 m) ∧ w'.cell? ⟨w1.heap.size, 1, none⟩ = some (.slice (some ⟨gb, ob, none⟩) k cap) ∧ w'.cell? ⟨g, j * 3, none⟩ = some (.int .i64 (p : Int)) ∧ w'.cell? ⟨g, j * 3 + 1, none⟩ = some (.int .i64 (q : Int)) ∧ w'.cell? ⟨g, j * 3 + 2, none⟩ = some (.int .i64 x2) ∧ w'.cell? ⟨gb, ob + p * 5 + 1, none⟩ = some (.int .i64 t) ∧ w'.cell? ⟨gb, ob + q * 5, none⟩ = some (.int .i64 t))
          (go_keep)
          (first
            | (go_at_call 20; have _t := M3; refine (implTurnsOk_any m (some ⟨gb, ob, none⟩) k cap xs A2 (l - 1) cz (fewT ts j) _ (by omega) HX.out (hxr.below hp10.drew) (by omega) HFL.out hx2.drew).mono ?_; rintro e w11 ⟨rfl, hb11⟩; rw [HFEW.out]; clear M3; have hp11 : Past wr w11 := hp10.drew.trans hb11; have n0 := cell_in hp11 n0w; have n1 := cell_in hp11 n1w; have c0 := cell_in hp11 c0w; have c1 := cell_in hp11 c1w; have c2 := cell_in hp11 c2w; have a1 := cell_in hp11 a1w; have d0 := cell_in hp11 d0w; have y0 := World.new_ne w11 _ n0; have y1 := World.new_ne w11 _ n1; have y2 := World.new_ne w11 _ c0; have y3 := World.new_ne w11 _ c1; have y4 := World.new_ne w11 _ c2; have y5 := World.new_ne w11 _ a1; have y6 := World.new_ne w11 _ d0)
            | (have _t := M4; refine step_append_any (by rfl) _ _ _ (by rfl) wr.heap.size 56 i0 _ 3 24 Try.underlying33 hi hz0 hz1 hz2 rfl (by omega) (.slice (some ⟨w11.heap.size, 0, none⟩) 0 0) 0 [] (by rfl) (World.ownsRow_made w11 _ 0 hp11.size (by unfold maxLen; omega) rfl) ⟨g, 0, none⟩ l ce (by rfl) (cellsTurn ts) (by rw [cellsTurn_length, HT.out]) (turns_news (htr.below (hp11.alloc _))) (cellsTurn_one _) (by unfold maxLen; omega) (by omega) (by have := hp11.size; simp; omega) ?_; intro v3 w12 hown3 hgrow3 hat3; clear M4; have hp12 : Past wr w12 := past_grown (R := w11.heap.size) (hp11.alloc _) hgrow3 (by have := hp11.size; omega); have O1 : True := trivial; have n0 := cell_in hp12 n0w; have n1 := cell_in hp12 n1w; have c0 := cell_in hp12 c0w; have c1 := cell_in hp12 c1w; have c2 := cell_in hp12 c2w; have a1 := cell_in hp12 a1w; have d0 := cell_in hp12 d0w; have y0 := World.new_ne w12 _ n0; have y1 := World.new_ne w12 _ n1; have y2 := World.new_ne w12 _ c0; have y3 := World.new_ne w12 _ c1; have y4 := World.new_ne w12 _ c2; have y5 := World.new_ne w12 _ a1; have y6 := World.new_ne w12 _ d0)
            | (have _t := M4; refine step_append_any (by rfl) _ _ _ (by rfl) wr.heap.size 56 i0 _ 3 24 Try.underlying33 hi hz0 hz1 hz2 rfl (by omega) (.slice (some ⟨w11.heap.size, 0, none⟩) 0 0) 0 [] (by rfl) (World.ownsRow.alloc (World.ownsRow_made w11 _ 0 hp11.size (by unfold maxLen; omega) rfl) (.cells #[.int .i64 (p : Int), .int .i64 (q : Int), .int .i64 x2] 56)) ⟨g, 0, none⟩ l ce (by rfl) (cellsTurn ts) (by rw [cellsTurn_length, HT.out]) (turns_news (htr.below ((hp11.alloc _).alloc _))) (cellsTurn_one _) (by unfold maxLen; omega) (by omega) (by have := hp11.size; simp; omega) ?_; intro v3 w12 hown3 hgrow3 hat3; clear M4; have hp12 : Past wr w12 := past_grown (R := w11.heap.size) ((hp11.alloc _).alloc _) hgrow3 (by have := hp11.size; omega); have hE1 : w12.heap[w11.heap.size + 1]? = some (.cells #[.int .i64 (p : Int), .int .i64 (q : Int), .int .i64 x2] 56) := (hgrow3.block _ (by simp) (by simp [Value.ownBlock])).trans (by have := heap_alloc_new (w11.alloc (.cells #[] 56)) (.cells #[.int .i64 (p : Int), .int .i64 (q : Int), .int .i64 x2] 56); simpa using this); have O2 : True := trivial; have n0 := cell_in hp12 n0w; have n1 := cell_in hp12 n1w; have c0 := cell_in hp12 c0w; have c1 := cell_in hp12 c1w; have c2 := cell_in hp12 c2w; have a1 := cell_in hp12 a1w; have d0 := cell_in hp12 d0w; have y0 := World.new_ne w12 _ n0; have y1 := World.new_ne w12 _ n1; have y2 := World.new_ne w12 _ c0; have y3 := World.new_ne w12 _ c1; have y4 := World.new_ne w12 _ c2; have y5 := World.new_ne w12 _ a1; have y6 := World.new_ne w12 _ d0)
            | (have _t := M4; refine step_append_any (by rfl) _ _ _ (by rfl) wr.heap.size 56 i0 _ 3 24 Try.underlying33 hi hz0 hz1 hz2 rfl (by omega) (.slice (some ⟨w11.heap.size + 1, 0, none⟩) 0 0) 0 [] (by rfl) (by have h := World.ownsRow_made (w11.alloc (.cells #[.int .i64 (p : Int), .int .i64 (q : Int), .int .i64 x2] 56)) (e := 56) (base := wr.heap.size) (size := 3) #[] 0 (by have := hp11.size; simp; omega) (by unfold maxLen; omega) rfl; simpa using h) ⟨g, 0, none⟩ l ce (by rfl) (cellsTurn ts) (by rw [cellsTurn_length, HT.out]) (turns_news (htr.below ((hp11.alloc _).alloc _))) (cellsTurn_one _) (by unfold maxLen; omega) (by omega) (by have := hp11.size; simp; omega) ?_; intro v3 w12 hown3 hgrow3 hat3; clear M4; have hp12 : Past wr w12 := past_grown (R := w11.heap.size + 1) ((hp11.alloc _).alloc _) hgrow3 (by have := hp11.size; omega); have hE1 : w12.heap[w11.heap.size]? = some (.cells #[.int .i64 (p : Int), .int .i64 (q : Int), .int .i64 x2] 56) := (hgrow3.block _ (by simp; omega) (by simp [Value.ownBlock])).trans (((Past.refl (w11.alloc (.cells #[.int .i64 (p : Int), .int .i64 (q : Int), .int .i64 x2] 56))).alloc _).block _ (by simp) |>.trans (heap_alloc_new w11 (.cells #[.int .i64 (p : Int), .int .i64 (q : Int), .int .i64 x2] 56))); have O3 : True := trivial; have n0 := cell_in hp12 n0w; have n1 := cell_in hp12 n1w; have c0 := cell_in hp12 c0w; have c1 := cell_in hp12 c1w; have c2 := cell_in hp12 c2w; have a1 := cell_in hp12 a1w; have d0 := cell_in hp12 d0w; have y0 := World.new_ne w12 _ n0; have y1 := World.new_ne w12 _ n1; have y2 := World.new_ne w12 _ c0; have y3 := World.new_ne w12 _ c1; have y4 := World.new_ne w12 _ c2; have y5 := World.new_ne w12 _ a1; have y6 := World.new_ne w12 _ d0)
            | (have _t := O1; refine step_append_any (by rfl) _ _ _ (by rfl) wr.heap.size 56 i0 _ 3 24 Try.underlying33 hi hz0 hz1 hz2 rfl (by omega) v3 _ _ (by rfl) (World.ownsRow.alloc hown3 _) ⟨w12.heap.size, 0, none⟩ 1 1 (by rfl) [.int .i64 (p : Int), .int .i64 (q : Int), .int .i64 x2] rfl (newTurn w12 _ _ _ _) (cellsTurn_one [⟨p, q, x2⟩]) (by unfold maxLen; omega) (by omega) (by have := hp12.size; simp; omega) ?_; intro v4 w13 hown4 hgrow4 hat4; clear O1; have hp13 : Past wr w13 := Below.grown (hp12.alloc _) hgrow4 (by have := hp12.size; simp; omega) (fun k e => (hown3.lt k e).1); obtain ⟨A4, c4, rfl, hx4⟩ := twiceOf (ts := ts) (x0 := (p : Int)) (x1 := (q : Int)) (x2 := x2) hown4 (by rw [HT.out]; omega) (by simp); have M5 : True := trivial; have n0 := cell_in hp13 n0w; have n1 := cell_in hp13 n1w; have c0 := cell_in hp13 c0w; have c1 := cell_in hp13 c1w; have c2 := cell_in hp13 c2w; have a1 := cell_in hp13 a1w; have d0 := cell_in hp13 d0w; have y0 := World.new_ne w13 _ n0; have y1 := World.new_ne w13 _ n1; have y2 := World.new_ne w13 _ c0; have y3 := World.new_ne w13 _ c1; have y4 := World.new_ne w13 _ c2; have y5 := World.new_ne w13 _ a1; have y6 := World.new_ne w13 _ d0)
            | (have _t := O2; refine step_append_any (by rfl) _ _ _ (by rfl) wr.heap.size 56 i0 _ 3 24 Try.underlying33 hi hz0 hz1 hz2 rfl (by omega) v3 _ _ (by rfl) hown3 ⟨w11.heap.size + 1, 0, none⟩ 1 1 (by rfl) [.int .i64 (p : Int), .int .i64 (q : Int), .int .i64 x2] rfl (World.news_of_block hE1) (cellsTurn_one [⟨p, q, x2⟩]) (by unfold maxLen; omega) (by omega) (by have := hp12.size; simp; omega) ?_; intro v4 w13 hown4 hgrow4 hat4; clear O2; have hp13 : Past wr w13 := Below.grown hp12 hgrow4 hp12.size (fun k e => (hown3.lt k e).1); obtain ⟨A4, c4, rfl, hx4⟩ := twiceOf (ts := ts) (x0 := (p : Int)) (x1 := (q : Int)) (x2 := x2) hown4 (by rw [HT.out]; omega) (by simp); have M5 : True := trivial; have n0 := cell_in hp13 n0w; have n1 := cell_in hp13 n1w; have c0 := cell_in hp13 c0w; have c1 := cell_in hp13 c1w; have c2 := cell_in hp13 c2w; have a1 := cell_in hp13 a1w; have d0 := cell_in hp13 d0w; have y0 := World.new_ne w13 _ n0; have y1 := World.new_ne w13 _ n1; have y2 := World.new_ne w13 _ c0; have y3 := World.new_ne w13 _ c1; have y4 := World.new_ne w13 _ c2; have y5 := World.new_ne w13 _ a1; have y6 := World.new_ne w13 _ d0)
            | (have _t := O3; refine step_append_any (by rfl) _ _ _ (by rfl) wr.heap.size 56 i0 _ 3 24 Try.underlying33 hi hz0 hz1 hz2 rfl (by omega) v3 _ _ (by rfl) hown3 ⟨w11.heap.size, 0, none⟩ 1 1 (by rfl) [.int .i64 (p : Int), .int .i64 (q : Int), .int .i64 x2] rfl (World.news_of_block hE1) (cellsTurn_one [⟨p, q, x2⟩]) (by unfold maxLen; omega) (by omega) (by have := hp12.size; simp; omega) ?_; intro v4 w13 hown4 hgrow4 hat4; clear O3; have hp13 : Past wr w13 := Below.grown hp12 hgrow4 hp12.size (fun k e => (hown3.lt k e).1); obtain ⟨A4, c4, rfl, hx4⟩ := twiceOf (ts := ts) (x0 := (p : Int)) (x1 := (q : Int)) (x2 := x2) hown4 (by rw [HT.out]; omega) (by simp); have M5 : True := trivial; have n0 := cell_in hp13 n0w; have n1 := cell_in hp13 n1w; have c0 := cell_in hp13 c0w; have c1 := cell_in hp13 c1w; have c2 := cell_in hp13 c2w; have a1 := cell_in hp13 a1w; have d0 := cell_in hp13 d0w; have y0 := World.new_ne w13 _ n0; have y1 := World.new_ne w13 _ n1; have y2 := World.new_ne w13 _ c0; have y3 := World.new_ne w13 _ c1; have y4 := World.new_ne w13 _ c2; have y5 := World.new_ne w13 _ a1; have y6 := World.new_ne w13 _ d0)
            | (go_at_call 20; have _t := M5; refine (implTurnsOk_any m (some ⟨gb, ob, none⟩) k cap xs A4 _ c4 (ts ++ [⟨p, q, x2⟩]) _ (by omega) HX.out (hxr.below hp13) (by omega) (by rw [List.length_append, HT.out]; simp) hx4).mono ?_; rintro e w14 ⟨rfl, hb14⟩; rw [HBAD.out]; clear M5; have hp14 : Past wr w14 := hp13.trans hb14; have n0 := cell_in hp14 n0w; have n1 := cell_in hp14 n1w; have c0 := cell_in hp14 c0w; have c1 := cell_in hp14 c1w; have c2 := cell_in hp14 c2w; have a1 := cell_in hp14 a1w; have d0 := cell_in hp14 d0w; have y0 := World.new_ne w14 _ n0; have y1 := World.new_ne w14 _ n1; have y2 := World.new_ne w14 _ c0; have y3 := World.new_ne w14 _ c1; have y4 := World.new_ne w14 _ c2; have y5 := World.new_ne w14 _ a1; have y6 := World.new_ne w14 _ d0))
        all_goals go_wp2
        all_goals go_roundw
        all_goals first | (case rel => exact ⟨j + 1, by omega, by go_num, hb.trans hp14⟩) | (case measure => simp [intOf]; omega)
    · obtain rfl : l = j := by omega
      have b0r := cell_in hb b0
      have b1r := cell_in hb b1
      go_wp2_with fail
      refine (implTurnsOk_any m B k cap xs none 0 0 [] _ (by omega) HX.out (hxW.below hb) (by omega) rfl (fun k a h => by simp at h)).mono ?_
      rintro e w5 ⟨rfl, hb5⟩
      have hnil : Hid (turnsB m xs [] = true) := by rw [Hid, turnsB_nil]; exact (turnsB_all HTO.out).1
      rw [hnil.out]
      go_wp2
      go_ret
      exact ⟨rfl, hbW.trans (hb.trans hb5)⟩

set_option maxRecDepth 100000 in
theorem fnTurnsOk_lifted (os : Os) (started : os.Started) (H : Type) (enc : TypeId × Value → H) :
    ReturnsInHanded {} Try.checked os 8 .any (Rows.fnTurnsOkSpec.pre6 enc Try.prog Try.f8 Rows.fnTurnsOkRow.domain false) (Rows.fnTurnsOkSpec.post enc Try.prog Try.f8 false true false false) := by
  refine returnsInHanded_of_change (C := Try.checked) own started (by kernel_rfl) Try.func8
    (ChangeSpec.witness6 (enc := enc) (C := Try.checked) false ⟨#[], #[.slice none 0 0], []⟩ 8 (by kernel_rfl) (by kernel_rfl) (by kernel_rfl) (by kernel_rfl)) ?_
  intro W base args ds gs before hval0 hW hcnd _
  have hval : ∀ (j : Nat) t v, Try.f8.params[j]? = some t → args[j]? = some v → Value.okWide Try.prog W .any base t v := hval0
  have hW' := hW
  obtain ⟨p, q, hA0, hV, rfl, hfz, hnd⟩ := hW
  have hA : DataW.TrodAll enc Try.prog W 0 (fun _ => true) true Try.f8.params.toList args.toList ds p := hA0
  rw [Try.params8] at hA hval
  obtain ⟨v0, vs0, d0, ds0, p0, q0, hargs, rfl, rfl, h0, r0⟩ := trodAll_cons hA
  obtain ⟨rfl, rfl, rfl⟩ := trodAll_nil r0
  obtain rfl : args = #[v0] := by cases args; simp_all
  obtain ⟨rfl, rfl⟩ := trodVars_none hV
  have k0 := h0
  have lt0 := places_lt k0
  obtain ⟨A0, n0, c0, rfl, hn0, hc0, hb0⟩ := open_bytes (hval 0 50 v0 rfl rfl) h0
  clear hA0 hval0
  refine (fnTurnsOk_walk A0 n0 c0 W hn0 hc0 hb0).mono fun e W' ⟨he, bel⟩ => ?_
  subst he
  exact ⟨_, rfl, _, _, _, [], _, [], hW', trodAll_mk1 (shut_bool Try.underlying4 _), (trodAll_cons_mk (Below.trod laidOut (by kernel_rfl) (of_decide_eq_true (by kernel_rfl)) k0 bel lt0) trodAll_mk0), rfl, bel.frame _, fun h => by cases h⟩

/-- The given statement. -/
theorem fnTurnsOk_proved : Rows.FnTurnsOkSaid :=
  OpenClaim.holds_of_wide 8 Try.f8 rfl rfl rfl rfl rfl rfl rfl ⟨rfl, rfl, rfl, rfl, rfl⟩ rfl rfl rfl rfl rfl (by kernel_rfl) Try.func8 (by kernel_rfl)
    (of_decide_eq_true (by kernel_rfl)) (by unfold Func.isWrapper; first | (rw [if_pos (by decide +kernel)]; kernel_rfl) | (rw [if_neg (by decide +kernel)]; exact ⟨rfl, rfl⟩))
    (fun os started H enc _ => fnTurnsOk_lifted os started H enc)

end Go.Proofs.Ytjocbjjkihgcdaa
