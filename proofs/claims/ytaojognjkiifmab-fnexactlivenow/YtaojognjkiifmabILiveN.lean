/-
  The net as it is by the news, as the program goes: impl.moreOn, impl.LiveNow. No condition.
-/
import Derived.Test.YtaojognjkiifmabSLiveN
import Derived.Test.YtaojognjkiifmabILive
namespace Go.Proofs.Ytaojognjkiifmab
open Go.RowKit

set_option maxRecDepth 100000 in
set_option maxHeartbeats 2000000 in
theorem moreOn_any (k : Nat) (n : Nat) (B : Option Addr) (l cb : Nat) (ns : List NewsD) (w : World) (hl : l ≤ 6) (hly : ns.length = l) (hy : NewssAt w B ns) (hnb : newssB n ns = true) :
    Calls Try.prog 80 #[.slice B l cb, .int .i64 (k : Int)] w fun e w' => (∃ M : Int, e = .returned (.tuple #[.int .i64 M, .bool (!(shutTo ns k l))]) ∧ (shutTo ns k l = false → M = moreTo ns k l)) ∧ Below w.heap.size w w' := by
  have HL := Lib.hid hly
  have HNB := Lib.hid hnb
  clear hly hnb
  go_enter Try.func80, Try.ntmps80
  go_wp2
  go_loopw [6, 11] (fun u q wr => ∃ (j : Nat) (M : Int), j ≤ l ∧ u = .int .i64 M ∧ q = .int .i64 j ∧ shutTo ns k j = false ∧ moreTo ns k j = M ∧ Past w wr) (fun _ q _ => l - (intOf q).toNat)
  case atStart => exact ⟨0, 0, by omega, rfl, rfl, rfl, rfl, Past.refl _⟩
  case round =>
    obtain ⟨j, M, hj, rfl, rfl, hs, hM, hb⟩ := hrel
    have hMb := moreTo_bd HNB.out (k : Int) j
    rw [hM] at hMb
    have HSH := Lib.hid hs
    have HM := Lib.hid hM
    have hyr := hy.below hb
    clear hs hM
    by_cases hjl : j < l
    · obtain ⟨⟨x0, x1, x2⟩, ha'⟩ : ∃ a, ns[j]? = some a := ⟨_, List.getElem?_eq_getElem (by have := HL.out; omega)⟩
      obtain ⟨g2, o2, rfl, d0, d1, d2⟩ := hyr j _ ha'
      have hnb := (newsB_iff _ _).1 (newssB_at HNB.out ha')
      simp only at d0 d1 d2 hnb
      have j0 : (0 : Int) ≤ (j : Int) := by omega
      have j1 : (j : Int) < (l : Int) := by omega
      have HSN := Lib.hid (shutTo_next (i := (k : Int)) ha')
      have HMN := Lib.hid (moreTo_next (i := (k : Int)) ha')
      simp only at HSN HMN
      clear ha'
      by_cases hxk : x1 = (k : Int)
      rotate_left
      · have q0 : (x1 != (k : Int)) = true := by simpa using hxk
        have HS1 : Hid (shutTo ns k (j + 1) = false) := by rw [Hid, HSN.out, HSH.out]; simp [hxk]
        have HM1 : Hid (moreTo ns k (j + 1) = M) := by rw [Hid, HMN.out, HM.out]; simp [hxk]
        clear hxk hnb hMb HSN HMN
        go_wp2
        go_roundw
        case rel => exact ⟨j + 1, M, by omega, rfl, by go_num, HS1.out, HM1.out, hb.alloc _⟩
        case measure => simp [intOf]; omega
      · by_cases hx2 : x2 = -1
        · have HS1 : Hid (shutTo ns k l = true) := shutTo_mono (k := j + 1) (by rw [HSN.out]; simp [hxk]; omega) l (by omega)
          subst hxk hx2
          clear hnb hMb HSN HMN
          go_wp2
          exact bodyPost_ret (v := .tuple #[.int .i64 0, .bool false]) (by simp [results, Try.results80, go_sem]) rfl ⟨⟨0, by rw [HS1.out]; rfl, fun h => absurd h (by rw [HS1.out]; simp)⟩, hb.alloc _⟩
        · have hx2n : ¬ x2 < 0 := by omega
          have q2 : (x2 == -1) = false := by simpa using hx2
          have HS1 : Hid (shutTo ns k (j + 1) = false) := by rw [Hid, HSN.out, HSH.out]; simp [hx2n]
          have HM1 : Hid (moreTo ns k (j + 1) = M + x2) := by rw [Hid, HMN.out, HM.out]; simp [hxk, hx2n]
          subst hxk
          have hwr : IntKind.i64.wrap (M + x2) = M + x2 := IntWalk.i64_in _ (by omega)
          clear hnb hMb HSN HMN hx2
          go_wp2
          go_roundw
          case rel => exact ⟨j + 1, M + x2, by omega, rfl, by go_num, HS1.out, HM1.out, hb.alloc _⟩
          case measure => simp [intOf]; omega
    · obtain rfl : l = j := by omega
      go_wp2
      exact bodyPost_ret (v := .tuple #[.int .i64 M, .bool true]) (by simp [results, Try.results80, go_sem]) rfl ⟨⟨M, by rw [HSH.out]; rfl, fun _ => HM.out.symm⟩, hb⟩

set_option maxRecDepth 100000 in
set_option maxHeartbeats 4000000 in
theorem implLiveNow_any (m : Int) (A : Option Addr) (n c : Nat) (xs : List ArcD) (B : Option Addr) (l cb : Nat) (ns : List NewsD) (w : World) (hn : n ≤ 1048576) (hnx : xs.length = n) (hx : ArcsAt w A xs) (hl : l ≤ 1048576) (hly : ns.length = l) (hy : NewssAt w B ns) :
    Calls Try.prog 33 #[.agg #[.int .i64 m, .slice A n c, .slice B l cb]] w (GivesNet w (lnowN m xs ns) (lnowL m xs ns)) := by
  have HX := Lib.hid hnx
  have HL := Lib.hid hly
  clear hnx hly
  obtain ⟨i0, hi, hz0, hz1, hz2⟩ := info_parts infoArc
  have hb0 : Past w ((w.alloc (.cells #[.int .i64 m, .slice A n c, .slice B l cb] 52)).alloc (.cells #[.int .i64 0, .slice none 0 0] 25)) := ((Past.refl _).alloc _).alloc _
  go_enter Try.func33, Try.ntmps33
  go_wp2_with fail
  refine (implLiveOk_any m A n c xs B l cb ns _ hn HX.out (hx.below hb0) hl HL.out (hy.below hb0)).mono ?_
  rintro e w1 ⟨rfl, hb1⟩
  have b0 := cell_in (p := ⟨w.heap.size, 0, none⟩) (v := .int .i64 m) hb1 (by go_simp)
  have b1 := cell_in (p := ⟨w.heap.size, 1, none⟩) (v := .slice A n c) hb1 (by go_simp)
  have b2 := cell_in (p := ⟨w.heap.size, 2, none⟩) (v := .slice B l cb) hb1 (by go_simp)
  have e0 := cell_in (p := ⟨w.heap.size + 1, 0, none⟩) (v := .int .i64 0) hb1 (by go_simp)
  have e1 := cell_in (p := ⟨w.heap.size + 1, 1, none⟩) (v := .slice none 0 0) hb1 (by go_simp)
  have z0 := free_in (p := ⟨w.heap.size + 1, 0, none⟩) (v := .int .i64 0) hb1 (by go_simp) (by go_simp)
  have z1 := free_in (p := ⟨w.heap.size + 1, 1, none⟩) (v := .slice none 0 0) hb1 (by go_simp) (by go_simp)
  have hrc : RowN w1 (w.heap.size + 1) 25 2 := by
    refine RowN.keep (w := ((w.alloc (.cells #[.int .i64 m, .slice A n c, .slice B l cb] 52)).alloc (.cells #[.int .i64 0, .slice none 0 0] 25))) ⟨#[.int .i64 0, .slice none 0 0], ?_, rfl⟩ (hb1.block _ (by simp))
    have := heap_alloc_new (w.alloc (.cells #[.int .i64 m, .slice A n c, .slice B l cb] 52)) (.cells #[.int .i64 0, .slice none 0 0] 25)
    simpa using this
  have hx1 := (hx.below hb0).below hb1
  have hy1 := (hy.below hb0).below hb1
  have hp1 := hb0.trans hb1
  clear hb0 hb1
  cases hB : liveB m xs ns with
  | false =>
    have HV := Lib.hid hB
    clear hB
    go_wp2
    exact bodyPost_ret (v := .agg #[.int .i64 0, .slice none 0 0]) (by simp [results, Try.results33, go_sem, e0, e1]) rfl (givesLive_no HV.out rfl (Below.setCell (Below.setCell hp1 (by simp) _) (by simp) _))
  | true =>
  have HV := Lib.hid hB
  obtain ⟨hNB, hl6, hnb⟩ := (liveB_iff _ _ _).1 hB
  have hn16 : n ≤ 16 := by have := ((netB_iff _ _).1 hNB).2.1; have := HX.out; omega
  rw [HL.out] at hl6
  have HB := Lib.hid hNB
  have HNB := Lib.hid hnb
  clear hB hNB hnb
  have sw : w.heap.size + 1 < w1.heap.size := lt_of_cell e0
  have hst0 := NSt.start w1 m (w1.heap.size + 1)
  have b0' := fun (o : Obj) => cell_in ((Past.refl w1).alloc o) b0
  have b1' := fun (o : Obj) => cell_in ((Past.refl w1).alloc o) b1
  go_wp2
  clear b0' b1'
  go_loopw [20] (fun q wr => ∃ (k : Nat) (v : Value), k ≤ n ∧ q = .int .i64 k ∧ NSt w1.heap.size (w1.heap.size + 1) w1 wr m v (nowTo xs ns k)) (fun q _ => n - (intOf q).toNat)
  case atStart => exact ⟨0, _, by omega, rfl, by simpa [nowTo] using hst0⟩
  case round =>
    obtain ⟨k, v, hk, rfl, hS⟩ := hrel
    have b0 := cell_in hS.past b0
    have b1 := cell_in hS.past b1
    have b2 := cell_in hS.past b2
    have hxr := hx1.below hS.past
    have hyr := hy1.below hS.past
    have hXr : w1.heap.size < wr.heap.size := hS.row.lt
    by_cases hlt : k < n
    · obtain ⟨⟨f, t, c', l', d⟩, ha⟩ : ∃ a, xs[k]? = some a := ⟨_, List.getElem?_eq_getElem (by have := HX.out; omega)⟩
      obtain ⟨g, o, rfl, c0, c1, c2, c3, c4⟩ := hxr k _ ha
      have hc := live_cost HB.out ha
      simp only at c0 c1 c2 c3 c4 hc
      have k0 : (0 : Int) ≤ (k : Int) := by omega
      have k1 : (k : Int) < (n : Int) := by omega
      have HA := Lib.hid ha
      have HS := Lib.hid hS
      have hbx := ArcBox.start wr f t c' l' d
      have hpa : Past wr (wr.alloc (.cells #[.int .i64 f, .int .i64 t, .int .i64 c', .int .i64 l', .int .i64 d] 34)) := (Past.refl wr).alloc _
      have b2A := cell_in hpa b2
      clear ha hS
      go_wp2_with fail
      refine (moreOn_any k n B l cb ns _ hl6 HL.out (hyr.below hpa) (by have := HNB.out; rw [HX.out] at this; exact this)).mono ?_
      rintro e w5 ⟨⟨M, rfl, hM⟩, hb5⟩
      have hbi := hpa.trans hb5
      have hE := hbx.below hb5
      have e0 := hE.c0
      have e1 := hE.c1
      have e2 := hE.c2
      have e3 := hE.c3
      have e4 := hE.c4
      have z2 := hE.row.frozen 2
      have si := hbi.size
      have hS5 := HS.out.later hbi
      clear b2A hb5 hpa hbx
      cases hsh : shutTo ns k l with
      | true =>
        have HF : Hid (nowTo xs ns (k + 1) = nowTo xs ns k) := nowTo_shut HA.out (by rw [HL.out]; exact hsh)
        clear hsh hM
        go_wp2
        go_roundw
        case rel => exact ⟨k + 1, v, by omega, by go_num, by rw [HF.out]; exact hS5⟩
        case measure => simp [intOf]; omega
      | false =>
        have hMe := hM hsh
        have hMb := moreTo_bd HNB.out (k : Int) l
        rw [← hMe] at hMb
        have HF : Hid (nowTo xs ns (k + 1) = nowTo xs ns k ++ [⟨f, t, min (c' + M) 99, l', d⟩]) := by
          rw [Hid, nowTo_open HA.out (by rw [HL.out]; exact hsh), HL.out, hMe]
        have hlen := nowTo_len xs ns k
        obtain ⟨L, hLL⟩ : ∃ L, L = nowTo xs ns k := ⟨_, rfl⟩
        rw [← hLL] at hS5 HF hlen
        obtain ⟨N, hN⟩ : ∃ N, N = L.length := ⟨_, rfl⟩
        rw [← hN] at hlen
        have HN := Lib.hid hN
        have hwr : IntKind.i64.wrap (c' + M) = c' + M := IntWalk.i64_in _ (by omega)
        by_cases h99 : (99 : Int) < c' + M
        · have h99b : ¬ c' + M ≤ 99 := by omega
          have h99c : ¬ c' + M < 99 := by omega
          have hm9 : Hid ((99 : Int) = min (c' + M) 99) := by rw [Hid]; omega
          have hE9 := hE.put 99
          have hp9 : Past wr (w5.setCell ⟨wr.heap.size, 2, none⟩ (.int .i64 99)) := Below.setCell hbi (Nat.le_refl _) _
          have hS9 := HS.out.later hp9
          rw [← hLL] at hS9
          have o1r := hS5.o1
          have hv : (w5.setCell ⟨wr.heap.size, 2, none⟩ (.int .i64 99)).ownsRow (w1.heap.size + 1) 34 5 v N (cellsOf L) := by rw [hN]; exact hS9.own
          have hz9 : (w5.setCell ⟨wr.heap.size, 2, none⟩ (.int .i64 99)).heap.size = w5.heap.size := by simp
          have hnews : ∀ j u, ([.int .i64 f, .int .i64 t, .int .i64 99, .int .i64 l', .int .i64 d] : List Value)[j]? = some u → ((w5.setCell ⟨wr.heap.size, 2, none⟩ (.int .i64 99)).alloc (.cells #[.int .i64 f, .int .i64 t, .int .i64 99, .int .i64 l', .int .i64 d] 34)).cell? ((⟨w5.heap.size, 0, none⟩ : Addr).add j) = some u := by
            have h := five_new (w5.setCell ⟨wr.heap.size, 2, none⟩ (.int .i64 99)) (.int .i64 f) (.int .i64 t) (.int .i64 99) (.int .i64 l') (.int .i64 d) 34
            rw [hz9] at h
            exact h
          have HNW := Lib.hid hnews
          have HS9 := Lib.hid hS9
          have HV9 := Lib.hid hv
          clear hS9 hv hE9 hN hLL hM hMe hMb hsh HS hS5 hE hnews hz9 hp9
          go_wp2_with (first | (at_builtin; refine wpList_append_own_at _ rfl _ _ 23 rfl (w1.heap.size + 1) 34 i0 _ 5 40 Try.underlying23 hi hz0 hz1 hz2 rfl (by decide) v N (cellsOf L) rfl (HV9.out.alloc _) ⟨w5.heap.size, 0, none⟩ 1 1 [.int .i64 f, .int .i64 t, .int .i64 99, .int .i64 l', .int .i64 d] rfl rfl HNW.out (cellsOf_one [⟨f, t, 99, l', d⟩]) (by unfold maxLen; omega) (by omega) (by simp; omega) ?_; intro v1 w9 hown1 hgrow1 hnil1 hat1; obtain ⟨gv, cv, rfl, hgv, hgw⟩ := World.ownsRow.form hown1 (by omega); obtain ⟨⟨u9, x9⟩, z9, hSn⟩ := HS9.out.put (a := ⟨f, t, 99, l', d⟩) (by omega) (by omega) ((Past.refl _).alloc _) hgrow1 hown1 (by rw [HN.out]) rfl))
          go_roundw
          case rel => exact ⟨k + 1, _, by omega, by go_num, by rw [HF.out, ← hm9.out]; exact hSn⟩
          case measure => simp [intOf]; omega
        · have h99b : c' + M ≤ 99 := by omega
          have hm9 : Hid ((c' + M) = min (c' + M) 99) := by rw [Hid]; omega
          have hE9 := hE.put (c' + M)
          have hp9 : Past wr (w5.setCell ⟨wr.heap.size, 2, none⟩ (.int .i64 (c' + M))) := Below.setCell hbi (Nat.le_refl _) _
          have hS9 := HS.out.later hp9
          rw [← hLL] at hS9
          have o1r := hS5.o1
          have hv : (w5.setCell ⟨wr.heap.size, 2, none⟩ (.int .i64 (c' + M))).ownsRow (w1.heap.size + 1) 34 5 v N (cellsOf L) := by rw [hN]; exact hS9.own
          have hz9 : (w5.setCell ⟨wr.heap.size, 2, none⟩ (.int .i64 (c' + M))).heap.size = w5.heap.size := by simp
          have hnews : ∀ j u, ([.int .i64 f, .int .i64 t, .int .i64 (c' + M), .int .i64 l', .int .i64 d] : List Value)[j]? = some u → ((w5.setCell ⟨wr.heap.size, 2, none⟩ (.int .i64 (c' + M))).alloc (.cells #[.int .i64 f, .int .i64 t, .int .i64 (c' + M), .int .i64 l', .int .i64 d] 34)).cell? ((⟨w5.heap.size, 0, none⟩ : Addr).add j) = some u := by
            have h := five_new (w5.setCell ⟨wr.heap.size, 2, none⟩ (.int .i64 (c' + M))) (.int .i64 f) (.int .i64 t) (.int .i64 (c' + M)) (.int .i64 l') (.int .i64 d) 34
            rw [hz9] at h
            exact h
          have HNW := Lib.hid hnews
          have HS9 := Lib.hid hS9
          have HV9 := Lib.hid hv
          clear hS9 hv hE9 hN hLL hM hMe hMb hsh HS hS5 hE hnews hz9 hp9
          go_wp2_with (first | (at_builtin; refine wpList_append_own_at _ rfl _ _ 23 rfl (w1.heap.size + 1) 34 i0 _ 5 40 Try.underlying23 hi hz0 hz1 hz2 rfl (by decide) v N (cellsOf L) rfl (HV9.out.alloc _) ⟨w5.heap.size, 0, none⟩ 1 1 [.int .i64 f, .int .i64 t, .int .i64 (c' + M), .int .i64 l', .int .i64 d] rfl rfl HNW.out (cellsOf_one [⟨f, t, (c' + M), l', d⟩]) (by unfold maxLen; omega) (by omega) (by simp; omega) ?_; intro v1 w9 hown1 hgrow1 hnil1 hat1; obtain ⟨gv, cv, rfl, hgv, hgw⟩ := World.ownsRow.form hown1 (by omega); obtain ⟨⟨u9, x9⟩, z9, hSn⟩ := HS9.out.put (a := ⟨f, t, (c' + M), l', d⟩) (by omega) (by omega) ((Past.refl _).alloc _) hgrow1 hown1 (by rw [HN.out]) rfl))
          go_roundw
          case rel => exact ⟨k + 1, _, by omega, by go_num, by rw [HF.out, ← hm9.out]; exact hSn⟩
          case measure => simp [intOf]; omega
    · obtain rfl : n = k := by omega
      obtain ⟨A', c', rfl, hx', ho'⟩ := hS.res.form
      have o0 := hS.o0
      have o1 := hS.o1
      have r1 : RowN wr (w.heap.size + 1) 25 2 := hrc.keep (hS.past.block _ sw)
      obtain ⟨q0, e0⟩ := r1.cell (i := 0) (by omega)
      obtain ⟨q1, e1⟩ := r1.cell (i := 1) (by omega)
      have z0 := r1.frozen 0
      have z1 := r1.frozen 1
      have hne : blk A' ≠ some (w.heap.size + 1) := ho'.ne_blk (by omega)
      have hpr := hp1.trans hS.past
      obtain ⟨h1, h2⟩ := lnow_yes HV.out
      have H1 := Lib.hid h1
      have H2 := Lib.hid h2
      have HXN : Hid (nowTo xs ns n = nowL xs ns) := by rw [Hid, nowL, HX.out]
      rw [HXN.out] at hx' ho' o1
      obtain ⟨L, hLL⟩ : ∃ L, L = nowL xs ns := ⟨_, rfl⟩
      rw [← hLL] at hx' ho' o1
      have HLL := Lib.hid hLL
      obtain ⟨N, hN⟩ : ∃ N, N = L.length := ⟨_, rfl⟩
      rw [← hN] at ho' o1
      have HN := Lib.hid hN
      clear hN hLL hS h1 h2
      go_wp2
      exact bodyPost_ret (v := .agg #[.int .i64 m, .slice A' N c']) (by simp [results, Try.results33, go_sem, e0, e1]) rfl
        ⟨A', c', by rw [H1.out, H2.out, ← HLL.out, ← HN.out], by rw [H2.out, ← HLL.out]; exact (hx'.far _ _ hne).far _ _ hne, by rw [H2.out, ← HLL.out, ← HN.out]; exact ((ho'.lower (by omega)).far _ _).far _ _, Below.setCell (Below.setCell hpr (by simp) _) (by simp) _⟩

end Go.Proofs.Ytaojognjkiifmab
