/-
  The net as it is by the news, as the specification goes: spec.l16Now, spec.LiveNow. No condition.
-/
import Derived.Maps.AppendAt
import Derived.Test.YtaojognjkiifmabSLive
import Derived.Test.YtaojognjkiifmabNSt
import Derived.Test.YtaojognjkiifmabBack
import Derived.Test.YtaojognjkiifmabOwnL
namespace Go.Proofs.Ytaojognjkiifmab
open Go.RowKit

/-- An arc in a box of its own. -/
structure ArcBox (w : World) (X : Nat) (f t c l d : Int) : Prop where
  c0 : w.cell? ⟨X, 0, none⟩ = some (.int .i64 f)
  c1 : w.cell? ⟨X, 1, none⟩ = some (.int .i64 t)
  c2 : w.cell? ⟨X, 2, none⟩ = some (.int .i64 c)
  c3 : w.cell? ⟨X, 3, none⟩ = some (.int .i64 l)
  c4 : w.cell? ⟨X, 4, none⟩ = some (.int .i64 d)
  row : RowN w X 34 5
theorem ArcBox.start (w : World) (f t c l d : Int) : ArcBox (w.alloc (.cells #[.int .i64 f, .int .i64 t, .int .i64 c, .int .i64 l, .int .i64 d] 34)) w.heap.size f t c l d :=
  ⟨by go_simp, by go_simp, by go_simp, by go_simp, by go_simp, ⟨_, heap_alloc_new w _, rfl⟩⟩
theorem ArcBox.drew {w : World} {X : Nat} {f t c l d : Int} (h : ArcBox w X f t c l d) : ArcBox w.drew X f t c l d := ⟨h.c0, h.c1, h.c2, h.c3, h.c4, h.row⟩
theorem ArcBox.below {w w' : World} {X : Nat} {f t c l d : Int} (h : ArcBox w X f t c l d) (hb : Below w.heap.size w w') : ArcBox w' X f t c l d :=
  ⟨cell_in hb h.c0, cell_in hb h.c1, cell_in hb h.c2, cell_in hb h.c3, cell_in hb h.c4, h.row.keep (hb.block _ h.row.lt)⟩
theorem ArcBox.put {w : World} {X : Nat} {f t c l d : Int} (h : ArcBox w X f t c l d) (c' : Int) : ArcBox (w.setCell ⟨X, 2, none⟩ (.int .i64 c')) X f t c' l d :=
  ⟨(World.cell?_setCell_other _ _ _ _ (by simp)).trans h.c0, (World.cell?_setCell_other _ _ _ _ (by simp)).trans h.c1, World.cell?_setCell_same _ _ _ h.c2, (World.cell?_setCell_other _ _ _ _ (by simp)).trans h.c3, (World.cell?_setCell_other _ _ _ _ (by simp)).trans h.c4, h.row.set _ _⟩

theorem givesLive_no {w w' : World} {m : Int} {xs : List ArcD} {ns : List NewsD} {e : Ending} (h : liveB m xs ns = false) (he : e = .returned (.agg #[.int .i64 0, .slice none 0 0])) (hb : Below w.heap.size w w') : GivesNet w (lnowN m xs ns) (lnowL m xs ns) e w' := by
  obtain ⟨h1, h2⟩ := lnow_no h
  refine ⟨none, 0, by rw [h2, h1]; exact he, by rw [h2]; exact fun k a hk => by simp at hk, by rw [h2]; exact .inl ⟨rfl, rfl⟩, hb⟩
theorem live_cost {m : Int} {xs : List ArcD} {k : Nat} {a : ArcD} (h : netB m xs = true) (ha : xs[k]? = some a) : 0 ≤ a.c ∧ a.c ≤ 99 := by
  have := ((netB_iff _ _).1 h).2.2 a (List.mem_of_getElem? ha)
  simp only [arcB, Bool.and_eq_true, inB_iff] at this
  omega

set_option maxRecDepth 100000 in
set_option maxHeartbeats 4000000 in
theorem l16Now_any (m : Int) (A : Option Addr) (n c : Nat) (xs : List ArcD) (B : Option Addr) (l cb : Nat) (ns : List NewsD) (w : World) (hok : liveB m xs ns = true) (hnx : xs.length = n) (hx : ArcsAt w A xs) (hly : ns.length = l) (hy : NewssAt w B ns) :
    Calls Try.prog 79 #[.agg #[.int .i64 m, .slice A n c, .slice B l cb]] w (GivesNet w m (nowL xs ns)) := by
  obtain ⟨hNB, hl6, hnb⟩ := (liveB_iff _ _ _).1 hok
  have hn16 : n ≤ 16 := by rw [← hnx]; exact ((netB_iff _ _).1 hNB).2.1
  rw [hly] at hl6
  have HB := Lib.hid hNB
  have HNB := Lib.hid hnb
  have HX := Lib.hid hnx
  have HL := Lib.hid hly
  clear hnx hly hok hNB hnb
  obtain ⟨i0, hi, hz0, hz1, hz2⟩ := info_parts infoArc
  have hb0 : Past w (w.alloc (.cells #[.int .i64 m, .slice A n c, .slice B l cb] 52)) := (Past.refl _).alloc _
  obtain ⟨V, hV⟩ : ∃ V, V = (w.alloc (.cells #[.int .i64 m, .slice A n c, .slice B l cb] 52)).alloc (.cells #[.int .i64 0, .slice none 0 0] 25) := ⟨_, rfl⟩
  have hpV : Past w V := by rw [hV]; exact ((Past.refl _).alloc _).alloc _
  have b0 : V.cell? ⟨w.heap.size, 0, none⟩ = some (.int .i64 m) := by rw [hV]; go_simp
  have b1 : V.cell? ⟨w.heap.size, 1, none⟩ = some (.slice A n c) := by rw [hV]; go_simp
  have b2 : V.cell? ⟨w.heap.size, 2, none⟩ = some (.slice B l cb) := by rw [hV]; go_simp
  have rV : RowN V (w.heap.size + 1) 25 2 := ⟨#[.int .i64 0, .slice none 0 0], by have := heap_alloc_new (w.alloc (.cells #[.int .i64 m, .slice A n c, .slice B l cb] 52)) (.cells #[.int .i64 0, .slice none 0 0] 25); rw [hV]; simpa using this, rfl⟩
  have hsV : V.heap.size = w.heap.size + 1 + 1 := by rw [hV]; simp
  have HV := Lib.hid hV
  clear hV
  go_enter Try.func79, Try.ntmps79
  go_wp2_with fail
  rw [← HV.out]
  clear HV
  have hst0 := NSt.start V m (w.heap.size + 1 + 1 + 1)
  rw [hsV] at hst0
  go_wp2
  go_loopw [4] (fun q wr => ∃ (k : Nat) (v : Value), k ≤ n ∧ q = .int .i64 k ∧ NSt (w.heap.size + 1 + 1) (w.heap.size + 1 + 1 + 1) V wr m v (nowTo xs ns k)) (fun q _ => n - (intOf q).toNat)
  case atStart => exact ⟨0, _, by omega, rfl, by simpa [nowTo] using hst0⟩
  case round =>
    obtain ⟨k, v, hk, rfl, hS⟩ := hrel
    have b0 := cell_in hS.past b0
    have b1 := cell_in hS.past b1
    have b2 := cell_in hS.past b2
    have hxr := (hx.below hpV).below hS.past
    have hyr := (hy.below hpV).below hS.past
    have hXr : w.heap.size + 1 + 1 < wr.heap.size := hS.row.lt
    by_cases hlt : k < n
    · obtain ⟨⟨f, t, c', l', d⟩, ha⟩ : ∃ a, xs[k]? = some a := ⟨_, List.getElem?_eq_getElem (by have := HX.out; omega)⟩
      obtain ⟨g, o, rfl, c0, c1, c2, c3, c4⟩ := hxr k _ ha
      have hc := live_cost HB.out ha
      simp only at c0 c1 c2 c3 c4 hc
      have k0 : (0 : Int) ≤ (k : Int) := by omega
      have k1 : (k : Int) < (n : Int) := by omega
      obtain ⟨wO, hwO⟩ : ∃ wO, wO = wr := ⟨_, rfl⟩
      subst hwO
      have HA := Lib.hid ha
      have HS := Lib.hid hS
      have hbx := ArcBox.start wO f t c' l' d
      have hpa : Past wO (wO.alloc (.cells #[.int .i64 f, .int .i64 t, .int .i64 c', .int .i64 l', .int .i64 d] 34)) := (Past.refl wO).alloc _
      clear ha hS
      go_wp2
      go_loopw [6, 7] (fun b q wi => ∃ (j : Nat) (s : Bool) (M : Int), j ≤ l ∧ b = .bool s ∧ q = .int .i64 j ∧ shutTo ns k j = s ∧ moreTo ns k j = M ∧ ArcBox wi wO.heap.size f t (c' + M) l' d ∧ Past wO wi) (fun _ q _ => l - (intOf q).toNat)
      case atStart => exact ⟨0, false, 0, by omega, rfl, rfl, rfl, rfl, by rw [Int.add_zero]; exact hbx, hpa⟩
      case round =>
        obtain ⟨j, s, M, hj, rfl, rfl, hs, hM, hE, hbi⟩ := hrel
        have hMb := moreTo_bd HNB.out (k : Int) j
        rw [hM] at hMb
        have HSH := Lib.hid hs
        have HM := Lib.hid hM
        have b0 := cell_in hbi b0
        have b1 := cell_in hbi b1
        have b2 := cell_in hbi b2
        have hyi := hyr.below hbi
        have si := hbi.size
        have e0 := hE.c0
        have e1 := hE.c1
        have e2 := hE.c2
        have e3 := hE.c3
        have e4 := hE.c4
        have z2 := hE.row.frozen 2
        clear hs hM
        by_cases hjl : j < l
        · obtain ⟨⟨x0, x1, x2⟩, ha'⟩ : ∃ a, ns[j]? = some a := ⟨_, List.getElem?_eq_getElem (by have := HL.out; omega)⟩
          obtain ⟨g2, o2, rfl, d0, d1, d2⟩ := hyi j _ ha'
          have hnb := (newsB_iff _ _).1 (newssB_at HNB.out ha')
          simp only at d0 d1 d2 hnb
          have j0 : (0 : Int) ≤ (j : Int) := by omega
          have j1 : (j : Int) < (l : Int) := by omega
          have HSN := Lib.hid (shutTo_next (i := (k : Int)) ha')
          have HMN := Lib.hid (moreTo_next (i := (k : Int)) ha')
          simp only at HSN HMN
          clear ha'
          by_cases hxk : x1 = (k : Int)
          rotate_left
          · have q0 : (x1 == (k : Int)) = false := by simpa using hxk
            have HS1 : Hid (shutTo ns k (j + 1) = s) := by rw [Hid, HSN.out, HSH.out]; simp [hxk]
            have HM1 : Hid (moreTo ns k (j + 1) = M) := by rw [Hid, HMN.out, HM.out]; simp [hxk]
            clear hxk hnb hMb hc HSN HMN
            go_wp2
            go_roundw
            case rel => exact ⟨j + 1, s, M, by omega, rfl, by go_num, HS1.out, HM1.out, hE, hbi⟩
            case measure => simp [intOf]; omega
          · by_cases hx2 : x2 < 0
            · have HS1 : Hid (shutTo ns k (j + 1) = true) := by rw [Hid, HSN.out]; simp [hxk, hx2]
              have HM1 : Hid (moreTo ns k (j + 1) = M) := by rw [Hid, HMN.out, HM.out]; simp [hx2]
              subst hxk
              clear hnb hMb hc HSN HMN
              go_wp2
              go_roundw
              case rel => exact ⟨j + 1, true, M, by omega, rfl, by go_num, HS1.out, HM1.out, hE, hbi⟩
              case measure => simp [intOf]; omega
            · have HS1 : Hid (shutTo ns k (j + 1) = s) := by rw [Hid, HSN.out, HSH.out]; simp [hx2]
              have HM1 : Hid (moreTo ns k (j + 1) = M + x2) := by rw [Hid, HMN.out, HM.out]; simp [hxk, hx2]
              subst hxk
              have hwr : IntKind.i64.wrap (c' + M + x2) = c' + M + x2 := IntWalk.i64_in _ (by omega)
              have hE2 := hE.drew.put (c' + M + x2)
              have hbi2 : Past wO (wr.drew.setCell ⟨wO.heap.size, 2, none⟩ (.int .i64 (c' + M + x2))) := Below.setCell hbi.drew (Nat.le_refl _) _
              have HE2 := Lib.hid hE2
              have HBI2 := Lib.hid hbi2
              clear hnb hMb hc HSN HMN hE2 hbi2
              go_wp2_with fail
              go_still_tail 10, (by kernel_rfl)
              change wpList _ _ _ _ _ wr.drew
              go_wp2
              go_roundw
              case rel => exact ⟨j + 1, s, M + x2, by omega, rfl, by go_num, HS1.out, HM1.out, by rw [← Int.add_assoc]; exact HE2.out, HBI2.out⟩
              case measure => simp [intOf]; omega
        · obtain rfl : l = j := by omega
          have hSl := HS.out
          have hSi := hSl.later hbi
          have HXO := Lib.hid HX.out
          cases s with
          | true =>
            have HF : Hid (nowTo xs ns (k + 1) = nowTo xs ns k) := nowTo_shut HA.out (by rw [HL.out]; exact HSH.out)
            have hS9 := hSl.later (Below.setCell hbi (Nat.le_refl _) (.int .i64 99) : Past wO (wr.setCell ⟨wO.heap.size, 2, none⟩ (.int .i64 99)))
            clear hSl
            by_cases h99 : (99 : Int) < c' + M
            · go_wp2
              go_roundw
              case rel => exact ⟨k + 1, v, by omega, by go_num, by rw [HF.out]; exact hS9⟩
              case measure => simp [intOf]; omega
            · go_wp2
              go_roundw
              case rel => exact ⟨k + 1, v, by omega, by go_num, by rw [HF.out]; exact hSi⟩
              case measure => simp [intOf]; omega
          | false =>
            have HF : Hid (nowTo xs ns (k + 1) = nowTo xs ns k ++ [⟨f, t, min (c' + M) 99, l', d⟩]) := by
              rw [Hid, nowTo_open HA.out (by rw [HL.out]; exact HSH.out), HL.out, HM.out]
            have hlen := nowTo_len xs ns k
            obtain ⟨L, hLL⟩ : ∃ L, L = nowTo xs ns k := ⟨_, rfl⟩
            rw [← hLL] at hSl hSi HF hlen
            obtain ⟨N, hN⟩ : ∃ N, N = L.length := ⟨_, rfl⟩
            rw [← hN] at hlen
            have HN := Lib.hid hN
            clear hN hLL HS
            have step : ∀ (C : Int) (W : World), Past wO W → ArcBox W wO.heap.size f t C l' d → C = min (c' + M) 99 → (W.cell? ⟨w.heap.size + 1 + 1, 1, none⟩ = some v) ∧ NSt (w.heap.size + 1 + 1) (w.heap.size + 1 + 1 + 1) V W m v L ∧ W.ownsRow (w.heap.size + 1 + 1 + 1) 34 5 v N (cellsOf L) := fun C W hp hbx _ => by
              have h := hSl.later hp
              exact ⟨h.o1, h, by rw [HN.out]; exact h.own⟩
            have HSTEP := Lib.hid step
            have o1r := hSi.o1
            clear step hSl hSi
            by_cases h99 : (99 : Int) < c' + M
            · have hE9 := hE.put 99
              have hp9 : Past wO (wr.setCell ⟨wO.heap.size, 2, none⟩ (.int .i64 99)) := Below.setCell hbi (Nat.le_refl _) _
              have hm9 : Hid ((99 : Int) = min (c' + M) 99) := by rw [Hid]; omega
              obtain ⟨o1, hS9, hv⟩ := HSTEP.out 99 _ hp9 hE9 hm9.out
              have hz9 : (wr.setCell ⟨wO.heap.size, 2, none⟩ (.int .i64 99)).heap.size = wr.heap.size := by simp
              have hnews : ∀ j u, ([.int .i64 f, .int .i64 t, .int .i64 99, .int .i64 l', .int .i64 d] : List Value)[j]? = some u → ((wr.setCell ⟨wO.heap.size, 2, none⟩ (.int .i64 99)).alloc (.cells #[.int .i64 f, .int .i64 t, .int .i64 99, .int .i64 l', .int .i64 d] 34)).cell? ((⟨wr.heap.size, 0, none⟩ : Addr).add j) = some u := by
                have h := five_new (wr.setCell ⟨wO.heap.size, 2, none⟩ (.int .i64 99)) (.int .i64 f) (.int .i64 t) (.int .i64 99) (.int .i64 l') (.int .i64 d) 34
                rw [hz9] at h
                exact h
              have HNW := Lib.hid hnews
              have HS9 := Lib.hid hS9
              have HV9 := Lib.hid hv
              clear o1 hS9 hv hE9 HSTEP hnews hz9
              go_wp2_with (first | (at_builtin; refine wpList_append_own_at _ rfl _ _ 23 rfl (w.heap.size + 1 + 1 + 1) 34 i0 _ 5 40 Try.underlying23 hi hz0 hz1 hz2 rfl (by decide) v N (cellsOf L) rfl (HV9.out.alloc _) ⟨wr.heap.size, 0, none⟩ 1 1 [.int .i64 f, .int .i64 t, .int .i64 99, .int .i64 l', .int .i64 d] rfl rfl HNW.out (cellsOf_one [⟨f, t, 99, l', d⟩]) (by unfold maxLen; omega) (by omega) (by simp; omega) ?_; intro v1 w9 hown1 hgrow1 hnil1 hat1; obtain ⟨gv, cv, rfl, hgv, hgw⟩ := World.ownsRow.form hown1 (by omega); obtain ⟨⟨u9, x9⟩, z9, hSn⟩ := HS9.out.put (a := ⟨f, t, 99, l', d⟩) (by omega) (Nat.lt_succ_self _) ((Past.refl _).alloc _) hgrow1 hown1 (by rw [HN.out]) rfl))
              go_roundw
              case rel => exact ⟨k + 1, _, by omega, by go_num, by rw [HF.out, ← hm9.out]; exact hSn⟩
              case measure => simp [intOf]; omega
            · have hm9 : Hid (c' + M = min (c' + M) 99) := by rw [Hid]; omega
              obtain ⟨o1, hS9, hv⟩ := HSTEP.out _ _ hbi hE hm9.out
              have HS9 := Lib.hid hS9
              have HV9 := Lib.hid hv
              clear hS9 hv HSTEP hE
              go_wp2_with (first | (at_builtin; refine wpList_append_own_at _ rfl _ _ 23 rfl (w.heap.size + 1 + 1 + 1) 34 i0 _ 5 40 Try.underlying23 hi hz0 hz1 hz2 rfl (by decide) v N (cellsOf L) rfl (HV9.out.alloc _) ⟨wr.heap.size, 0, none⟩ 1 1 [.int .i64 f, .int .i64 t, .int .i64 (c' + M), .int .i64 l', .int .i64 d] rfl rfl (five_new wr _ _ _ _ _ _) (cellsOf_one [⟨f, t, c' + M, l', d⟩]) (by unfold maxLen; omega) (by omega) (by simp; omega) ?_; intro v1 w9 hown1 hgrow1 hnil1 hat1; obtain ⟨gv, cv, rfl, hgv, hgw⟩ := World.ownsRow.form hown1 (by omega); obtain ⟨⟨u9, x9⟩, z9, hSn⟩ := HS9.out.put (a := ⟨f, t, c' + M, l', d⟩) (by omega) (Nat.lt_succ_self _) ((Past.refl wr).alloc _) hgrow1 hown1 (by rw [HN.out]) rfl))
              go_roundw
              case rel => exact ⟨k + 1, _, by omega, by go_num, by rw [HF.out, ← hm9.out]; exact hSn⟩
              case measure => simp [intOf]; omega
    · obtain rfl : n = k := by omega
      obtain ⟨A', c', rfl, hx', ho'⟩ := hS.res.form
      have o0 := hS.o0
      have o1 := hS.o1
      have r1 := rV.keep (hS.past.block _ rV.lt)
      obtain ⟨q0, e0⟩ := r1.cell (i := 0) (by omega)
      obtain ⟨q1, e1⟩ := r1.cell (i := 1) (by omega)
      have z0 := r1.frozen 0
      have z1 := r1.frozen 1
      have hne : blk A' ≠ some (w.heap.size + 1) := ho'.ne_blk (by omega)
      have hpr := hpV.trans hS.past
      have HXN : Hid (nowTo xs ns n = nowL xs ns) := by rw [Hid, nowL, HX.out]
      rw [HXN.out] at hx' ho' o1
      obtain ⟨L, hLL⟩ : ∃ L, L = nowL xs ns := ⟨_, rfl⟩
      rw [← hLL] at hx' ho' o1
      have HLL := Lib.hid hLL
      obtain ⟨N, hN⟩ : ∃ N, N = L.length := ⟨_, rfl⟩
      rw [← hN] at ho' o1
      have HN := Lib.hid hN
      clear hN hLL hS
      go_wp2
      exact bodyPost_ret (v := .agg #[.int .i64 m, .slice A' N c']) (by simp [results, Try.results79, go_sem, e0, e1]) rfl
        ⟨A', c', by rw [← HLL.out, ← HN.out], by rw [← HLL.out]; exact (hx'.far _ _ hne).far _ _ hne, by rw [← HLL.out, ← HN.out]; exact ((ho'.lower (by omega)).far _ _).far _ _, Below.setCell (Below.setCell hpr (by simp) _) (by simp) _⟩

set_option maxRecDepth 100000 in
set_option maxHeartbeats 2000000 in
theorem specLiveNow_any (m : Int) (A : Option Addr) (n c : Nat) (xs : List ArcD) (B : Option Addr) (l cb : Nat) (ns : List NewsD) (w : World) (hn : n ≤ 1048576) (hnx : xs.length = n) (hx : ArcsAt w A xs) (hl : l ≤ 1048576) (hly : ns.length = l) (hy : NewssAt w B ns) :
    Calls Try.prog 32 #[.agg #[.int .i64 m, .slice A n c, .slice B l cb]] w (GivesNet w (lnowN m xs ns) (lnowL m xs ns)) := by
  have HX := Lib.hid hnx
  have HY := Lib.hid hly
  clear hnx hly
  have hb0 : Past w ((w.alloc (.cells #[.int .i64 m, .slice A n c, .slice B l cb] 52)).alloc (.cells #[.int .i64 0, .slice none 0 0] 25)) := ((Past.refl _).alloc _).alloc _
  go_enter Try.func32, Try.ntmps32
  go_wp2_with fail
  refine (l16Ok_any m A n c xs B l cb ns _ hn HX.out (hx.below hb0) hl HY.out (hy.below hb0)).mono ?_
  rintro e w1 ⟨rfl, hb1⟩
  have b0 := cell_in (p := ⟨w.heap.size, 0, none⟩) (v := .int .i64 m) hb1 (by go_simp)
  have b1 := cell_in (p := ⟨w.heap.size, 1, none⟩) (v := .slice A n c) hb1 (by go_simp)
  have b2 := cell_in (p := ⟨w.heap.size, 2, none⟩) (v := .slice B l cb) hb1 (by go_simp)
  have e0 := cell_in (p := ⟨w.heap.size + 1, 0, none⟩) (v := .int .i64 0) hb1 (by go_simp)
  have e1 := cell_in (p := ⟨w.heap.size + 1, 1, none⟩) (v := .slice none 0 0) hb1 (by go_simp)
  have z0 := free_in (p := ⟨w.heap.size + 1, 0, none⟩) (v := .int .i64 0) hb1 (by go_simp) (by go_simp)
  have z1 := free_in (p := ⟨w.heap.size + 1, 1, none⟩) (v := .slice none 0 0) hb1 (by go_simp) (by go_simp)
  have hx1 := (hx.below hb0).below hb1
  have hy1 := (hy.below hb0).below hb1
  have hp1 := hb0.trans hb1
  clear hb0 hb1
  cases hB : liveB m xs ns with
  | false =>
    have HV := Lib.hid hB
    clear hB
    go_wp2
    exact bodyPost_ret (v := .agg #[.int .i64 0, .slice none 0 0]) (by simp [results, Try.results32, go_sem, e0, e1]) rfl (givesLive_no HV.out rfl (Below.setCell (Below.setCell hp1 (by simp) _) (by simp) _))
  | true =>
  have HV := Lib.hid hB
  clear hB
  go_wp2_with fail
  refine (l16Now_any m A n c xs B l cb ns _ HV.out HX.out hx1 HY.out hy1).mono ?_
  rintro e w3 ⟨A3, c3, rfl, hx3, ho3, hb3⟩
  have sw : w.heap.size + 1 < w1.heap.size := lt_of_cell e0
  have hne : blk A3 ≠ some (w.heap.size + 1) := ho3.ne_blk (by omega)
  have z0 := free_in hb3 e0 z0
  have z1 := free_in hb3 e1 z1
  have e0 := cell_in hb3 e0
  have e1 := cell_in hb3 e1
  obtain ⟨h1, h2⟩ := lnow_yes HV.out
  have H1 := Lib.hid h1
  have H2 := Lib.hid h2
  obtain ⟨N, hN⟩ : ∃ N, N = (nowL xs ns).length := ⟨_, rfl⟩
  rw [← hN] at ho3 ⊢
  have HN := Lib.hid hN
  clear h1 h2 hN
  go_wp2
  exact bodyPost_ret (v := .agg #[.int .i64 m, .slice A3 N c3]) (by simp [results, Try.results32, go_sem, e0, e1]) rfl
    ⟨A3, c3, by rw [H1.out, H2.out, ← HN.out], by rw [H2.out]; exact (hx3.far _ _ hne).far _ _ hne, by rw [H2.out, ← HN.out]; exact ((ho3.lower (by omega)).far _ _).far _ _, Below.setCell (Below.setCell (hp1.trans hb3) (by simp) _) (by simp) _⟩

end Go.Proofs.Ytaojognjkiifmab
