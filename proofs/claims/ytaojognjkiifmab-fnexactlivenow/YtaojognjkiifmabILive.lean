/-
  When a net with news is ok: impl.newsOk, impl.LiveOk. No condition.
-/
import Derived.Test.YtaojognjkiifmabPLive
import Derived.Test.YtaojognjkiifmabInW
import Derived.BigQuiet
import Derived.Test.YtaojognjkiifmabQPast
namespace Go.Proofs.Ytaojognjkiifmab
open Go.RowKit

set_option maxRecDepth 100000 in
set_option maxHeartbeats 1000000 in
theorem newsOk_any (a : NewsD) (n : Nat) (w : World) (hn : n ≤ 1048576) :
    Calls Try.prog 77 #[.agg #[.int .i64 a.x0, .int .i64 a.x1, .int .i64 a.x2], .int .i64 n] w fun e w' => e = .returned (.bool (newsB n a)) ∧ Below w.heap.size w w' := by
  obtain ⟨x0, x1, x2⟩ := a
  have hw : IntKind.i64.wrap ((n : Int) - 1) = (n : Int) - 1 := IntWalk.i64_in _ (by omega)
  have hb : Past w (w.alloc (.cells #[.int .i64 x0, .int .i64 x1, .int .i64 x2] 64)) := (Past.refl _).alloc _
  by_cases h1 : 1 ≤ x0
  rotate_left
  · have HF : Hid (newsB n ⟨x0, x1, x2⟩ = false) := newsB_no0 (inB_lo _ _ _ (by show x0 < 1; omega))
    go_enter Try.func77, Try.ntmps77
    go_wp2
    go_ret
    exact ⟨ret_bool HF.out.symm, hb⟩
  by_cases h2 : x0 ≤ 999
  rotate_left
  · have HF : Hid (newsB n ⟨x0, x1, x2⟩ = false) := newsB_no0 (by rw [Bool.eq_false_iff]; intro h; have := (inB_iff _ _ _).1 h; simp only at this; omega)
    go_enter Try.func77, Try.ntmps77
    go_wp2
    go_ret
    exact ⟨ret_bool HF.out.symm, hb⟩
  have H0 : Hid (inB x0 1 999 = true) := (inB_iff _ _ _).2 ⟨h1, h2⟩
  cases hB1 : inB x1 0 ((n : Int) - 1) with
  | false =>
    have HF : Hid (newsB n ⟨x0, x1, x2⟩ = false) := newsB_no1 hB1
    have H1 := Lib.hid hB1
    clear hB1
    go_enter Try.func77, Try.ntmps77
    go_wp2_with fail
    refine (within_any _ _ _).mono ?_
    rintro e w1 ⟨rfl, rfl⟩
    rw [H1.out]
    go_wp2
    go_ret
    exact ⟨ret_bool HF.out.symm, hb⟩
  | true =>
  have H1 := Lib.hid hB1
  clear hB1
  by_cases h3 : x2 = -1
  · have HF : Hid (newsB n ⟨x0, x1, x2⟩ = true) := newsB_yes H0.out H1.out ((inB_iff _ _ _).2 (by simp only; omega))
    subst h3
    go_enter Try.func77, Try.ntmps77
    go_wp2_with fail
    refine (within_any _ _ _).mono ?_
    rintro e w1 ⟨rfl, rfl⟩
    rw [H1.out]
    go_wp2
    go_ret
    exact ⟨ret_bool HF.out.symm, hb⟩
  · have q3 : (x2 == -1) = false := by simpa using h3
    have HF : Hid (newsB n ⟨x0, x1, x2⟩ = inB x2 0 99) := by
      rw [Hid, newsB]
      simp only
      rw [H0.out, H1.out, Bool.true_and, Bool.true_and, Bool.eq_iff_iff, inB_iff, inB_iff]
      omega
    go_enter Try.func77, Try.ntmps77
    go_wp2_with fail
    refine (within_any _ _ _).mono ?_
    rintro e w1 ⟨rfl, rfl⟩
    rw [H1.out]
    go_wp2_with fail
    refine (within_any _ _ _).mono ?_
    rintro e w1 ⟨rfl, rfl⟩
    go_wp2
    go_ret
    exact ⟨ret_bool HF.out.symm, hb⟩

set_option maxRecDepth 100000 in
set_option maxHeartbeats 4000000 in
theorem implLiveOk_any (m : Int) (A : Option Addr) (n c : Nat) (xs : List ArcD) (B : Option Addr) (l cb : Nat) (ns : List NewsD) (w : World) (hn : n ≤ 1048576) (hnx : xs.length = n) (hx : ArcsAt w A xs) (hl : l ≤ 1048576) (hly : ns.length = l) (hy : NewssAt w B ns) :
    Calls Try.prog 30 #[.agg #[.int .i64 m, .slice A n c, .slice B l cb]] w fun e w' => e = .returned (.bool (liveB m xs ns)) ∧ Below w.heap.size w w' := by
  have HX := Lib.hid hnx
  have HL := Lib.hid hly
  clear hnx hly
  have hb0 : Past w (w.alloc (.cells #[.int .i64 m, .slice A n c, .slice B l cb] 52)) := (Past.refl _).alloc _
  go_enter Try.func30, Try.ntmps30
  go_wp2_with fail
  refine (implNetOk_any m A n c xs _ hn HX.out (hx.below hb0)).mono ?_
  rintro e w1 ⟨rfl, hb1⟩
  have b0 := cell_in (p := ⟨w.heap.size, 0, none⟩) (v := .int .i64 m) hb1 (by go_simp)
  have b1 := cell_in (p := ⟨w.heap.size, 1, none⟩) (v := .slice A n c) hb1 (by go_simp)
  have b2 := cell_in (p := ⟨w.heap.size, 2, none⟩) (v := .slice B l cb) hb1 (by go_simp)
  have hp1 := hb0.trans hb1
  have hx1 := hx.below hp1
  have hy1 := hy.below hp1
  have sw : w.heap.size < w1.heap.size := lt_of_cell b0
  clear hb0 hb1
  cases hB : netB m xs with
  | false =>
    have HV : Hid (liveB m xs ns = false) := by rw [Hid, liveB, hB]; rfl
    clear hB
    go_wp2
    go_ret
    exact ⟨ret_bool HV.out.symm, hp1⟩
  | true =>
  have HB := Lib.hid hB
  clear hB
  by_cases h6 : l ≤ 6
  rotate_left
  · have h6' : (6 : Int) < (l : Int) := by omega
    have HV : Hid (liveB m xs ns = false) := by rw [Hid, liveB, HL.out, decide_eq_false h6]; simp
    go_wp2
    go_ret
    exact ⟨ret_bool HV.out.symm, hp1⟩
  have h6' : ¬ (6 : Int) < (l : Int) := by omega
  go_wp2
  go_loopw [3, 4, 18] (fun _ _ i wr => ∃ k : Nat, k ≤ l ∧ i = .int .i64 k ∧ Past w1 wr ∧ NwTo n ns k) (fun _ _ i _ => l - (intOf i).toNat)
  case atStart => exact ⟨0, by omega, rfl, Past.refl _, fun j h => absurd h (by omega)⟩
  case round =>
    obtain ⟨k, hk, rfl, hb, hok⟩ := hrel
    have b0 := cell_in hb b0
    have b1 := cell_in hb b1
    have b2 := cell_in hb b2
    have hyr := hy1.below hb
    have sr := hb.size
    by_cases hkl : k < l
    · obtain ⟨⟨x0, x1, x2⟩, ha⟩ : ∃ a, ns[k]? = some a := ⟨_, List.getElem?_eq_getElem (by have := HL.out; omega)⟩
      obtain ⟨g, o, rfl, c0, c1, c2⟩ := hyr k _ ha
      have HA := Lib.hid ha
      have HK := Lib.hid hok
      have i0 : (0 : Int) ≤ (k : Int) := by omega
      have i1 : (k : Int) < (l : Int) := by omega
      clear ha hok
      have hpa : Past wr (wr.alloc (.cells #[.int .i64 x0, .int .i64 x1, .int .i64 x2] 64)) := (Past.refl wr).alloc _
      have E0 := past_cell (w := wr.alloc (.cells #[.int .i64 x0, .int .i64 x1, .int .i64 x2] 64)) (p := ⟨wr.heap.size, 0, none⟩) (v := .int .i64 x0) (by go_simp)
      have E1 := past_cell (w := wr.alloc (.cells #[.int .i64 x0, .int .i64 x1, .int .i64 x2] 64)) (p := ⟨wr.heap.size, 1, none⟩) (v := .int .i64 x1) (by go_simp)
      have E2 := past_cell (w := wr.alloc (.cells #[.int .i64 x0, .int .i64 x1, .int .i64 x2] 64)) (p := ⟨wr.heap.size, 2, none⟩) (v := .int .i64 x2) (by go_simp)
      have B1 := past_cell (cell_in hpa b1)
      have B2 := past_cell (cell_in hpa b2)
      cases hN : newsB n ⟨x0, x1, x2⟩ with
      | false =>
        have HV : Hid (liveB m xs ns = false) := liveB_bad (by have := HL.out; omega) (nwB_no HA.out (by rw [HX.out]; exact hN))
        have C1 := Lib.hid (fun q : PastOf (wr.alloc (.cells #[.int .i64 x0, .int .i64 x1, .int .i64 x2] 64)) => by have h := newsOk_any ⟨x0, x1, x2⟩ n q.W hn; rw [hN] at h; exact h)
        clear hN
        go_wp2_with fail
        refine wp_region_past (by kernel_rfl) (by kernel_rfl) ?_
        repeat (go_big_quiet_step (with_reducible exact rfl))
        go_big_quiet_step ((go_at_call 77; exact past_call (C1.out _)))
        repeat (go_big_quiet_step (with_reducible exact rfl))
        refine wpQuiet_nil ?_
        rintro _ ⟨⟨W8, hW8⟩, rfl⟩
        go_wp2
        go_ret
        exact ⟨ret_bool HV.out.symm, hp1.trans (hb.trans (hpa.trans hW8))⟩
      | true =>
      have HN := Lib.hid hN
      have C1 := Lib.hid (fun q : PastOf (wr.alloc (.cells #[.int .i64 x0, .int .i64 x1, .int .i64 x2] 64)) => by have h := newsOk_any ⟨x0, x1, x2⟩ n q.W hn; rw [hN] at h; exact h)
      clear hN
      by_cases hk0 : k = 0
      · have k1 : decide (0 < k) = false := by simp; omega
        have HK0 := Lib.hid hk0
        clear hk0
        go_wp2_with fail
        refine wp_region_past (by kernel_rfl) (by kernel_rfl) ?_
        repeat (go_big_quiet_step (with_reducible exact rfl))
        go_big_quiet_step ((go_at_call 77; exact past_call (C1.out _)))
        repeat (go_big_quiet_step (with_reducible exact rfl))
        refine wpQuiet_nil ?_
        rintro _ ⟨⟨W8, hW8⟩, rfl⟩
        go_wp2
        go_roundw
        case rel => exact ⟨k + 1, by omega, by go_num, hb.trans (hpa.trans hW8), HK.out.next (by have e := HK0.out; subst e; rw [nwB_first HA.out]; exact HN.out)⟩
        case measure => simp [intOf]; omega
      · obtain ⟨⟨y0, y1, y2⟩, ha'⟩ : ∃ a, ns[k - 1]? = some a := ⟨_, List.getElem?_eq_getElem (by have := HL.out; omega)⟩
        obtain ⟨g3, o3, eg, d0, d1, d2⟩ := hyr (k - 1) _ ha'
        injection eg with eg
        injection eg with eg1 eg2
        subst eg1 eg2
        have HS := Lib.hid (nwB_next (n := n) hk0 HA.out ha')
        have D0 := past_cell (cell_in hpa d0)
        clear ha' d0 d1 d2
        have k1 : decide (0 < k) = true := by simp; omega
        have k2 : IntKind.i64.wrap ((k : Int) - 1) = (k : Int) - 1 := IntWalk.i64_in _ (by omega)
        have k3 : (0 : Int) ≤ (k : Int) - 1 := by omega
        have k4 : (k : Int) - 1 < (l : Int) := by omega
        have k5 : ((k : Int) - 1).toNat = k - 1 := by omega
        by_cases u0 : x0 ≤ y0
        · have q0 : decide (x0 ≤ y0) = true := by simpa using u0
          have HV : Hid (liveB m xs ns = false) := liveB_bad (k := k) (by have := HL.out; omega) (by rw [HX.out, HS.out, HN.out]; simp; omega)
          clear HS
          go_wp2_with fail
          refine wp_region_past (by kernel_rfl) (by kernel_rfl) ?_
          repeat (go_big_quiet_step (with_reducible exact rfl))
          go_big_quiet_step ((go_at_call 77; exact past_call (C1.out _)))
          repeat (go_big_quiet_step (with_reducible exact rfl))
          refine wpQuiet_nil ?_
          rintro _ ⟨⟨W8, hW8⟩, rfl⟩
          go_wp2
          go_ret
          exact ⟨ret_bool HV.out.symm, hp1.trans (hb.trans (hpa.trans hW8))⟩
        · have q0 : decide (x0 ≤ y0) = false := by simpa using u0
          have HNx := Lib.hid (HK.out.next (by rw [HS.out, HN.out]; simp; omega))
          clear HS
          go_wp2_with fail
          refine wp_region_past (by kernel_rfl) (by kernel_rfl) ?_
          repeat (go_big_quiet_step (with_reducible exact rfl))
          go_big_quiet_step ((go_at_call 77; exact past_call (C1.out _)))
          repeat (go_big_quiet_step (with_reducible exact rfl))
          refine wpQuiet_nil ?_
          rintro _ ⟨⟨W8, hW8⟩, rfl⟩
          go_wp2
          go_roundw
          case rel => exact ⟨k + 1, by omega, by go_num, hb.trans (hpa.trans hW8), HNx.out⟩
          case measure => simp [intOf]; omega
    · obtain rfl : l = k := by omega
      have HE : Hid (liveB m xs ns = true) := by
        have e1 := HL.out
        have e2 := HX.out
        subst e1 e2
        rw [Hid, hok.end_, HB.out, decide_eq_true h6]; rfl
      go_wp2
      go_ret
      exact ⟨ret_bool HE.out.symm, hp1.trans hb⟩

end Go.Proofs.Ytaojognjkiifmab
