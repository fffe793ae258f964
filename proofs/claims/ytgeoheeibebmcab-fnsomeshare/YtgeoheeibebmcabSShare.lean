/-
  What two walks share: spec.l14Share, spec.SomeShare, impl.SomeShare. No condition.
-/
import Derived.Test.YtgeoheeibebmcabInL
namespace Go.Proofs.Ytgeoheeibebmcab
open Go.RowKit

set_option maxRecDepth 100000 in
set_option maxHeartbeats 1000000 in
theorem l14Share_any (m : Int) (A B C : Option Addr) (n c l cb k cc : Nat) (xs : List ArcD) (ys zs : List Int) (w : World) (hnx : xs.length = n) (hny : ys.length = l) (hnz : zs.length = k) (hk : k ≤ 1048576) (hx : ArcsAt w A xs) (hy : IntsAt w B ys) (hz : IntsAt w C zs) (ho : okB m xs ys = true) :
    Calls Try.prog 91 #[.agg #[.int .i64 m, .slice A n c], .slice B l cb, .slice C k cc] w fun e w' => e = .returned (.int .i64 (shareTo xs ys zs l)) ∧ Below w.heap.size w w' := by
  have h20 := ok_len ho
  have h16 := ok_num ho
  rw [hny] at h20
  rw [hnx] at h16
  have HX := Lib.hid hnx
  have HY := Lib.hid hny
  have HZ := Lib.hid hnz
  have HO := Lib.hid ho
  clear hnx hny hnz ho
  have hb0 : Past w (w.alloc (.cells #[.int .i64 m, .slice A n c] 25)) := (Past.refl _).alloc _
  go_enter Try.func91, Try.ntmps91
  go_wp2
  go_loopw [7, 8] (fun s i wr => ∃ j : Nat, j ≤ l ∧ i = .int .i64 j ∧ s = .int .i64 (shareTo xs ys zs j) ∧ Past (w.alloc (.cells #[.int .i64 m, .slice A n c] 25)) wr) (fun _ i _ => l - (intOf i).toNat)
  case atStart => exact ⟨0, by omega, rfl, rfl, Past.refl _⟩
  case round =>
    obtain ⟨j, hj, rfl, rfl, hb⟩ := hrel
    have b0 := cell_in (p := ⟨w.heap.size, 0, none⟩) (v := .int .i64 m) hb (by go_simp)
    have b1 := cell_in (p := ⟨w.heap.size, 1, none⟩) (v := .slice A n c) hb (by go_simp)
    have hs := shareTo_bd (zs := zs) HO.out j (by rw [HY.out]; exact hj)
    by_cases hlt : j < l
    · obtain ⟨y, ha⟩ : ∃ a, ys[j]? = some a := ⟨_, List.getElem?_eq_getElem (by have := HY.out; omega)⟩
      obtain ⟨g, o, rfl, c0⟩ := ((hy.below hb0).below hb) j _ ha
      obtain ⟨q, ⟨f, t, c', l', d⟩, rfl, hq, q0, q1, he⟩ := ok_arc HO.out ha
      obtain ⟨g', o', rfl, d0, d1, d2, d3, d4⟩ := ((hx.below hb0).below hb) q _ hq
      have hqn : q < n := by rw [← HX.out]; exact (List.getElem?_eq_some_iff.1 hq).1
      have HE := Lib.hid he
      have HNO := Lib.hid (numOf_get ha)
      clear ha hq he
      simp only at q0 q1
      have i0 : (0 : Int) ≤ (j : Int) := by omega
      have i1 : (j : Int) < (l : Int) := by omega
      have j0 : (0 : Int) ≤ (q : Int) := by omega
      have j1 : (q : Int) < (n : Int) := by omega
      obtain ⟨S, hS⟩ : ∃ S, S = shareTo xs ys zs j := ⟨_, rfl⟩
      have HS : Hid (shareTo xs ys zs (j + 1) = if inL zs (q : Int) then S + c' else S) := by rw [Hid, shareTo, HE.out, HNO.out, hS]
      rw [← hS] at hs ⊢
      have t1 : IntKind.i64.wrap (S + c') = S + c' := IntWalk.i64_in _ (by omega)
      clear hS
      go_wp2_with fail
      refine (l12In_any C k cc zs (q : Int) _ hk HZ.out ((hz.below hb0).below hb)).mono ?_
      rintro e w2 ⟨rfl, hb2⟩
      have b1 := cell_in hb2 b1
      have c0 := cell_in hb2 c0
      have d2 := cell_in hb2 d2
      have hb := hb.trans hb2
      clear b0 d0 d1 d3 d4 hb2
      cases hI : inL zs (q : Int) with
      | true =>
        have HI := Lib.hid hI
        clear hI
        go_wp2_with fail
        go_quiet (fail)
        go_wp2
        go_roundw
        case rel => exact ⟨j + 1, by omega, by go_num, by rw [HS.out, if_pos HI.out], hb.drewN _⟩
        case measure => simp [intOf]; omega
      | false =>
        have HI := Lib.hid hI
        clear hI
        go_wp2
        go_roundw
        case rel => exact ⟨j + 1, by omega, by go_num, by rw [HS.out, HI.out]; rfl, hb⟩
        case measure => simp [intOf]; omega
    · obtain rfl : l = j := by omega
      go_wp2
      go_ret
      exact ⟨rfl, hb0.trans hb⟩

set_option maxRecDepth 100000 in
set_option maxHeartbeats 1000000 in
theorem specSomeShare_any (m : Int) (A : Option Addr) (n c : Nat) (xs : List ArcD) (B : Option Addr) (l cb : Nat) (ys : List Int) (C : Option Addr) (k cc : Nat) (zs : List Int) (w : World) (hn : n ≤ 1048576) (hnx : xs.length = n) (hx : ArcsAt w A xs) (hl : l ≤ 1048576) (hny : ys.length = l) (hy : IntsAt w B ys) (hk : k ≤ 1048576) (hnz : zs.length = k) (hz : IntsAt w C zs) :
    Calls Try.prog 44 #[.agg #[.int .i64 m, .slice A n c], .slice B l cb, .slice C k cc] w fun e w' => e = .returned (.int .i64 (shareI m xs ys zs)) ∧ Below w.heap.size w w' := by
  have HX := Lib.hid hnx
  have HY := Lib.hid hny
  have HZ := Lib.hid hnz
  clear hnx hny hnz
  have hb0 : Past w (w.alloc (.cells #[.int .i64 m, .slice A n c] 25)) := (Past.refl _).alloc _
  go_enter Try.func44, Try.ntmps44
  go_wp2_with fail
  refine (l1Ok_any m A n c xs _ hn HX.out (hx.below hb0)).mono ?_
  rintro e w1 ⟨rfl, hb1⟩
  have b0 := cell_in (p := ⟨w.heap.size, 0, none⟩) (v := .int .i64 m) hb1 (by go_simp)
  have b1 := cell_in (p := ⟨w.heap.size, 1, none⟩) (v := .slice A n c) hb1 (by go_simp)
  have hp1 := hb0.trans hb1
  have hx1 := hx.below hp1
  have hy1 := hy.below hp1
  have hz1 := hz.below hp1
  clear hb0 hb1 hx hy hz
  cases hB : netB m xs with
  | false =>
    have HB := Lib.hid hB
    clear hB
    go_wp2
    go_ret
    exact ⟨ret_int (by simp [shareI, okB, HB.out]), hp1⟩
  | true =>
    have HB := Lib.hid hB
    clear hB
    go_wp2_with fail
    refine (l2Ok_any m A B n c l cb xs ys _ hn hl HX.out HY.out hx1 hy1).mono ?_
    rintro e w2 ⟨rfl, hb2⟩
    have b0 := cell_in hb2 b0
    have b1 := cell_in hb2 b1
    have hp2 := hp1.trans hb2
    have hx2 := hx1.below hb2
    have hy2 := hy1.below hb2
    have hz2 := hz1.below hb2
    clear hp1 hb2 hx1 hy1 hz1
    cases hW : walkB xs ys with
    | false =>
      have HW := Lib.hid hW
      clear hW
      go_wp2
      go_ret
      exact ⟨ret_int (by simp [shareI, okB, HW.out]), hp2⟩
    | true =>
      have HW := Lib.hid hW
      clear hW
      go_wp2_with fail
      refine (l2Ok_any m A C n c k cc xs zs _ hn hk HX.out HZ.out hx2 hz2).mono ?_
      rintro e w3 ⟨rfl, hb3⟩
      have b0 := cell_in hb3 b0
      have b1 := cell_in hb3 b1
      have hp3 := hp2.trans hb3
      have hx3 := hx2.below hb3
      have hy3 := hy2.below hb3
      have hz3 := hz2.below hb3
      clear hp2 hb3 hx2 hy2 hz2
      cases hV : walkB xs zs with
      | false =>
        have HV := Lib.hid hV
        clear hV
        go_wp2
        go_ret
        exact ⟨ret_int (by simp [shareI, okB, HV.out]), hp3⟩
      | true =>
        have HV := Lib.hid hV
        clear hV
        have HO : Hid (okB m xs ys = true) := (okB_iff _ _ _).2 ⟨HB.out, HW.out⟩
        have HP : Hid (okB m xs zs = true) := (okB_iff _ _ _).2 ⟨HB.out, HV.out⟩
        go_wp2_with fail
        refine (l14Share_any m A B C n c l cb k cc xs ys zs _ HX.out HY.out HZ.out hk hx3 hy3 hz3 HO.out).mono ?_
        rintro e w4 ⟨rfl, hb4⟩
        go_wp2
        go_ret
        exact ⟨ret_int (by rw [shareI, HO.out, HP.out, HY.out]; rfl), hp3.trans hb4⟩

set_option maxRecDepth 100000 in
set_option maxHeartbeats 1000000 in
theorem implSomeShare_any (m : Int) (A : Option Addr) (n c : Nat) (xs : List ArcD) (B : Option Addr) (l cb : Nat) (ys : List Int) (C : Option Addr) (k cc : Nat) (zs : List Int) (w : World) (hn : n ≤ 1048576) (hnx : xs.length = n) (hx : ArcsAt w A xs) (hl : l ≤ 1048576) (hny : ys.length = l) (hy : IntsAt w B ys) (hk : k ≤ 1048576) (hnz : zs.length = k) (hz : IntsAt w C zs) :
    Calls Try.prog 43 #[.agg #[.int .i64 m, .slice A n c], .slice B l cb, .slice C k cc] w fun e w' => e = .returned (.int .i64 (shareI m xs ys zs)) ∧ Below w.heap.size w w' := by
  have HX := Lib.hid hnx
  have HY := Lib.hid hny
  have HZ := Lib.hid hnz
  clear hnx hny hnz
  have hb0 : Past w (w.alloc (.cells #[.int .i64 m, .slice A n c] 25)) := (Past.refl _).alloc _
  go_enter Try.func43, Try.ntmps43
  go_wp2_with fail
  refine (implWalkOk_any m A B n c l cb xs ys _ hn hl HX.out HY.out (hx.below hb0) (hy.below hb0)).mono ?_
  rintro e w1 ⟨rfl, hb1⟩
  have b0 := cell_in (p := ⟨w.heap.size, 0, none⟩) (v := .int .i64 m) hb1 (by go_simp)
  have b1 := cell_in (p := ⟨w.heap.size, 1, none⟩) (v := .slice A n c) hb1 (by go_simp)
  have hp1 := hb0.trans hb1
  have hx1 := hx.below hp1
  have hy1 := hy.below hp1
  have hz1 := hz.below hp1
  clear hb0 hb1 hx hy hz
  cases hB : okB m xs ys with
  | false =>
    have HB := Lib.hid hB
    clear hB
    go_wp2
    go_ret
    exact ⟨ret_int (by simp [shareI, HB.out]), hp1⟩
  | true =>
    have HO := Lib.hid hB
    clear hB
    have h20 := ok_len HO.out
    have h16 := ok_num HO.out
    rw [HY.out] at h20
    rw [HX.out] at h16
    go_wp2_with fail
    refine (implWalkOk_any m A C n c k cc xs zs _ hn hk HX.out HZ.out hx1 hz1).mono ?_
    rintro e w2 ⟨rfl, hb2⟩
    have b0 := cell_in hb2 b0
    have b1 := cell_in hb2 b1
    have hp2 := hp1.trans hb2
    have hx2 := hx1.below hb2
    have hy2 := hy1.below hb2
    have hz2 := hz1.below hb2
    clear hp1 hb2 hx1 hy1 hz1
    cases hV : okB m xs zs with
    | false =>
      have HV := Lib.hid hV
      clear hV
      go_wp2
      go_ret
      exact ⟨ret_int (by simp [shareI, HV.out]), hp2⟩
    | true =>
      have HP := Lib.hid hV
      clear hV
      go_wp2
      go_loopw [7, 22] (fun s i wr => ∃ j : Nat, j ≤ l ∧ i = .int .i64 j ∧ s = .int .i64 (shareTo xs ys zs j) ∧ Past w2 wr) (fun _ i _ => l - (intOf i).toNat)
      case atStart => exact ⟨0, by omega, rfl, rfl, Past.refl _⟩
      case round =>
        obtain ⟨j, hj, rfl, rfl, hb⟩ := hrel
        have b1 := cell_in hb b1
        have hs := shareTo_bd (zs := zs) HO.out j (by rw [HY.out]; exact hj)
        by_cases hlt : j < l
        · obtain ⟨y, ha⟩ : ∃ a, ys[j]? = some a := ⟨_, List.getElem?_eq_getElem (by have := HY.out; omega)⟩
          obtain ⟨g, o, rfl, c0⟩ := (hy2.below hb) j _ ha
          obtain ⟨q, ⟨f, t, c', l', d⟩, rfl, hq, q0, q1, he⟩ := ok_arc HO.out ha
          obtain ⟨g', o', rfl, d0, d1, d2, d3, d4⟩ := (hx2.below hb) q _ hq
          have hqn : q < n := by rw [← HX.out]; exact (List.getElem?_eq_some_iff.1 hq).1
          have HE := Lib.hid he
          have HNO := Lib.hid (numOf_get ha)
          clear ha hq he
          simp only at q0 q1
          have i0 : (0 : Int) ≤ (j : Int) := by omega
          have i1 : (j : Int) < (l : Int) := by omega
          have j0 : (0 : Int) ≤ (q : Int) := by omega
          have j1 : (q : Int) < (n : Int) := by omega
          obtain ⟨S, hS⟩ : ∃ S, S = shareTo xs ys zs j := ⟨_, rfl⟩
          have HS : Hid (shareTo xs ys zs (j + 1) = if inL zs (q : Int) then S + c' else S) := by rw [Hid, shareTo, HE.out, HNO.out, hS]
          rw [← hS] at hs ⊢
          have t1 : IntKind.i64.wrap (S + c') = S + c' := IntWalk.i64_in _ (by omega)
          clear hS
          go_wp2_with fail
          refine (contains_any C k cc zs (q : Int) _ hk HZ.out (hz2.below hb)).mono ?_
          rintro e w3 ⟨rfl, hb3⟩
          have b1 := cell_in hb3 b1
          have d2 := cell_in hb3 d2
          have hb := hb.trans hb3
          clear b0 d0 d1 d3 d4 hb3 c0
          cases hI : inL zs (q : Int) with
          | true =>
            have HI := Lib.hid hI
            clear hI
            go_wp2
            go_roundw
            case rel => exact ⟨j + 1, by omega, by go_num, by rw [HS.out, if_pos HI.out], hb⟩
            case measure => simp [intOf]; omega
          | false =>
            have HI := Lib.hid hI
            clear hI
            go_wp2
            go_roundw
            case rel => exact ⟨j + 1, by omega, by go_num, by rw [HS.out, HI.out]; rfl, hb⟩
            case measure => simp [intOf]; omega
        · obtain rfl : l = j := by omega
          go_wp2
          go_ret
          exact ⟨ret_int (by rw [shareI, HO.out, HP.out, HY.out]; rfl), hp2.trans hb⟩

end Go.Proofs.Ytgeoheeibebmcab
