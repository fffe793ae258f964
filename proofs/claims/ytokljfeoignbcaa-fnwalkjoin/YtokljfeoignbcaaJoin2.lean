/-
  Two walks, one behind the other: spec.WalkJoin, impl.WalkJoin.
-/
import Derived.Test.YtokljfeoignbcaaJoin
namespace Go.Proofs.Ytokljfeoignbcaa
open Go.RowKit

def joinI (m : Int) (xs : List ArcD) (za zb : List Int) : List Int := if okB m xs (za ++ zb) then za ++ zb else []

theorem joinI_len (m : Int) (xs : List ArcD) (za zb : List Int) : (joinI m xs za zb).length ≤ 1048576 := by
  unfold joinI
  split
  · rename_i h
    have := ok_len h
    omega
  · simp

set_option maxRecDepth 100000 in
set_option maxHeartbeats 1000000 in
theorem implWalkJoin_any (m : Int) (A : Option Addr) (n c ga gb la lb ca cb : Nat) (xs : List ArcD) (za zb : List Int) (w : World) (hn : n ≤ 1048576) (hla : la ≤ 1048576) (hlb : lb ≤ 1048576) (hnx : xs.length = n) (ha : za.length = la) (hb : zb.length = lb)
    (hx : ArcsAt w A xs) (hza : IntsAt w (some ⟨ga, 0, none⟩) za) (hzb : IntsAt w (some ⟨gb, 0, none⟩) zb) :
    Calls Try.prog 40 #[.agg #[.int .i64 m, .slice A n c], .slice (some ⟨ga, 0, none⟩) la ca, .slice (some ⟨gb, 0, none⟩) lb cb] w (GivesB w (joinI m xs za zb) (okB m xs (za ++ zb))) := by
  have HX := Lib.hid hnx
  have HA := Lib.hid ha
  have HB := Lib.hid hb
  clear hnx ha hb
  have hb0 : Past w (w.alloc (.cells #[.int .i64 m, .slice A n c] 30)) := (Past.refl _).alloc _
  go_enter Try.func40, Try.ntmps40
  go_wp2_with fail
  have hb00 : Past (w.alloc (.cells #[.int .i64 m, .slice A n c] 30)) ((w.alloc (.cells #[.int .i64 m, .slice A n c] 30)).alloc (.cells #[.slice (some ⟨ga, 0, none⟩) la ca, .slice (some ⟨gb, 0, none⟩) lb cb] 26)) := (Past.refl _).alloc _
  refine (concat_any (w.heap.size + 1) ga 0 gb 0 la ca lb cb za zb _ hla hlb HA.out HB.out ((hza.below hb0).below hb00) ((hzb.below hb0).below hb00) (by go_simp) (by go_simp)).mono ?_
  rintro e w1 ⟨v, rfl, hv, hb1⟩
  have hb01 := hb00.trans hb1
  have b0 := cell_in (p := ⟨w.heap.size, 0, none⟩) (v := .int .i64 m) hb01 (by go_simp)
  have b1 := cell_in (p := ⟨w.heap.size, 1, none⟩) (v := .slice A n c) hb01 (by go_simp)
  obtain ⟨L, hL⟩ : ∃ L, L = (za ++ zb).length := ⟨_, rfl⟩
  have hL2 : L ≤ 2097152 := by rw [hL, List.length_append, HA.out, HB.out]; omega
  obtain ⟨D, cd, rfl, hid, hod⟩ := hv.form
  rw [← hL] at hv ⊢
  have HL := Lib.hid hL
  clear hL hb00 hb1 hod
  go_wp2_with fail
  refine (implWalkOk_wide m A D n c L cd xs (za ++ zb) _ hn hL2 HX.out HL.out.symm ((hx.below hb0).below hb01) hid).mono ?_
  rintro e w2 ⟨rfl, hb2⟩
  have hv2 := hv.below hb2
  cases hB : okB m xs (za ++ zb) with
  | false =>
    have HB := Lib.hid hB
    clear hB
    go_wp2
    go_ret2
    rw [HB.out]
    exact ⟨_, rfl, by simp only [joinI, HB.out, Bool.false_eq_true, if_false]; exact Res.nil _ _, hb0.trans (hb01.trans hb2)⟩
  | true =>
    have HB := Lib.hid hB
    clear hB
    go_wp2
    go_ret2
    rw [HB.out]
    exact ⟨_, rfl, by simp only [joinI, HB.out, if_true]; exact hv2.lower (by simp; omega), hb0.trans (hb01.trans hb2)⟩

set_option maxRecDepth 100000 in
set_option maxHeartbeats 1000000 in
theorem specWalkJoin_any (m : Int) (A : Option Addr) (n c ga gb la lb ca cb : Nat) (xs : List ArcD) (za zb : List Int) (w : World) (hn : n ≤ 1048576) (hla : la ≤ 1048576) (hlb : lb ≤ 1048576) (hnx : xs.length = n) (ha : za.length = la) (hb : zb.length = lb)
    (hx : ArcsAt w A xs) (hza : IntsAt w (some ⟨ga, 0, none⟩) za) (hzb : IntsAt w (some ⟨gb, 0, none⟩) zb) :
    Calls Try.prog 41 #[.agg #[.int .i64 m, .slice A n c], .slice (some ⟨ga, 0, none⟩) la ca, .slice (some ⟨gb, 0, none⟩) lb cb] w (GivesB w (joinI m xs za zb) (okB m xs (za ++ zb))) := by
  have HX := Lib.hid hnx
  have HA := Lib.hid ha
  have HB := Lib.hid hb
  clear hnx ha hb
  obtain ⟨i0, hi, hz0, hz1, hz2⟩ := info_parts infoInt
  have hb0 : Past w (w.alloc (.cells #[.int .i64 m, .slice A n c] 30)) := (Past.refl _).alloc _
  go_enter Try.func41, Try.ntmps41
  obtain ⟨W, hW⟩ : ∃ W, W = (w.alloc (.cells #[.int .i64 m, .slice A n c] 30)).alloc (.cells #[] 3) := ⟨_, rfl⟩
  have hb00 : Past (w.alloc (.cells #[.int .i64 m, .slice A n c] 30)) W := by rw [hW]; exact (Past.refl _).alloc _
  have hv0 : W.ownsRow (w.heap.size + 1) 3 1 (.slice (some ⟨w.heap.size + 1, 0, none⟩) 0 0) 0 [] := by
    rw [hW]
    refine ⟨rfl, .inr ⟨w.heap.size + 1, 0, #[], rfl, Nat.le_refl _, ?_, Nat.le_refl _, by unfold maxLen; omega, rfl, rfl⟩⟩
    have := heap_alloc_new (w.alloc (.cells #[.int .i64 m, .slice A n c] 30)) (.cells #[] 3)
    simpa using this
  have hb0W := hb0.trans hb00
  have hzaW := hza.below hb0W
  have HC := Lib.hid (ints_cells (hza.below hb0W))
  have hWs : w.heap.size + 1 ≤ W.heap.size := by rw [hW]; simp
  clear hzaW hza
  go_wp2_with (first
    | (at_builtin; refine wpList_append_own _ rfl _ _ 26 rfl (w.heap.size + 1) 3 i0 (.int .i64 0) 1 8 Try.underlying26 hi hz0 hz1 hz2 rfl (by decide) _ _ _ rfl hown1 ⟨gb, 0, none⟩ lb cb (ints zb) rfl (by rw [ints_length, HB.out, Nat.mul_one]) HC2.out (ints_one zb) (by unfold maxLen; omega) (by omega) (by omega) ?_; intro v2 w2 hown2 hgrow2 hnil2; have hp2 := Past.grown hp1 hown1 hgrow2 (by simp); have b0 := cell_in (p := ⟨w.heap.size, 0, none⟩) (v := .int .i64 m) hp2 (by go_simp); have b1 := cell_in (p := ⟨w.heap.size, 1, none⟩) (v := .slice A n c) hp2 (by go_simp))
    | (at_builtin; rw [← hW]; refine wpList_append_own _ rfl _ _ 26 rfl (w.heap.size + 1) 3 i0 (.int .i64 0) 1 8 Try.underlying26 hi hz0 hz1 hz2 rfl (by decide) _ _ _ rfl hv0 ⟨ga, 0, none⟩ la ca (ints za) rfl (by rw [ints_length, HA.out, Nat.mul_one]) HC.out (ints_one za) (by unfold maxLen; omega) (by omega) (by omega) ?_; intro v1 w1 hown1 hgrow1 hnil1; have hp1 := Past.grown hb00 hv0 hgrow1 (by simp); have HC2 := Lib.hid (ints_cells ((hzb.below hb0).below hp1)); have hs1 : w.heap.size + 1 ≤ w1.heap.size := by have := hp1.size; simp at this; omega)
    | fail)
  have hv : Res w2 (w.heap.size + 1) v2 (za ++ zb) := by
    unfold Res
    rw [List.length_append, HA.out, HB.out, ints_append]
    simpa using hown2
  obtain ⟨L, hL⟩ : ∃ L, L = (za ++ zb).length := ⟨_, rfl⟩
  have hL2 : L ≤ 2097152 := by rw [hL, List.length_append, HA.out, HB.out]; omega
  obtain ⟨D, cd, rfl, hid, hod⟩ := hv.form
  rw [← hL] at hv ⊢
  have HL := Lib.hid hL
  clear hL hb00 hod hp1 HC2 HC hgrow1 hgrow2 hown1 hown2 hv0 hb0W hzb hnil1 hnil2
  refine (l1Ok_any m A n c xs _ hn HX.out ((hx.below hb0).below hp2)).mono ?_
  rintro e w3 ⟨rfl, hb3⟩
  have b0 := cell_in hb3 b0
  have b1 := cell_in hb3 b1
  have hv3 := hv.below hb3
  have hp3 := hp2.trans hb3
  cases hB : netB m xs with
  | false =>
    have HN := Lib.hid hB
    have HO : Hid (okB m xs (za ++ zb) = false) := by rw [Hid, okB, HN.out]; rfl
    clear hB
    go_wp2
    go_ret2
    rw [HO.out]
    exact ⟨_, rfl, by simp only [joinI, HO.out, Bool.false_eq_true, if_false]; exact Res.nil _ _, hb0.trans hp3⟩
  | true =>
    have HN := Lib.hid hB
    clear hB
    go_wp2_with fail
    refine (l2Ok_wide m A D n c L cd xs (za ++ zb) _ hn hL2 HX.out HL.out.symm ((hx.below hb0).below hp3) (hid.below hb3)).mono ?_
    rintro e w4 ⟨rfl, hb4⟩
    have hv4 := hv3.below hb4
    have hp4 := hp3.trans hb4
    cases hC : walkB xs (za ++ zb) with
    | false =>
      have HC := Lib.hid hC
      have HO : Hid (okB m xs (za ++ zb) = false) := by rw [Hid, okB, HN.out, HC.out]; rfl
      clear hC
      go_wp2
      go_ret2
      rw [HO.out]
      exact ⟨_, rfl, by simp only [joinI, HO.out, Bool.false_eq_true, if_false]; exact Res.nil _ _, hb0.trans hp4⟩
    | true =>
      have HC := Lib.hid hC
      have HO : Hid (okB m xs (za ++ zb) = true) := by rw [Hid, okB, HN.out, HC.out]; rfl
      clear hC
      go_wp2
      go_ret2
      rw [HO.out]
      exact ⟨_, rfl, by simp only [joinI, HO.out, if_true]; exact hv4.lower (by omega), hb0.trans hp4⟩

end Go.Proofs.Ytokljfeoignbcaa
