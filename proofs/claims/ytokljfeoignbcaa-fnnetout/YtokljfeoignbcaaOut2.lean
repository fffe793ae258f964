/-
  The arcs that begin at a node: spec.NetOut, impl.NetOut.
-/
import Derived.Test.YtokljfeoignbcaaOut
namespace Go.Proofs.Ytokljfeoignbcaa
open Go.RowKit

def outI (m : Int) (xs : List ArcD) (node : Int) : List Int := if netB m xs then outTo xs node xs.length else []

theorem outI_len (m : Int) (xs : List ArcD) (node : Int) : (outI m xs node).length ≤ 1048576 := by
  unfold outI
  split
  · rename_i h
    have := outTo_len xs node xs.length
    obtain ⟨_, h1, _⟩ := (netB_iff _ _).1 h
    omega
  · simp

set_option maxHeartbeats 1000000 in
theorem implNetOut_any (m node : Int) (A : Option Addr) (n c : Nat) (xs : List ArcD) (w : World) (hn : n ≤ 1048576) (hnx : xs.length = n) (hx : ArcsAt w A xs) :
    Calls Try.prog 44 #[.agg #[.int .i64 m, .slice A n c], .int .i64 node] w (Gives w (outI m xs node)) := by
  have HX := Lib.hid hnx
  clear hnx
  have hb0 : Past w (w.alloc (.cells #[.int .i64 m, .slice A n c] 30)) := (Past.refl _).alloc _
  go_enter Try.func44, Try.ntmps44
  go_wp2_with fail
  refine (implNetOk_any m A n c xs _ hn HX.out (hx.below hb0)).mono ?_
  rintro e w1 ⟨rfl, hb1⟩
  have b0 := cell_in (p := ⟨w.heap.size, 0, none⟩) (v := .int .i64 m) hb1 (by go_simp)
  have b1 := cell_in (p := ⟨w.heap.size, 1, none⟩) (v := .slice A n c) hb1 (by go_simp)
  cases hB : netB m xs with
  | false =>
    have HB := Lib.hid hB
    clear hB
    go_wp2
    go_ret
    exact ⟨_, rfl, by simp only [outI, HB.out, Bool.false_eq_true, if_false]; exact Res.nil _ _, hb0.trans hb1⟩
  | true =>
    have HB := Lib.hid hB
    clear hB
    go_wp2_with fail
    refine (arcsFrom_any m node A n c _).mono ?_
    rintro e w2 ⟨rfl, rfl⟩
    have hb2 : Past w1 ((w1.alloc (.cells #[.int .i64 m, .slice A n c] 30)).alloc (.cells #[.int .i64 node] 3)) := ((Past.refl _).alloc _).alloc _
    go_wp2_with fail
    refine (collectArcs_any w1.heap.size (w1.heap.size + 1) m node A n c xs HX.out hn _ (by go_simp) (by go_simp) (by go_simp) (((hx.below hb0).below hb1).below hb2)).mono ?_
    rintro e w3 ⟨v, rfl, hv, hb3⟩
    have hb03 := hb0.trans (Past.trans hb1 (Past.trans hb2 hb3))
    have hs := (hb0.trans (Past.trans hb1 hb2)).size
    go_wp2
    go_ret
    exact ⟨_, rfl, by rw [outI, if_pos HB.out, HX.out]; exact hv.lower hs, hb03⟩

set_option maxHeartbeats 2000000 in
theorem specNetOut_any (m node : Int) (A : Option Addr) (n c : Nat) (xs : List ArcD) (w : World) (hn : n ≤ 1048576) (hnx : xs.length = n) (hx : ArcsAt w A xs) :
    Calls Try.prog 45 #[.agg #[.int .i64 m, .slice A n c], .int .i64 node] w (Gives w (outI m xs node)) := by
  have HX := Lib.hid hnx
  clear hnx
  obtain ⟨i0, hi, hz0, hz1, hz2⟩ := info_parts infoInt
  have hb0 : Past w (w.alloc (.cells #[.int .i64 m, .slice A n c] 30)) := (Past.refl _).alloc _
  go_enter Try.func45, Try.ntmps45
  go_wp2
  have hb00 : Past (w.alloc (.cells #[.int .i64 m, .slice A n c] 30)) ((w.alloc (.cells #[.int .i64 m, .slice A n c] 30)).alloc (.cells #[] 3)) := (Past.refl _).alloc _
  have hres0 : Res ((w.alloc (.cells #[.int .i64 m, .slice A n c] 30)).alloc (.cells #[] 3)) (w.heap.size + 1) (.slice (some ⟨w.heap.size + 1, 0, none⟩) 0 0) [] := by
    refine ⟨rfl, .inr ⟨w.heap.size + 1, 0, #[], rfl, Nat.le_refl _, ?_, Nat.le_refl _, by unfold maxLen; omega, rfl, rfl⟩⟩
    have := heap_alloc_new (w.alloc (.cells #[.int .i64 m, .slice A n c] 30)) (.cells #[] 3)
    simpa using this
  go_loopw [5, 6] (fun v q wr => ∃ k : Nat, k ≤ n ∧ q = .int .i64 k ∧ (netB m xs = false → k = 0) ∧ Res wr (w.heap.size + 1) v (outTo xs node k) ∧ Past (w.alloc (.cells #[.int .i64 m, .slice A n c] 30)) wr) (fun _ q _ => n - (intOf q).toNat)
  case atStart => exact ⟨0, by omega, rfl, fun _ => rfl, hres0, hb00⟩
  case round =>
    obtain ⟨k, hk, rfl, hkz, hv, hb⟩ := hrel
    have HZ := Lib.hid hkz
    clear hkz hres0 hb00
    have b0 := cell_in (p := ⟨w.heap.size, 0, none⟩) (v := .int .i64 m) hb (by go_simp)
    have b1 := cell_in (p := ⟨w.heap.size, 1, none⟩) (v := .slice A n c) hb (by go_simp)
    have hx3 := (hx.below hb0).below hb
    by_cases hlt : k < n
    · go_wp2_with fail
      refine (l1Ok_any m A n c xs _ hn HX.out hx3).mono ?_
      rintro e w1 ⟨rfl, hb1⟩
      have b0 := cell_in hb1 b0
      have b1 := cell_in hb1 b1
      have hv1 := hv.below hb1
      have hbb := hb.trans hb1
      cases hB : netB m xs with
      | false =>
        have HB := Lib.hid hB
        clear hB
        go_wp2
        go_ret
        have hk0 := HZ.out HB.out
        subst hk0
        exact ⟨_, rfl, by simp only [outI, HB.out, Bool.false_eq_true, if_false]; exact hv1.lower (by omega), hb0.trans hbb⟩
      | true =>
        have HB := Lib.hid hB
        clear hB
        obtain ⟨⟨f, t, c', l', d⟩, ha⟩ : ∃ a, xs[k]? = some a := ⟨_, List.getElem?_eq_getElem (by have := HX.out; omega)⟩
        obtain ⟨g, o, rfl, c0, c1, c2, c3, c4⟩ := (hx3.below hb1) k _ ha
        have HA := Lib.hid ha
        clear ha c1 c2 c3 c4
        have k0 : (0 : Int) ≤ (k : Int) := by omega
        have k1 : (k : Int) < (n : Int) := by omega
        cases hC : (f == node) with
        | true =>
          have HT := Lib.hid (outTo_hit HA.out hC)
          have hlen := outTo_len xs node k
          have hbs := hbb.size
          simp only [World.size_alloc] at hbs
          unfold Res at hv1
          obtain ⟨D, hD⟩ : ∃ D, D = (outTo xs node k).length := ⟨_, rfl⟩
          rw [← hD] at hv1 hlen
          have HDD := Lib.hid hD
          clear hD hv
          go_wp2_with (first | (at_builtin; refine wpList_append_own _ rfl _ _ 26 rfl (w.heap.size + 1) 3 i0 (.int .i64 0) 1 8 Try.underlying26 hi hz0 hz1 hz2 rfl (by decide) _ _ _ rfl (hv1.alloc _) ⟨w1.heap.size, 0, none⟩ 1 1 [.int .i64 (k : Int)] rfl rfl (cell_one_new _ _ _) (one_cell _) (by unfold maxLen; omega) (by omega) (by simp; omega) ?_; intro v' w3 hown' hgrow3 hnil3))
          go_roundw
          case rel => exact ⟨k + 1, by omega, by go_num, (fun h => by rw [HB.out] at h; cases h), by rw [HT.out]; exact Res.push (by rw [← HDD.out]; exact hown'), Past.grown (hbb.alloc _) (hv1.alloc _) hgrow3 (by simp)⟩
          case measure => simp [intOf]; omega
        | false =>
          have HT := Lib.hid (outTo_miss HA.out hC)
          go_wp2
          go_roundw
          case rel => exact ⟨k + 1, by omega, by go_num, (fun h => by rw [HB.out] at h; cases h), by rw [HT.out]; exact hv1, hbb⟩
          case measure => simp [intOf]; omega
    · obtain rfl : n = k := by omega
      go_wp2
      go_ret
      refine ⟨_, rfl, ?_, hb0.trans hb⟩
      unfold outI
      split
      · rw [HX.out]; exact hv.lower (by omega)
      · rename_i hN
        have hk0 := HZ.out (by simpa using hN)
        rw [hk0] at hv
        exact hv.lower (by omega)

end Go.Proofs.Ytokljfeoignbcaa
