/-
  When one must go at the latest: spec.StairLast, impl.StairLast.
-/
import Derived.Test.YthopenknfadciaaStairAt
namespace Go.Proofs.Ythopenknfadciaa
open Go.Shelf Go.RowKit Go.Lib Go.Sort

set_option maxHeartbeats 1000000 in
theorem last1_says (B : Nat) (t : Int) (w : World) (hc : w.cell? ⟨B, 0, none⟩ = some (.int .i64 t)) : Says 54 #[.pointer (some ⟨B, 0, none⟩)] (fun a => decide (t < a.x1)) w := fun W a hW => by
  have hc' := cell_in hW hc
  have hz := lt_of_cell hc'
  obtain ⟨x0, x1⟩ := a
  simp only at hz
  show Calls Try.prog 54 #[.agg #[.int .i64 x0, .int .i64 x1], .pointer (some ⟨B, 0, none⟩)] W _
  go_enter Try.func54, Try.ntmps54
  go_wp2
  go_ret
  exact ⟨rfl, 0, #[.cells #[.int .i64 x0, .int .i64 x1] 42], by rw [alloc_eq_grow]; rfl⟩

set_option maxHeartbeats 1000000 in
theorem implStairLast_any (A : Option Addr) (n c : Nat) (xs : List StepD) (t : Int) (w : World) (hn : n ≤ 1048576) (hl : xs.length = n) (hx : StepsAt w A xs) :
    Calls Try.prog 31 #[.slice A n c, .int .i64 t] w fun e w' => e = .returned (.int .i64 (lastB xs t)) ∧ Below w.heap.size w w' := by
  have hb0 : Past w (w.alloc (.cells #[.int .i64 t] 3)) := (Past.refl _).alloc _
  have HX := Lib.hid hl
  clear hl
  go_enter Try.func31, Try.ntmps31
  go_wp2_with fail
  refine (implStairOk_any A n c xs _ hn HX.out (hx.below hb0)).mono ?_
  rintro e w1 ⟨rfl, hb1⟩
  have hx1 := (hx.below hb0).below hb1
  cases hs : stairB xs with
  | false =>
    have HB := Lib.hid hs
    clear hs
    go_wp2
    go_ret
    exact ⟨ret_int (by rw [lastB, HB.out]; rfl), hb0.trans hb1⟩
  | true =>
    have b0 := cell_in (p := ⟨w.heap.size, 0, none⟩) (v := .int .i64 t) hb1 (by go_simp)
    have hsplit := since_last hs t
    have hS := since_any 54 #[.pointer (some ⟨w.heap.size, 0, none⟩)] (fun a => decide (t < a.x1)) A n c xs w1 (enters_of Try.func54 (by kernel_rfl) rfl) (last1_says _ _ _ b0) hn HX.out hx1 (fun i j a b hij ha hb hp => by have := (stair_le hs hij ha hb).2; simp at *; omega)
    generalize sinceN xs (fun a => decide (t < a.x1)) = r at *
    have HV : Hid (lastB xs t = lastTo xs t xs.length) := by rw [Hid, lastB, hs]; rfl
    have HS := Lib.hid hS
    have HQ := Lib.hid hsplit
    clear hS hsplit hs
    go_wp2_with fail
    refine HS.out.mono ?_
    rintro e w2 ⟨rfl, hb2⟩
    have hx2 := hx1.below hb2
    by_cases hr : r = 0
    · have hr' : ((r : Int) == 0) = true := by simp [hr]
      have HR := Lib.hid hr
      clear hr
      go_wp2
      go_ret
      refine ⟨ret_int ?_, hb0.trans (Past.trans hb1 hb2)⟩
      rcases HQ.out with ⟨_, h⟩ | ⟨a, _, h, _⟩
      · rw [HV.out, h]
      · have := HR.out; omega
    · have hr' : ((r : Int) == 0) = false := by simp; omega
      obtain ⟨⟨x0, x1⟩, ha, h0, h1, h2⟩ := HQ.out.resolve_left (fun h => hr h.1)
      obtain ⟨g, o, rfl, c0, c1⟩ := hx2 (r - 1) _ ha
      have hrn : r ≤ n := by rw [← HX.out]; exact h1
      have H2 := Lib.hid h2
      clear ha h2 h1
      have r0 : (0 : Int) ≤ (r : Int) - 1 := by omega
      have r1 : (r : Int) - 1 < (n : Int) := by omega
      have r2 : ((r : Int) - 1).toNat = r - 1 := by omega
      go_wp2
      go_ret
      exact ⟨ret_int (by rw [HV.out, H2.out]), hb0.trans (Past.trans hb1 hb2)⟩

set_option maxHeartbeats 1000000 in
theorem specStairLast_any (A : Option Addr) (n c : Nat) (xs : List StepD) (t : Int) (w : World) (hn : n ≤ 1048576) (hl : xs.length = n) (hx : StepsAt w A xs) :
    Calls Try.prog 30 #[.slice A n c, .int .i64 t] w fun e w' => e = .returned (.int .i64 (lastB xs t)) ∧ Below w.heap.size w w' := by
  have HX := Lib.hid hl
  clear hl
  go_enter Try.func30, Try.ntmps30
  go_wp2
  go_loopw [5, 6] (fun q i wr => ∃ k : Nat, k ≤ n ∧ i = .int .i64 k ∧ q = .int .i64 (lastTo xs t k) ∧ Past w wr ∧ (stairB xs = false → k = 0)) (fun _ i _ => n - (intOf i).toNat)
  case atStart => exact ⟨0, by omega, rfl, rfl, Past.refl _, fun _ => rfl⟩
  case round =>
    obtain ⟨k, hk, rfl, rfl, hb, hz⟩ := hrel
    have HZ := Lib.hid hz
    clear hz
    have hxr := hx.below hb
    by_cases hlt : k < n
    · have i1 : (k : Int) < (n : Int) := by omega
      go_wp2_with fail
      refine (l5Ok_any A n c xs _ hn HX.out hxr).mono ?_
      rintro e w1 ⟨rfl, hb1⟩
      have hb2 := hb.trans hb1
      cases hs : stairB xs with
      | false =>
        have HB := Lib.hid hs
        clear hs
        go_wp2
        go_ret
        refine ⟨ret_int ?_, hb2⟩
        rw [lastB, HB.out, HZ.out HB.out]
        rfl
      | true =>
        have HB := Lib.hid hs
        clear hs
        obtain ⟨⟨x0, x1⟩, ha⟩ : ∃ a, xs[k]? = some a := ⟨_, List.getElem?_eq_getElem (by have := HX.out; omega)⟩
        obtain ⟨g, o, rfl, c0, c1⟩ := (hxr.below hb1) k _ ha
        by_cases ht : x1 ≤ t
        · have HV := Lib.hid (lastTo_yes ha ht)
          clear ha
          go_wp2
          go_roundw
          case rel => exact ⟨k + 1, by omega, by go_num, by rw [HV.out], hb2, fun h => by rw [HB.out] at h; cases h⟩
          case measure => simp [intOf]; omega
        · have HV := Lib.hid (lastTo_no ha (Int.not_le.1 ht))
          clear ha
          go_wp2
          go_roundw
          case rel => exact ⟨k + 1, by omega, by go_num, by rw [HV.out], hb2, fun h => by rw [HB.out] at h; cases h⟩
          case measure => simp [intOf]; omega
    · obtain rfl : n = k := by omega
      go_wp2
      go_ret
      refine ⟨ret_int ?_, hb⟩
      cases hs : stairB xs with
      | true => rw [lastB, hs, HX.out]; rfl
      | false => rw [lastB, hs, HZ.out hs]; rfl


end Go.Proofs.Ythopenknfadciaa
