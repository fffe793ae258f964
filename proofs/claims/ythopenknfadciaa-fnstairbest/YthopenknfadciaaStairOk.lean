/-
  When steps are a stair: spec.l5Ok, spec.StairOk, impl's stair.ok, impl.StairOk all answer by 'stairB'.
-/
import Derived.Test.YthopenknfadciaaIn
import Derived.Test.YthopenknfadciaaPStair
namespace Go.Proofs.Ythopenknfadciaa
open Go.RowKit

theorem stepOk_any (a : StepD) (w : World) :
    Calls Try.prog 48 #[.agg #[.int .i64 a.x0, .int .i64 a.x1]] w fun e w' => e = .returned (.bool (stOk a)) ∧ Below w.heap.size w w' := by
  obtain ⟨x0, x1⟩ := a
  have hb : Past w (w.alloc (.cells #[.int .i64 x0, .int .i64 x1] 42)) := (Past.refl _).alloc _
  by_cases h1 : 0 ≤ x0
  · by_cases h2 : x0 ≤ x1
    · go_enter Try.func48, Try.ntmps48
      go_wp2
      go_ret
      exact ⟨ret_bool (by simp [stOk, h1, h2]), hb⟩
    · go_enter Try.func48, Try.ntmps48
      go_wp2
      go_ret
      exact ⟨ret_bool (by simp [stOk]; omega), hb⟩
  · go_enter Try.func48, Try.ntmps48
    go_wp2
    go_ret
    exact ⟨ret_bool (by simp [stOk]; omega), hb⟩

theorem in_st {a : StepD} : stOk a = (inB a.x0 0 199 && inB a.x1 a.x0 199) := by
  rw [Bool.eq_iff_iff, stOk_iff, Bool.and_eq_true, inB_iff, inB_iff]
  omega

set_option maxRecDepth 100000 in
set_option maxHeartbeats 1000000 in
theorem l5Ok_any (A : Option Addr) (n c : Nat) (xs : List StepD) (w : World) (hn : n ≤ 1048576) (hl : xs.length = n) (hx : StepsAt w A xs) :
    Calls Try.prog 40 #[.slice A n c] w fun e w' => e = .returned (.bool (stairB xs)) ∧ Below w.heap.size w w' := by
  have HX := Lib.hid hl
  clear hl
  go_enter Try.func40, Try.ntmps40
  go_wp2
  go_loopw [3] (fun i wr => ∃ k : Nat, k ≤ n ∧ i = .int .i64 k ∧ Past w wr ∧ StTo xs k) (fun i _ => n - (intOf i).toNat)
  case atStart => exact ⟨0, by omega, rfl, Past.refl _, fun j h => absurd h (by omega)⟩
  case round =>
    obtain ⟨k, hk, rfl, hb, hok⟩ := hrel
    by_cases hlt : k < n
    · obtain ⟨⟨x0, x1⟩, ha⟩ : ∃ a, xs[k]? = some a := ⟨_, List.getElem?_eq_getElem (by have := HX.out; omega)⟩
      obtain ⟨g, o, rfl, c0, c1⟩ := (hx.below hb) k _ ha
      have HA := Lib.hid ha
      clear ha
      have i0 : (0 : Int) ≤ (k : Int) := by omega
      have i1 : (k : Int) < (n : Int) := by omega
      cases hB : stOk ⟨x0, x1⟩ with
      | false =>
        have HB := Lib.hid hB
        clear hB
        have hno := stairB_bad (k := k) (by have := HX.out; omega) (stB_no HA.out HB.out)
        have HNO := Lib.hid hno
        clear hno
        cases h1 : inB x0 0 199 with
        | false =>
          have e1 : (!inB x0 0 199) = true := by simp [h1]
          have H1 := Lib.hid h1
          clear h1
          go_wp2_with fail
          go_quiet ((go_at_call 46; exact Calls.quiet_of_same ((l1In_any _ _ _ _).mono fun _ _ h => ⟨h.1, h.2.symm⟩)))
          go_wp2
          go_ret
          exact ⟨ret_bool HNO.out.symm, hb.drewN _⟩
        | true =>
          have h2 : inB x1 x0 199 = false := by have := HB.out; rw [in_st] at this; simpa [h1] using this
          have e1 : (!inB x0 0 199) = false := by simp [h1]
          have e2 : (!inB x1 x0 199) = true := by simp [h2]
          have H1 := Lib.hid h1
          have H2 := Lib.hid h2
          clear h1 h2
          go_wp2_with fail
          go_quiet ((go_at_call 46; exact Calls.quiet_of_same ((l1In_any _ _ _ _).mono fun _ _ h => ⟨h.1, h.2.symm⟩)))
          go_wp2
          go_ret
          exact ⟨ret_bool HNO.out.symm, hb.drewN _⟩
      | true =>
        have h12 : inB x0 0 199 = true ∧ inB x1 x0 199 = true := by rw [in_st] at hB; simpa using hB
        have e1 : (!inB x0 0 199) = false := by simp [h12.1]
        have e2 : (!inB x1 x0 199) = false := by simp [h12.2]
        have HB := Lib.hid hB
        clear hB h12
        by_cases hk0 : k = 0
        · have k1 : decide (0 < k) = false := by simp; omega
          have HK := Lib.hid hk0
          clear hk0
          go_wp2_with fail
          go_quiet ((go_at_call 46; exact Calls.quiet_of_same ((l1In_any _ _ _ _).mono fun _ _ h => ⟨h.1, h.2.symm⟩)))
          go_wp2
          go_roundw
          case rel => exact ⟨k + 1, by omega, by go_num, hb.drewN _, hok.next (by have e := HK.out; subst e; rw [stB_first HA.out]; exact HB.out)⟩
          case measure => simp [intOf]; omega
        · obtain ⟨⟨y0, y1⟩, ha'⟩ : ∃ a, xs[k - 1]? = some a := ⟨_, List.getElem?_eq_getElem (by have := HX.out; omega)⟩
          obtain ⟨g3, o3, eg, d0, d1⟩ := (hx.below hb) (k - 1) _ ha'
          injection eg with eg
          injection eg with eg1 eg2
          subst eg1 eg2
          have HS := Lib.hid (stB_next hk0 HA.out ha')
          clear ha'
          have k1 : decide (0 < k) = true := by simp; omega
          have k2 : IntKind.i64.wrap ((k : Int) - 1) = (k : Int) - 1 := IntWalk.i64_in _ (by omega)
          have k3 : (0 : Int) ≤ (k : Int) - 1 := by omega
          have k4 : (k : Int) - 1 < (n : Int) := by omega
          have k5 : ((k : Int) - 1).toNat = k - 1 := by omega
          by_cases u0 : x0 ≤ y0
          · have q0 : decide (x0 ≤ y0) = true := by simpa using u0
            have HN := Lib.hid (stairB_bad (xs := xs) (k := k) (by have := HX.out; omega) (by rw [HS.out, HB.out]; simp only [Bool.true_and, upB]; simp; omega))
            clear HS
            go_wp2_with fail
            go_quiet ((go_at_call 46; exact Calls.quiet_of_same ((l1In_any _ _ _ _).mono fun _ _ h => ⟨h.1, h.2.symm⟩)))
            go_wp2
            go_ret
            exact ⟨ret_bool HN.out.symm, hb.drewN _⟩
          · have q0 : decide (x0 ≤ y0) = false := by simpa using u0
            by_cases u1 : x1 ≤ y1
            · have q1 : decide (x1 ≤ y1) = true := by simpa using u1
              have HN := Lib.hid (stairB_bad (xs := xs) (k := k) (by have := HX.out; omega) (by rw [HS.out, HB.out]; simp only [Bool.true_and, upB]; simp; omega))
              clear HS
              go_wp2_with fail
              go_quiet ((go_at_call 46; exact Calls.quiet_of_same ((l1In_any _ _ _ _).mono fun _ _ h => ⟨h.1, h.2.symm⟩)))
              go_wp2
              go_ret
              exact ⟨ret_bool HN.out.symm, hb.drewN _⟩
            · have q1 : decide (x1 ≤ y1) = false := by simpa using u1
              have HN := Lib.hid (hok.next (by rw [HS.out, HB.out]; simp only [Bool.true_and, upB]; simp; omega))
              clear HS
              go_wp2_with fail
              go_quiet ((go_at_call 46; exact Calls.quiet_of_same ((l1In_any _ _ _ _).mono fun _ _ h => ⟨h.1, h.2.symm⟩)))
              go_wp2
              go_roundw
              case rel => exact ⟨k + 1, by omega, by go_num, hb.drewN _, HN.out⟩
              case measure => simp [intOf]; omega
    · obtain rfl : n = k := by omega
      go_wp2
      go_ret
      refine ⟨ret_bool ?_, hb⟩
      have hy' := HX.out
      subst hy'
      rw [hok.end_]
      simp; omega

set_option maxRecDepth 100000 in
set_option maxHeartbeats 1000000 in
theorem stairOk_any (A : Option Addr) (n c : Nat) (xs : List StepD) (w : World) (hn : n ≤ 1048576) (hl : xs.length = n) (hx : StepsAt w A xs) :
    Calls Try.prog 42 #[.slice A n c] w fun e w' => e = .returned (.bool (stairB xs)) ∧ Below w.heap.size w w' := by
  have HX := Lib.hid hl
  clear hl
  by_cases h12 : 12 < n
  · have h12' : (12 : Int) < (n : Int) := by omega
    go_enter Try.func42, Try.ntmps42
    go_wp2
    go_ret
    exact ⟨ret_bool (stairB_long (by rw [HX.out]; exact h12)).symm, Below.refl _ _⟩
  have h12' : ¬ (12 : Int) < (n : Int) := by omega
  go_enter Try.func42, Try.ntmps42
  go_wp2
  go_loopw [10] (fun i wr => ∃ k : Nat, k ≤ n ∧ i = .int .i64 k ∧ Past w wr ∧ StTo xs k) (fun i _ => n - (intOf i).toNat)
  case atStart => exact ⟨0, by omega, rfl, Past.refl _, fun j h => absurd h (by omega)⟩
  case round =>
    obtain ⟨k, hk, rfl, hb, hok⟩ := hrel
    by_cases hlt : k < n
    · obtain ⟨⟨x0, x1⟩, ha⟩ : ∃ a, xs[k]? = some a := ⟨_, List.getElem?_eq_getElem (by have := HX.out; omega)⟩
      obtain ⟨g, o, rfl, c0, c1⟩ := (hx.below hb) k _ ha
      have HA := Lib.hid ha
      clear ha
      have i0 : (0 : Int) ≤ (k : Int) := by omega
      have i1 : (k : Int) < (n : Int) := by omega
      have hb1 : Past wr (wr.alloc (.cells #[.int .i64 x0, .int .i64 x1] 42)) := (Past.refl _).alloc _
      go_wp2_with fail
      refine (stepOk_any ⟨x0, x1⟩ _).mono ?_
      rintro e w1 ⟨rfl, hb2⟩
      have b0 := cell_in (p := ⟨wr.heap.size, 0, none⟩) (v := .int .i64 x0) hb2 (by go_simp)
      have b1 := cell_in (p := ⟨wr.heap.size, 1, none⟩) (v := .int .i64 x1) hb2 (by go_simp)
      have hb3 := hb.trans (hb1.trans hb2)
      cases hB : stOk ⟨x0, x1⟩ with
      | false =>
        have HNO := Lib.hid (stairB_bad (k := k) (by have := HX.out; omega) (stB_no HA.out hB))
        clear hB
        go_wp2
        go_ret
        exact ⟨ret_bool HNO.out.symm, hb3⟩
      | true =>
        have HB := Lib.hid hB
        clear hB
        by_cases hk0 : k = 0
        · have k1 : decide (0 < k) = false := by simp; omega
          have HK := Lib.hid hk0
          clear hk0
          go_wp2_with fail
          go_quiet (fail)
          go_wp2
          go_roundw
          case rel => exact ⟨k + 1, by omega, by go_num, hb3.drewN _, hok.next (by have e := HK.out; subst e; rw [stB_first HA.out]; exact HB.out)⟩
          case measure => simp [intOf]; omega
        · obtain ⟨⟨y0, y1⟩, ha'⟩ : ∃ a, xs[k - 1]? = some a := ⟨_, List.getElem?_eq_getElem (by have := HX.out; omega)⟩
          obtain ⟨g3, o3, eg, d0, d1⟩ := (hx.below hb3) (k - 1) _ ha'
          injection eg with eg
          injection eg with eg1 eg2
          subst eg1 eg2
          have HS := Lib.hid (stB_next hk0 HA.out ha')
          clear ha'
          have k1 : decide (0 < k) = true := by simp; omega
          have k2 : IntKind.i64.wrap ((k : Int) - 1) = (k : Int) - 1 := IntWalk.i64_in _ (by omega)
          have k3 : (0 : Int) ≤ (k : Int) - 1 := by omega
          have k4 : (k : Int) - 1 < (n : Int) := by omega
          have k5 : ((k : Int) - 1).toNat = k - 1 := by omega
          by_cases u0 : x0 ≤ y0
          · have q0 : decide (x0 ≤ y0) = true := by simpa using u0
            have HN := Lib.hid (stairB_bad (xs := xs) (k := k) (by have := HX.out; omega) (by rw [HS.out, HB.out]; simp only [Bool.true_and, upB]; simp; omega))
            clear HS
            go_wp2_with fail
            go_quiet (fail)
            go_wp2
            go_ret
            exact ⟨ret_bool HN.out.symm, hb3.drewN _⟩
          · have q0 : decide (x0 ≤ y0) = false := by simpa using u0
            by_cases u1 : x1 ≤ y1
            · have q1 : decide (x1 ≤ y1) = true := by simpa using u1
              have HN := Lib.hid (stairB_bad (xs := xs) (k := k) (by have := HX.out; omega) (by rw [HS.out, HB.out]; simp only [Bool.true_and, upB]; simp; omega))
              clear HS
              go_wp2_with fail
              go_quiet (fail)
              go_wp2
              go_ret
              exact ⟨ret_bool HN.out.symm, hb3.drewN _⟩
            · have q1 : decide (x1 ≤ y1) = false := by simpa using u1
              have HN := Lib.hid (hok.next (by rw [HS.out, HB.out]; simp only [Bool.true_and, upB]; simp; omega))
              clear HS
              go_wp2_with fail
              go_quiet (fail)
              go_wp2
              go_roundw
              case rel => exact ⟨k + 1, by omega, by go_num, hb3.drewN _, HN.out⟩
              case measure => simp [intOf]; omega
    · obtain rfl : n = k := by omega
      go_wp2
      go_ret
      refine ⟨ret_bool ?_, hb⟩
      have hy' := HX.out
      subst hy'
      rw [hok.end_]
      simp; omega

theorem implStairOk_any (A : Option Addr) (n c : Nat) (xs : List StepD) (w : World) (hn : n ≤ 1048576) (hl : xs.length = n) (hx : StepsAt w A xs) :
    Calls Try.prog 18 #[.slice A n c] w fun e w' => e = .returned (.bool (stairB xs)) ∧ Below w.heap.size w w' := by
  have HX := Lib.hid hl
  clear hl
  go_enter Try.func18, Try.ntmps18
  go_wp2_with fail
  refine (stairOk_any A n c xs _ hn HX.out hx).mono ?_
  rintro e w1 ⟨rfl, hb1⟩
  go_wp2
  go_ret
  exact ⟨rfl, hb1⟩

end Go.Proofs.Ythopenknfadciaa
