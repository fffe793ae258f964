/-
  The stair of steps: spec.StairOf, impl.StairOf.
-/
import Derived.Test.YthopenknfadciaaTidyS
namespace Go.Proofs.Ythopenknfadciaa
open Go.Shelf Go.RowKit Go.Lib Go.Sort

def allOk (xs : List StepD) : Bool := xs.all stOk
theorem allOk_iff (xs : List StepD) : allOk xs = true ↔ ∀ s ∈ xs, stOk s = true := by simp [allOk]
theorem allOk_bad {xs : List StepD} {k : Nat} {a : StepD} (h : xs[k]? = some a) (hn : stOk a = false) : allOk xs = false := by
  rw [Bool.eq_false_iff]
  intro h'
  rw [(allOk_iff xs).1 h' a (List.mem_of_getElem? h)] at hn
  cases hn
/-- The stair of steps, if it is none too long. -/
def ofB (xs : List StepD) : Bool := allOk xs && decide ((tidy xs).length ≤ 12)
def ofL (xs : List StepD) : List StepD := if ofB xs then tidy xs else []
theorem ofL_len (xs : List StepD) : (ofL xs).length ≤ 1048576 := by
  unfold ofL
  split
  · have := tidy_len xs; omega
  · simp
theorem tidy_stair {xs : List StepD} (h : ∀ s ∈ xs, stOk s = true) : stairB (tidy xs) = decide ((tidy xs).length ≤ 12) := by
  by_cases hl : (tidy xs).length ≤ 12
  · rw [stairB_of hl (fun s hs => tidy_ok h hs) (front_up xs 200)]; simp [hl]
  · rw [stairB_long (by omega)]; simp [hl]
def OkSt (xs : List StepD) (k : Nat) : Prop := ∀ j a, j < k → xs[j]? = some a → stOk a = true
theorem OkSt.next {xs : List StepD} {k : Nat} {a : StepD} (h : OkSt xs k) (ha : xs[k]? = some a) (ho : stOk a = true) : OkSt xs (k + 1) := fun j b hj hb => by
  rcases Nat.lt_or_ge j k with hlt | hge
  · exact h j b hlt hb
  · obtain rfl : j = k := by omega
    rw [ha] at hb
    injection hb with hb
    subst hb
    exact ho
theorem OkSt.all {xs : List StepD} (h : OkSt xs xs.length) : ∀ s ∈ xs, stOk s = true := fun s hs => by
  obtain ⟨j, hj, rfl⟩ := List.getElem_of_mem hs
  exact h j _ hj (List.getElem?_eq_getElem hj)

set_option maxRecDepth 100000 in
set_option maxHeartbeats 1000000 in
theorem specStairOf_any (A : Option Addr) (n c : Nat) (xs : List StepD) (w : World) (hn : n ≤ 2097152) (hl : xs.length = n) (hx : StepsAt w A xs) :
    Calls Try.prog 22 #[.slice A n c] w (GivesStepB w (ofL xs) (ofB xs)) := by
  have HX := Lib.hid hl
  clear hl
  go_enter Try.func22, Try.ntmps22
  go_wp2
  go_loopw [4] (fun i wr => ∃ k : Nat, k ≤ n ∧ i = .int .i64 k ∧ Past w wr ∧ OkSt xs k) (fun i _ => n - (intOf i).toNat)
  case atStart => exact ⟨0, by omega, rfl, Past.refl _, fun j a h => absurd h (by omega)⟩
  case round =>
    obtain ⟨k, hk, rfl, hb, hok⟩ := hrel
    have hxr := hx.below hb
    by_cases hlt : k < n
    · obtain ⟨⟨x0, x1⟩, ha⟩ : ∃ a, xs[k]? = some a := ⟨_, List.getElem?_eq_getElem (by have := HX.out; omega)⟩
      obtain ⟨g, o, rfl, c0, c1⟩ := hxr k _ ha
      have HA := Lib.hid ha
      clear ha
      have i0 : (0 : Int) ≤ (k : Int) := by omega
      have i1 : (k : Int) < (n : Int) := by omega
      cases hB : stOk ⟨x0, x1⟩ with
      | false =>
        have HNO := Lib.hid (allOk_bad HA.out hB)
        have HB := Lib.hid hB
        clear hB
        cases h1 : inB x0 0 199 with
        | false =>
          have e1 : (!inB x0 0 199) = true := by simp [h1]
          have H1 := Lib.hid h1
          clear h1
          go_wp2_with fail
          go_quiet ((go_at_call 46; exact Calls.quiet_of_same ((l1In_any _ _ _ _).mono fun _ _ h => ⟨h.1, h.2.symm⟩)))
          go_wp2
          go_ret2
          rw [ofL, ofB, HNO.out]
          exact ⟨_, rfl, ResStep.nil _ _, hb.drewN _⟩
        | true =>
          have h2 : inB x1 x0 199 = false := by have := HB.out; rw [in_st] at this; simpa [h1] using this
          have e1 : (!inB x0 0 199) = false := by simp [h1]
          have e2 : (!inB x1 x0 199) = true := by simp [h2]
          have H1 := Lib.hid h1
          have H2 := Lib.hid h2
          clear h1 h2
          go_wp2_with fail
          go_quiet ((go_at_call 46; exact Calls.quiet_of_same ((l1In_any _ _ _ _).mono fun _ _ h => ⟨h.1, h.2.symm⟩)))
          go_wp2
          go_ret2
          rw [ofL, ofB, HNO.out]
          exact ⟨_, rfl, ResStep.nil _ _, hb.drewN _⟩
      | true =>
        have h12 : inB x0 0 199 = true ∧ inB x1 x0 199 = true := by rw [in_st] at hB; simpa using hB
        have e1 : (!inB x0 0 199) = false := by simp [h12.1]
        have e2 : (!inB x1 x0 199) = false := by simp [h12.2]
        have HB := Lib.hid hB
        clear hB h12
        go_wp2_with fail
        go_quiet ((go_at_call 46; exact Calls.quiet_of_same ((l1In_any _ _ _ _).mono fun _ _ h => ⟨h.1, h.2.symm⟩)))
        go_wp2
        go_roundw
        case rel => exact ⟨k + 1, by omega, by go_num, hb.drewN _, hok.next HA.out HB.out⟩
        case measure => simp [intOf]; omega
    · obtain rfl : n = k := by omega
      have hall : ∀ s ∈ xs, stOk s = true := OkSt.all (by rw [HX.out]; exact hok)
      have HAL := Lib.hid hall
      clear hall hok
      go_wp2_with fail
      refine (l5Tidy_any A n c xs _ (by omega) HX.out hxr).mono ?_
      rintro e w1 ⟨v1, rfl, hv1, hb1⟩
      rw [tidyTo_200 HAL.out] at hv1
      obtain ⟨A1, c1, rfl, hx1, _⟩ := hv1.form
      obtain ⟨D, hD⟩ : ∃ D, D = (tidy xs).length := ⟨_, rfl⟩
      have hDl := tidy_len xs
      rw [← hD] at hv1 hDl ⊢
      have HD := Lib.hid hD
      clear hD
      go_wp2_with fail
      refine (l5Ok_any A1 D c1 (tidy xs) _ (by omega) HD.out.symm hx1).mono ?_
      rintro e w2 ⟨rfl, hb2⟩
      rw [tidy_stair HAL.out, ← HD.out]
      have hbb := hb.trans (Past.trans hb1 hb2)
      by_cases h12 : D ≤ 12
      · have hd : decide (D ≤ 12) = true := by simpa using h12
        have HOB : Hid (ofB xs = true) := by rw [Hid, ofB, (allOk_iff xs).2 HAL.out, ← HD.out, hd]; rfl
        rw [hd]
        clear hd
        go_wp2
        go_ret2
        rw [ofL, HOB.out]
        exact ⟨_, rfl, (hv1.below hb2).lower hb.size, hbb⟩
      · have hd : decide (D ≤ 12) = false := by simpa using h12
        have HOB : Hid (ofB xs = false) := by rw [Hid, ofB, (allOk_iff xs).2 HAL.out, ← HD.out, hd]; rfl
        rw [hd]
        clear hd
        go_wp2
        go_ret2
        rw [ofL, HOB.out]
        exact ⟨_, rfl, ResStep.nil _ _, hbb⟩

set_option maxRecDepth 100000 in
set_option maxHeartbeats 1000000 in
theorem implStairOf_any (A : Option Addr) (n c : Nat) (xs : List StepD) (w : World) (hn : n ≤ 2097152) (hl : xs.length = n) (hx : StepsAt w A xs) :
    Calls Try.prog 23 #[.slice A n c] w (GivesStepB w (ofL xs) (ofB xs)) := by
  have HX := Lib.hid hl
  clear hl
  go_enter Try.func23, Try.ntmps23
  go_wp2
  go_loopw [9] (fun i wr => ∃ k : Nat, k ≤ n ∧ i = .int .i64 k ∧ Past w wr ∧ OkSt xs k) (fun i _ => n - (intOf i).toNat)
  case atStart => exact ⟨0, by omega, rfl, Past.refl _, fun j a h => absurd h (by omega)⟩
  case round =>
    obtain ⟨k, hk, rfl, hb, hok⟩ := hrel
    have hxr := hx.below hb
    by_cases hlt : k < n
    · obtain ⟨⟨x0, x1⟩, ha⟩ : ∃ a, xs[k]? = some a := ⟨_, List.getElem?_eq_getElem (by have := HX.out; omega)⟩
      obtain ⟨g, o, rfl, c0, c1⟩ := hxr k _ ha
      have HA := Lib.hid ha
      clear ha
      have i1 : (k : Int) < (n : Int) := by omega
      have hb1 : Past wr (wr.alloc (.cells #[.int .i64 x0, .int .i64 x1] 42)) := (Past.refl _).alloc _
      go_wp2_with fail
      refine (stepOk_any ⟨x0, x1⟩ _).mono ?_
      rintro e w1 ⟨rfl, hb2⟩
      have hb3 := hb.trans (hb1.trans hb2)
      cases hB : stOk ⟨x0, x1⟩ with
      | false =>
        have HNO := Lib.hid (allOk_bad HA.out hB)
        clear hB
        go_wp2
        go_ret2
        rw [ofL, ofB, HNO.out]
        exact ⟨_, rfl, ResStep.nil _ _, hb3⟩
      | true =>
        have HB := Lib.hid hB
        clear hB
        go_wp2
        go_roundw
        case rel => exact ⟨k + 1, by omega, by go_num, hb3, hok.next HA.out HB.out⟩
        case measure => simp [intOf]; omega
    · obtain rfl : n = k := by omega
      have hall : ∀ s ∈ xs, stOk s = true := OkSt.all (by rw [HX.out]; exact hok)
      have HAL := Lib.hid hall
      clear hall hok
      go_wp2_with fail
      refine (implstairOf_any A n c xs _ (by omega) HX.out hxr HAL.out).mono ?_
      rintro e w1 ⟨v1, rfl, hv1, hb1⟩
      obtain ⟨A1, c1, rfl, hx1, _⟩ := hv1.form
      obtain ⟨D, hD⟩ : ∃ D, D = (tidy xs).length := ⟨_, rfl⟩
      have hDl := tidy_len xs
      rw [← hD] at hv1 hDl ⊢
      have HD := Lib.hid hD
      clear hD
      have hbb := hb.trans hb1
      by_cases h12 : D ≤ 12
      · have h12' : ¬ (12 : Int) < (D : Int) := by omega
        have HOB : Hid (ofB xs = true) := by rw [Hid, ofB, (allOk_iff xs).2 HAL.out, ← HD.out]; simpa using h12
        go_wp2
        go_ret2
        rw [ofL, HOB.out]
        exact ⟨_, rfl, hv1.lower hb.size, hbb⟩
      · have h12' : (12 : Int) < (D : Int) := by omega
        have HOB : Hid (ofB xs = false) := by rw [Hid, ofB, (allOk_iff xs).2 HAL.out, ← HD.out]; simpa using h12
        go_wp2
        go_ret2
        rw [ofL, HOB.out]
        exact ⟨_, rfl, ResStep.nil _ _, hbb⟩

theorem specStairOf_ex (A : Option Addr) (n c : Nat) (xs : List StepD) (w : World) (hn : n ≤ 1048576) (hl : xs.length = n) (hx : StepsAt w A xs) :
    Calls Try.prog 22 #[.slice A n c] w (GivesStepB w (ofL xs) (ofB xs)) := specStairOf_any A n c xs w (by omega) hl hx
theorem implStairOf_ex (A : Option Addr) (n c : Nat) (xs : List StepD) (w : World) (hn : n ≤ 1048576) (hl : xs.length = n) (hx : StepsAt w A xs) :
    Calls Try.prog 23 #[.slice A n c] w (GivesStepB w (ofL xs) (ofB xs)) := implStairOf_any A n c xs w (by omega) hl hx

end Go.Proofs.Ythopenknfadciaa
