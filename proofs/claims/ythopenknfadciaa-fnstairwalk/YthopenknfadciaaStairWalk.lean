/-
  Steps, each so many from a time on: spec.StairWalk, impl.StairWalk. And one step more at the end of a slice of steps.
-/
import Derived.Test.YthopenknfadciaaStairOk
import Derived.Test.YthopenknfadciaaInW
namespace Go.Proofs.Ythopenknfadciaa
open Go.RowKit

def walkOkB (long from_ every : Int) : Bool := inB long 0 199 && (inB from_ 0 199 && inB every 1 199)
/-- k steps. -/
def walkTo (long from_ every : Int) (k : Nat) : List StepD := (List.range k).map fun i : Nat => ⟨from_ + every * (i : Int), from_ + every * (i : Int) + long⟩
theorem walkTo_length (long from_ every : Int) (k : Nat) : (walkTo long from_ every k).length = k := by simp [walkTo]
theorem walkTo_next (long from_ every : Int) (k : Nat) : walkTo long from_ every (k + 1) = walkTo long from_ every k ++ [⟨from_ + every * (k : Int), from_ + every * (k : Int) + long⟩] := by simp [walkTo, List.range_succ]
/-- As many as there may be, of k at most. -/
def walkN (long from_ every : Int) : Nat → Nat → Nat
  | 0, i => i
  | k + 1, i => if from_ + every * (i : Int) + long ≤ 199 then walkN long from_ every k (i + 1) else i
def walkI (long from_ every : Int) : List StepD := if walkOkB long from_ every then walkTo long from_ every (walkN long from_ every 12 0) else []

theorem walkN_le (long from_ every : Int) : ∀ k i, walkN long from_ every k i ≤ i + k
  | 0, i => Nat.le_refl _
  | k + 1, i => by
    unfold walkN
    split
    · have := walkN_le long from_ every k (i + 1); omega
    · omega
theorem walkI_len (long from_ every : Int) : (walkI long from_ every).length ≤ 1048576 := by
  unfold walkI
  split
  · rw [walkTo_length]; have := walkN_le long from_ every 12 0; omega
  · simp
/-- Not done yet. -/
theorem walkN_on {long from_ every : Int} {k i : Nat} (h : from_ + every * (i : Int) + long ≤ 199) : walkN long from_ every (k + 1) i = walkN long from_ every k (i + 1) := by rw [walkN, if_pos h]
theorem walkN_off {long from_ every : Int} {k i : Nat} (h : ¬ from_ + every * (i : Int) + long ≤ 199) : walkN long from_ every k i = i := by
  cases k with
  | zero => rfl
  | succ k => rw [walkN, if_neg h]

theorem walk_pre {long from_ every : Int} {k : Nat} (hk : k ≤ 12) (h : walkN long from_ every 12 0 = walkN long from_ every (12 - k) k) (hs : from_ + every * (k : Int) + long ≤ 199) (hl : k < 12) : walkN long from_ every 12 0 = walkN long from_ every (12 - (k + 1)) (k + 1) := by
  rw [h, show 12 - k = (12 - (k + 1)) + 1 by omega, walkN_on hs]
theorem ResStep.len {w : World} {lo : Nat} {v : Value} {xs : List StepD} {k : Nat} (h : ResStep w lo v xs) (hl : xs.length = k) : ∃ A c, v = .slice A k c := by
  obtain ⟨A, c, rfl, _⟩ := h.form
  exact ⟨A, c, by rw [hl]⟩

def WalkInv (w : World) (lo : Nat) (long from_ every : Int) (v t : Value) (k : Nat) (wr : World) : Prop :=
  ∃ (A : Option Addr) (c : Nat) (L : Int), v = .slice A k c ∧ t = .int .i64 L ∧ L = from_ + every * (k : Int) ∧ 0 ≤ L ∧ L ≤ 398 ∧ k ≤ 12 ∧ walkN long from_ every 12 0 = walkN long from_ every (12 - k) k ∧ ResStep wr lo (.slice A k c) (walkTo long from_ every k) ∧ Past w wr

set_option maxRecDepth 100000 in
set_option maxHeartbeats 2000000 in
theorem specStairWalk_any (long from_ every : Int) (w : World) :
    Calls Try.prog 32 #[.int .i64 long, .int .i64 from_, .int .i64 every] w (GivesStep w (walkI long from_ every)) := by
  obtain ⟨i0, hi, hz0, hz1, hz2⟩ := info_parts infoStep
  cases hB : walkOkB long from_ every with
  | false =>
    have HV : Hid (walkI long from_ every = []) := by rw [Hid, walkI, hB]; rfl
    have hor : inB long 0 199 = false ∨ (inB long 0 199 = true ∧ (inB from_ 0 199 = false ∨ (inB from_ 0 199 = true ∧ inB every 1 199 = false))) := by
      cases h1 : inB long 0 199 <;> cases h2 : inB from_ 0 199 <;> simp_all [walkOkB]
    clear hB
    rcases hor with h1 | ⟨h1, h2 | ⟨h2, h3⟩⟩
    all_goals
      go_enter Try.func32, Try.ntmps32
      go_wp2_with (first | (go_at_call 46; refine (l1In_any _ _ _ _).mono ?_; rintro e w' ⟨rfl, rfl⟩))
      go_ret
      exact ⟨_, rfl, by rw [HV.out]; exact ResStep.nil _ _, (Past.refl _).alloc _⟩
  | true =>
    have hb3 : (0 ≤ long ∧ long ≤ 199) ∧ (0 ≤ from_ ∧ from_ ≤ 199) ∧ (1 ≤ every ∧ every ≤ 199) := by simpa [walkOkB, inB_iff] using hB
    have HV : Hid (walkI long from_ every = walkTo long from_ every (walkN long from_ every 12 0)) := by rw [Hid, walkI, hB]; rfl
    clear hB
    obtain ⟨⟨l0, l1⟩, ⟨f0, f1⟩, ⟨e0, e1⟩⟩ := hb3
    have h1 : inB long 0 199 = true := (inB_iff _ _ _).2 ⟨l0, l1⟩
    have h2 : inB from_ 0 199 = true := (inB_iff _ _ _).2 ⟨f0, f1⟩
    have h3 : inB every 1 199 = true := (inB_iff _ _ _).2 ⟨e0, e1⟩
    have hres0 : ResStep (w.alloc (.cells #[] 42)) w.heap.size (.slice (some ⟨w.heap.size, 0, none⟩) 0 0) [] := World.ownsRow_made w _ 0 (Nat.le_refl _) (by unfold maxLen; omega) rfl
    go_enter Try.func32, Try.ntmps32
    go_wp2_with (first | (go_at_call 46; refine (l1In_any _ _ _ _).mono ?_; rintro e w' ⟨rfl, rfl⟩))
    clear h1 h2 h3
    go_loopw [7, 8] (fun v t wr => ∃ k, WalkInv w w.heap.size long from_ every v t k wr) (fun v _ _ => 12 - lenOf v)
    case atStart => exact ⟨0, _, _, from_, rfl, rfl, by simp, f0, by omega, by omega, rfl, hres0, (Past.refl _).alloc _⟩
    case round =>
      obtain ⟨k, A, c, L, rfl, rfl, hL, hL0, hL1, hk, hw, hv, hb⟩ := hrel
      have HL := Lib.hid hL
      have HW := Lib.hid hw
      clear hL hw
      by_cases hs : L + long ≤ 199
      · by_cases h12 : k < 12
        · have h12' : (k : Int) < 12 := by omega
          have HN := Lib.hid (walk_pre hk HW.out (by rw [← HL.out]; exact hs) h12)
          have HP := Lib.hid (walkTo_next long from_ every k)
          have HK := Lib.hid (walkTo_length long from_ every k)
          have hown : wr.ownsRow w.heap.size 42 2 (.slice A k c) k (cellsStep (walkTo long from_ every k)) := by have := hv; unfold ResStep at this; rw [HK.out] at this; exact this
          have hbs := hb.size
          have hsum : IntKind.i64.wrap (L + long) = L + long := IntWalk.i64_in _ (by omega)
          have HO := Lib.hid hown
          clear hown hv
          go_wp2_with (first | (at_builtin; refine wpList_append_lies _ rfl _ _ 25 rfl w.heap.size 42 i0 _ 2 16 Try.underlying25 hi hz0 hz1 hz2 rfl (by decide) _ k _ rfl (HO.out.alloc _) ⟨wr.heap.size, 0, none⟩ 1 1 [.int .i64 L, .int .i64 (L + long)] rfl rfl (newStep wr _ _ _) (cellsStep_one [⟨L, L + long⟩]) (by omega) (by unfold maxLen; omega) (by omega) (by simp; omega) _ rfl ?_; intro gg cap w3 hown' hgrow3 hat hlt3))
          go_roundw
          case rel =>
            refine ⟨k + 1, some ⟨gg, 0, none⟩, cap, L + every, rfl, rfl, ?_, by omega, by omega, by omega, HN.out, ?_, Past.grown (hb.alloc _) (HO.out.alloc _) hgrow3 (Nat.le_refl _)⟩
            · rw [HL.out]; push_cast; rw [Int.mul_add]; omega
            · rw [HP.out]
              exact ResStep.push (by rw [HK.out, ← HL.out]; exact hown')
          case measure => simp [lenOf]; omega
        · obtain rfl : k = 12 := by omega
          go_wp2
          go_ret
          exact ⟨_, rfl, by rw [HV.out, HW.out]; exact hv, hb⟩
      · have HN := Lib.hid (walkN_off (k := 12 - k) (by rw [← HL.out]; exact hs))
        go_wp2
        go_ret
        exact ⟨_, rfl, by rw [HV.out, HW.out, HN.out]; exact hv, hb⟩

set_option maxRecDepth 100000 in
set_option maxHeartbeats 2000000 in
theorem implStairWalk_any (long from_ every : Int) (w : World) :
    Calls Try.prog 33 #[.int .i64 long, .int .i64 from_, .int .i64 every] w (GivesStep w (walkI long from_ every)) := by
  obtain ⟨i0, hi, hz0, hz1, hz2⟩ := info_parts infoStep
  cases hB : walkOkB long from_ every with
  | false =>
    have HV : Hid (walkI long from_ every = []) := by rw [Hid, walkI, hB]; rfl
    have hor : inB long 0 199 = false ∨ (inB long 0 199 = true ∧ (inB from_ 0 199 = false ∨ (inB from_ 0 199 = true ∧ (inB every 0 199 = false ∨ (inB every 0 199 = true ∧ (every == 0) = true))))) := by
      cases h1 : inB long 0 199 <;> cases h2 : inB from_ 0 199 <;> cases h3 : inB every 0 199 <;> simp_all [walkOkB]
      have := (inB_iff _ _ _).1 h3
      have h4 : ¬ (1 ≤ every ∧ every ≤ 199) := fun h => by rw [(inB_iff _ _ _).2 h] at hB; cases hB
      omega
    clear hB
    rcases hor with h1 | ⟨h1, h2 | ⟨h2, h3 | ⟨h3, h4⟩⟩⟩
    all_goals
      go_enter Try.func33, Try.ntmps33
      go_wp2_with (first | (go_at_call 55; refine (within_any _ _ _).mono ?_; rintro e w' ⟨rfl, rfl⟩))
      go_ret
      exact ⟨_, rfl, by rw [HV.out]; exact ResStep.nil _ _, Past.refl _⟩
  | true =>
    have hb3 : (0 ≤ long ∧ long ≤ 199) ∧ (0 ≤ from_ ∧ from_ ≤ 199) ∧ (1 ≤ every ∧ every ≤ 199) := by simpa [walkOkB, inB_iff] using hB
    have HV : Hid (walkI long from_ every = walkTo long from_ every (walkN long from_ every 12 0)) := by rw [Hid, walkI, hB]; rfl
    clear hB
    obtain ⟨⟨l0, l1⟩, ⟨f0, f1⟩, ⟨e0, e1⟩⟩ := hb3
    have h1 : inB long 0 199 = true := (inB_iff _ _ _).2 ⟨l0, l1⟩
    have h2 : inB from_ 0 199 = true := (inB_iff _ _ _).2 ⟨f0, f1⟩
    have h3 : inB every 0 199 = true := (inB_iff _ _ _).2 ⟨by omega, e1⟩
    have h4 : (every == 0) = false := by simp; omega
    go_enter Try.func33, Try.ntmps33
    go_wp2_with (first | (go_at_call 55; refine (within_any _ _ _).mono ?_; rintro e w' ⟨rfl, rfl⟩))
    clear h1 h2 h3 h4
    go_loopw [7, 8] (fun v t wr => ∃ k, WalkInv w w.heap.size long from_ every v t k wr) (fun v _ _ => 12 - lenOf v)
    case atStart => exact ⟨0, none, 0, from_, rfl, rfl, by simp, f0, by omega, by omega, rfl, ResStep.nil _ _, Past.refl _⟩
    case round =>
      obtain ⟨k, A, c, L, rfl, rfl, hL, hL0, hL1, hk, hw, hv, hb⟩ := hrel
      have HL := Lib.hid hL
      have HW := Lib.hid hw
      clear hL hw
      by_cases hs : L + long ≤ 199
      · by_cases h12 : k < 12
        · have h12' : (k : Int) < 12 := by omega
          have HN := Lib.hid (walk_pre hk HW.out (by rw [← HL.out]; exact hs) h12)
          have HP := Lib.hid (walkTo_next long from_ every k)
          have HK := Lib.hid (walkTo_length long from_ every k)
          have hown : wr.ownsRow w.heap.size 42 2 (.slice A k c) k (cellsStep (walkTo long from_ every k)) := by have := hv; unfold ResStep at this; rw [HK.out] at this; exact this
          have hbs := hb.size
          have hsum : IntKind.i64.wrap (L + long) = L + long := IntWalk.i64_in _ (by omega)
          have HO := Lib.hid hown
          clear hown hv
          go_wp2_with (first | (at_builtin; refine wpList_append_lies _ rfl _ _ 25 rfl w.heap.size 42 i0 _ 2 16 Try.underlying25 hi hz0 hz1 hz2 rfl (by decide) _ k _ rfl (HO.out.alloc _) ⟨wr.heap.size, 0, none⟩ 1 1 [.int .i64 L, .int .i64 (L + long)] rfl rfl (newStep wr _ _ _) (cellsStep_one [⟨L, L + long⟩]) (by omega) (by unfold maxLen; omega) (by omega) (by simp; omega) _ rfl ?_; intro gg cap w3 hown' hgrow3 hat hlt3))
          go_roundw
          case rel =>
            refine ⟨k + 1, some ⟨gg, 0, none⟩, cap, L + every, rfl, rfl, ?_, by omega, by omega, by omega, HN.out, ?_, Past.grown (hb.alloc _) (HO.out.alloc _) hgrow3 (Nat.le_refl _)⟩
            · rw [HL.out]; push_cast; rw [Int.mul_add]; omega
            · rw [HP.out]
              exact ResStep.push (by rw [HK.out, ← HL.out]; exact hown')
          case measure => simp [lenOf]; omega
        · obtain rfl : k = 12 := by omega
          go_wp2
          go_ret
          exact ⟨_, rfl, by rw [HV.out, HW.out]; exact hv, hb⟩
      · have HN := Lib.hid (walkN_off (k := 12 - k) (by rw [← HL.out]; exact hs))
        go_wp2
        go_ret
        exact ⟨_, rfl, by rw [HV.out, HW.out, HN.out]; exact hv, hb⟩

end Go.Proofs.Ythopenknfadciaa
