/-
  When one comes who is there at a time, and when one must go at the latest: spec.l5At, spec.StairAt, spec.StairLast, impl's stair.at, impl.StairAt, impl.StairLast.
-/
import Derived.Test.YthopenknfadciaaSince
namespace Go.Proofs.Ythopenknfadciaa
open Go.Shelf Go.RowKit Go.Lib Go.Sort

def atB (xs : List StepD) (t : Int) : Int := if stairB xs then atI xs t else -1
def lastB (xs : List StepD) (b : Int) : Int := if stairB xs then lastTo xs b xs.length else -1

theorem since_at {xs : List StepD} (h : stairB xs = true) (t : Int) : (sinceN xs (fun a => decide (t ≤ a.x0)) = xs.length ∧ atI xs t = far) ∨ ∃ a, xs[sinceN xs (fun a => decide (t ≤ a.x0))]? = some a ∧ sinceN xs (fun a => decide (t ≤ a.x0)) < xs.length ∧ atI xs t = a.x1 := by
  obtain ⟨h1, h2, h3⟩ := since_split xs (fun a => decide (t ≤ a.x0)) (fun i j a b hij ha hb hp => by have := (stair_le h hij ha hb).1; simp at *; omega)
  by_cases e : sinceN xs (fun a => decide (t ≤ a.x0)) = xs.length
  · left
    refine ⟨e, atI_none fun k a ha => ?_⟩
    have := h2 k a (by rw [e]; exact (List.getElem?_eq_some_iff.1 ha).1) ha
    simp at this
    exact this
  · right
    have hlt : sinceN xs (fun a => decide (t ≤ a.x0)) < xs.length := by omega
    refine ⟨_, List.getElem?_eq_getElem hlt, hlt, ?_⟩
    have := h3 _ _ (Nat.le_refl _) (List.getElem?_eq_getElem hlt)
    refine atI_some (k := sinceN xs (fun a => decide (t ≤ a.x0))) (fun j b hj hb => ?_) (List.getElem?_eq_getElem hlt) (by simpa using this)
    have := h2 j b hj hb
    simp at this
    exact this
theorem since_last {xs : List StepD} (h : stairB xs = true) (b : Int) : (sinceN xs (fun a => decide (b < a.x1)) = 0 ∧ lastTo xs b xs.length = -1) ∨ ∃ a, xs[sinceN xs (fun a => decide (b < a.x1)) - 1]? = some a ∧ 0 < sinceN xs (fun a => decide (b < a.x1)) ∧ sinceN xs (fun a => decide (b < a.x1)) ≤ xs.length ∧ lastTo xs b xs.length = a.x0 := by
  obtain ⟨h1, h2, h3⟩ := since_split xs (fun a => decide (b < a.x1)) (fun i j a b hij ha hb hp => by have := (stair_le h hij ha hb).2; simp at *; omega)
  have hl := lastTo_since (xs := xs) (b := b) _ (fun k a hk ha => by have := h3 k a hk ha; simpa using this) xs.length (Nat.le_refl _) h1
  generalize sinceN xs (fun a => decide (b < a.x1)) = c at *
  cases c with
  | zero => exact .inl ⟨rfl, hl⟩
  | succ c =>
    right
    have ha : xs[c]? = some (xs[c]'(by omega)) := List.getElem?_eq_getElem (by omega)
    refine ⟨_, ha, by omega, h1, ?_⟩
    have := h2 c _ (by omega) ha
    rw [hl, lastTo_yes ha (by simpa using this)]

set_option maxHeartbeats 1000000 in
theorem l5At_any (A : Option Addr) (n c : Nat) (xs : List StepD) (t : Int) (w : World) (hn : n ≤ 1048576) (hl : xs.length = n) (hx : StepsAt w A xs) :
    Calls Try.prog 44 #[.slice A n c, .int .i64 t] w fun e w' => e = .returned (.int .i64 (atI xs t)) ∧ w = w' := by
  have HX := Lib.hid hl
  clear hl
  go_enter Try.func44, Try.ntmps44
  go_wp2
  go_loop [5] (fun i => ∃ k : Nat, k ≤ n ∧ i = .int .i64 k ∧ ∀ (j : Nat) (b : StepD), j < k → xs[j]? = some b → b.x0 < t) (fun i => n - (intOf i).toNat)
  case atStart => exact ⟨0, by omega, rfl, fun j b h => absurd h (by omega)⟩
  case round =>
    obtain ⟨k, hk, rfl, hno⟩ := hrel
    have HNO := Lib.hid hno
    clear hno
    by_cases hlt : k < n
    · obtain ⟨⟨x0, x1⟩, ha⟩ : ∃ a, xs[k]? = some a := ⟨_, List.getElem?_eq_getElem (by have := HX.out; omega)⟩
      obtain ⟨g, o, rfl, c0, c1⟩ := hx k _ ha
      have HA := Lib.hid ha
      clear ha
      by_cases ht : t ≤ x0
      · go_wp2
        go_ret
        exact ⟨ret_int (atI_some HNO.out HA.out ht).symm, rfl⟩
      · go_wp2
        go_round
        case rel => exact ⟨k + 1, by omega, by go_num, fun j b hj hb => by
          rcases Nat.lt_or_ge j k with h | h
          · exact HNO.out j b h hb
          · obtain rfl : j = k := by omega
            rw [HA.out] at hb
            injection hb with hb
            subst hb
            exact Int.not_le.1 ht⟩
        case measure => simp [intOf]; omega
    · obtain rfl : n = k := by omega
      go_wp2
      go_ret
      exact ⟨ret_int (by rw [atI_none fun j a ha => HNO.out j a (by rw [← HX.out]; exact (List.getElem?_eq_some_iff.1 ha).1) ha]; rfl), rfl⟩

set_option maxHeartbeats 1000000 in
theorem at1_says (B : Nat) (t : Int) (w : World) (hc : w.cell? ⟨B, 0, none⟩ = some (.int .i64 t)) : Says 62 #[.pointer (some ⟨B, 0, none⟩)] (fun a => decide (t ≤ a.x0)) w := fun W a hW => by
  have hc' := cell_in hW hc
  have hz := lt_of_cell hc'
  obtain ⟨x0, x1⟩ := a
  simp only at hz
  show Calls Try.prog 62 #[.agg #[.int .i64 x0, .int .i64 x1], .pointer (some ⟨B, 0, none⟩)] W _
  go_enter Try.func62, Try.ntmps62
  go_wp2
  go_ret
  exact ⟨rfl, 0, #[.cells #[.int .i64 x0, .int .i64 x1] 42], by rw [alloc_eq_grow]; rfl⟩
set_option maxHeartbeats 1000000 in
theorem stairAt_any (A : Option Addr) (n c : Nat) (xs : List StepD) (t : Int) (w : World) (hn : n ≤ 1048576) (hl : xs.length = n) (hx : StepsAt w A xs) (hs : stairB xs = true) :
    Calls Try.prog 45 #[.slice A n c, .int .i64 t] w fun e w' => e = .returned (.int .i64 (atI xs t)) ∧ Below w.heap.size w w' := by
  have hb0 : Past w (w.alloc (.cells #[.int .i64 t] 3)) := (Past.refl _).alloc _
  have hsplit := since_at hs t
  have hle := (since_split xs (fun a => decide (t ≤ a.x0)) (fun i j a b hij ha hb hp => by have := (stair_le hs hij ha hb).1; simp at *; omega)).1
  rw [hl] at hle
  have hS := since_any 62 #[.pointer (some ⟨w.heap.size, 0, none⟩)] (fun a => decide (t ≤ a.x0)) A n c xs (w.alloc (.cells #[.int .i64 t] 3)) (enters_of Try.func62 (by kernel_rfl) rfl) (at1_says _ _ _ (cell_new_sl w _ _)) hn hl (hx.below hb0) (fun i j a b hij ha hb hp => by have := (stair_le hs hij ha hb).1; simp at *; omega)
  generalize sinceN xs (fun a => decide (t ≤ a.x0)) = r at *
  have HS := Lib.hid hS
  have HX := Lib.hid hl
  have HQ := Lib.hid hsplit
  clear hS hl hsplit hs
  go_enter Try.func45, Try.ntmps45
  go_wp2_with fail
  refine HS.out.mono ?_
  rintro e w1 ⟨rfl, hb1⟩
  have hx1 := (hx.below hb0).below hb1
  by_cases hr : r = n
  · have hr' : ((r : Int) == (n : Int)) = true := by simp [hr]
    have HR := Lib.hid hr
    clear hr
    go_wp2
    go_ret
    refine ⟨ret_int ?_, hb0.trans hb1⟩
    rcases HQ.out with ⟨_, h⟩ | ⟨a, _, h, _⟩
    · rw [h]; rfl
    · have := HX.out; have := HR.out; omega
  · have hr' : ((r : Int) == (n : Int)) = false := by simp; omega
    obtain ⟨⟨x0, x1⟩, ha, h1, h2⟩ := HQ.out.resolve_left (fun h => hr (by rw [h.1]; exact HX.out))
    obtain ⟨g, o, rfl, c0, c1⟩ := hx1 r _ ha
    have H2 := Lib.hid h2
    clear ha h2
    have r0 : (r : Int) < (n : Int) := by omega
    go_wp2
    go_ret
    exact ⟨ret_int H2.out.symm, hb0.trans hb1⟩

end Go.Proofs.Ythopenknfadciaa
