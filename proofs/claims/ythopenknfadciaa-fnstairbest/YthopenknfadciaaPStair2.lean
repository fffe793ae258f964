/-
  More plain mathematics of stairs: what a stair tells at a time is the earliest of its steps; a stair of a stair is itself; two stairs behind one another. No program is named. No condition.
-/
import Derived.Test.YthopenknfadciaaPStair
namespace Go.Proofs.Ythopenknfadciaa

theorem stair_best {zs : List StepD} (h : stairB zs = true) (a : Int) : atI zs a = bestOf zs a := by
  unfold atI
  cases hf : zs.find? (fun s => decide (a ≤ s.x0)) with
  | none =>
    rw [List.find?_eq_none] at hf
    rcases bestOf_mem zs a with e | ⟨s, hs, h1, _⟩
    · rw [e]
    · have := hf s hs
      simp at this
      omega
  | some s =>
    obtain ⟨h1, k, hk, rfl, h2⟩ := List.find?_eq_some_iff_getElem.1 hf
    simp at h1
    have lb := bestOf_lb (List.getElem_mem hk) h1
    have hok := (stOk_iff _).1 (stairB_ok h _ (List.getElem_mem hk))
    simp only
    rcases bestOf_mem zs a with e | ⟨s, hs, h3, h4⟩
    · rw [e] at lb; unfold far at lb; omega
    · obtain ⟨j, hj, rfl⟩ := List.getElem_of_mem hs
      have hkj : k ≤ j := by
        rcases Nat.lt_or_ge j k with hlt | hge
        · have := h2 j hlt
          simp at this
          omega
        · exact hge
      have := (stair_le h hkj (List.getElem?_eq_getElem hk) (List.getElem?_eq_getElem hj)).2
      omega

theorem tidy_best {xs : List StepD} (h : ∀ s ∈ xs, stOk s = true) (a : Nat) (ha : a ≤ 200) : bestOf (tidy xs) (a : Int) = bestOf xs (a : Int) := by
  have lo : bestOf xs (a : Int) ≤ bestOf (tidy xs) (a : Int) := by
    rcases bestOf_mem (tidy xs) (a : Int) with e | ⟨s, hs, h1, h2⟩
    · rw [e]; exact bestOf_le _ _
    · obtain ⟨i, _, rfl, _⟩ := frontTo_mem hs
      rw [h2]
      exact bestOf_mono xs h1
  have hi : bestOf (tidy xs) (a : Int) ≤ bestOf xs (a : Int) := by
    by_cases hf : bestOf xs (a : Int) = far
    · rw [hf]; exact bestOf_le _ _
    · have key : ∀ d i : Nat, i + d = 200 → bestOf xs (i : Int) ≠ far → ∃ j : Nat, i ≤ j ∧ j < 200 ∧ bestOf xs (j : Int) = bestOf xs (i : Int) ∧ bestOf xs (j : Int) ≠ bestOf xs ((j + 1 : Nat) : Int) := by
        intro d
        induction d with
        | zero => intro i hi hne; exact absurd (bestOf_200 h _ (by omega)) hne
        | succ d ih =>
          intro i hi hne
          by_cases e : bestOf xs (i : Int) = bestOf xs ((i + 1 : Nat) : Int)
          · obtain ⟨j, h1, h2, h3, h4⟩ := ih (i + 1) (by omega) (by rw [← e]; exact hne)
            exact ⟨j, by omega, h2, by rw [h3, e], h4⟩
          · exact ⟨i, Nat.le_refl _, by omega, rfl, e⟩
      obtain ⟨j, h1, h2, h3, h4⟩ := key (200 - a) a (by omega) hf
      have hm : mkSt xs j ∈ tidy xs := by
        unfold tidy frontTo
        exact List.mem_map.2 ⟨j, List.mem_filter.2 ⟨by simpa using h2, by simpa using h4⟩, rfl⟩
      have := bestOf_lb (a := (a : Int)) hm (by simp only [mkSt]; omega)
      simp only [mkSt] at this
      omega
  omega

theorem frontTo_ext {xs ys : List StepD} (n : Nat) (h : ∀ i : Nat, i ≤ n → bestOf xs (i : Int) = bestOf ys (i : Int)) : frontTo xs n = frontTo ys n := by
  induction n with
  | zero => rfl
  | succ n ih =>
    rw [frontTo_succ, frontTo_succ, ih fun i hi => h i (by omega), h n (by omega), h (n + 1) (by omega)]
    simp only [mkSt, h n (by omega)]
theorem tidy_ext {xs ys : List StepD} (h : ∀ i : Nat, i ≤ 200 → bestOf xs (i : Int) = bestOf ys (i : Int)) : tidy xs = tidy ys := frontTo_ext 200 h
theorem tidy_tidy {xs : List StepD} (h : ∀ s ∈ xs, stOk s = true) : tidy (tidy xs) = tidy xs := tidy_ext fun i hi => tidy_best h i hi
theorem tidy_reverse (xs : List StepD) : tidy xs.reverse = tidy xs := tidy_congr fun s => by simp

/-- What a stair of steps tells. -/
theorem tidy_at {xs : List StepD} (h : ∀ s ∈ xs, stOk s = true) (hl : (tidy xs).length ≤ 12) (a : Nat) (ha : a ≤ 200) : atI (tidy xs) (a : Int) = bestOf xs (a : Int) := by
  rw [stair_best (stairB_of hl (fun s hs => tidy_ok h hs) (front_up xs 200)), tidy_best h a ha]

theorem atI_mono {zs : List StepD} (h : stairB zs = true) {a b : Int} (hab : a ≤ b) : atI zs a ≤ atI zs b := by rw [stair_best h, stair_best h]; exact bestOf_mono zs hab
theorem atI_lb {zs : List StepD} (h : stairB zs = true) {a : Int} {s : StepD} (hs : s ∈ zs) (ha : a ≤ s.x0) : atI zs a ≤ s.x1 := by rw [stair_best h]; exact bestOf_lb hs ha
theorem atI_mem {zs : List StepD} (h : stairB zs = true) (a : Int) : atI zs a = far ∨ ∃ (k : Nat) (s : StepD), zs[k]? = some s ∧ a ≤ s.x0 ∧ atI zs a = s.x1 := by
  rw [stair_best h]
  rcases bestOf_mem zs a with e | ⟨s, hs, h1, h2⟩
  · exact .inl e
  · obtain ⟨j, hj, rfl⟩ := List.getElem_of_mem hs
    exact .inr ⟨j, _, List.getElem?_eq_getElem hj, h1, h2⟩

/-- When one must go at the latest. -/
theorem lastTo_cases (zs : List StepD) (b : Int) : ∀ n, n ≤ zs.length → (lastTo zs b n = -1 ∧ ∀ (j : Nat) (s : StepD), j < n → zs[j]? = some s → b < s.x1) ∨ ∃ (k : Nat) (s : StepD), k < n ∧ zs[k]? = some s ∧ s.x1 ≤ b ∧ lastTo zs b n = s.x0 ∧ ∀ (j : Nat) (t : StepD), k < j → j < n → zs[j]? = some t → b < t.x1
  | 0, _ => .inl ⟨rfl, fun j s hj => absurd hj (by omega)⟩
  | n + 1, hn => by
    have hg : zs[n]? = some (zs[n]'(by omega)) := List.getElem?_eq_getElem (by omega)
    by_cases h : (zs[n]'(by omega)).x1 ≤ b
    · right
      exact ⟨n, _, by omega, hg, h, lastTo_yes hg h, fun j t h1 h2 => absurd h2 (by omega)⟩
    · have h' : b < (zs[n]'(by omega)).x1 := by omega
      rw [lastTo_no hg h']
      rcases lastTo_cases zs b n (by omega) with ⟨e, hall⟩ | ⟨k, s, h1, h2, h3, h4, h5⟩
      · left
        refine ⟨e, fun j s hj hs => ?_⟩
        rcases Nat.lt_or_ge j n with hlt | hge
        · exact hall j s hlt hs
        · obtain rfl : j = n := by omega
          rw [hg] at hs
          injection hs with hs
          subst hs
          exact h'
      · right
        refine ⟨k, s, by omega, h2, h3, h4, fun j t hk hj ht => ?_⟩
        rcases Nat.lt_or_ge j n with hlt | hge
        · exact h5 j t hk hlt ht
        · obtain rfl : j = n := by omega
          rw [hg] at ht
          injection ht with ht
          subst ht
          exact h'
theorem last_late {zs : List StepD} (h : stairB zs = true) (b : Int) (hb : b < far) : b < atI zs (lastTo zs b zs.length + 1) := by
  rcases atI_mem h (lastTo zs b zs.length + 1) with e | ⟨k, s, hk, h1, h2⟩
  · rw [e]; exact hb
  · rw [h2]
    rcases lastTo_cases zs b zs.length (Nat.le_refl _) with ⟨e, hall⟩ | ⟨k', s', h3, h4, h5, h6, h7⟩
    · exact hall k s (List.getElem?_eq_some_iff.1 hk).1 hk
    · rw [h6] at h1
      refine h7 k s ?_ (List.getElem?_eq_some_iff.1 hk).1 hk
      rcases Nat.lt_or_ge k' k with hlt | hge
      · exact hlt
      · have := (stair_le h hge hk h4).1
        omega
theorem last_time {zs : List StepD} (h : stairB zs = true) (b : Int) (hn : ¬ lastTo zs b zs.length < 0) : atI zs (lastTo zs b zs.length) ≤ b := by
  rcases lastTo_cases zs b zs.length (Nat.le_refl _) with ⟨e, _⟩ | ⟨k', s', h3, h4, h5, h6, h7⟩
  · rw [e] at hn; omega
  · rw [h6]
    have := atI_lb h (List.mem_of_getElem? h4) (Int.le_refl _)
    omega

theorem bestOf_append (xs ys : List StepD) (a : Int) : bestOf (xs ++ ys) a = if bestOf ys a < bestOf xs a then bestOf ys a else bestOf xs a := by
  have l1 : bestOf (xs ++ ys) a ≤ bestOf xs a := by
    rcases bestOf_mem xs a with e | ⟨s, hs, h1, h2⟩
    · rw [e]; exact bestOf_le _ _
    · rw [h2]; exact bestOf_lb (List.mem_append_left _ hs) h1
  have l2 : bestOf (xs ++ ys) a ≤ bestOf ys a := by
    rcases bestOf_mem ys a with e | ⟨s, hs, h1, h2⟩
    · rw [e]; exact bestOf_le _ _
    · rw [h2]; exact bestOf_lb (List.mem_append_right _ hs) h1
  have l3 : bestOf xs a ≤ bestOf (xs ++ ys) a ∨ bestOf ys a ≤ bestOf (xs ++ ys) a := by
    rcases bestOf_mem (xs ++ ys) a with e | ⟨s, hs, h1, h2⟩
    · left; rw [e]; exact bestOf_le _ _
    · rcases List.mem_append.1 hs with hs | hs
      · left; rw [h2]; exact bestOf_lb hs h1
      · right; rw [h2]; exact bestOf_lb hs h1
  split <;> omega

end Go.Proofs.Ythopenknfadciaa
