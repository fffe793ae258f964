/-
  Plain mathematics of stairs: the earliest coming at a time, steps in order without those of no use, and that sorting and keeping gives the same. No program is named. No condition.
-/
import Derived.Test.YthopenknfadciaaRStep
namespace Go.Proofs.Ythopenknfadciaa

theorem snoc_ind {α : Type} {P : List α → Prop} (h0 : P []) (h1 : ∀ l a, P l → P (l ++ [a])) : ∀ l, P l := fun l => by
  rw [← List.reverse_reverse l]
  induction l.reverse with
  | nil => exact h0
  | cons a t ih => simpa using h1 _ a ih

def far : Int := 99999
/-- The earliest coming so far, and one step more. -/
def bestStep (a b : Int) (s : StepD) : Int := if a ≤ s.x0 ∧ s.x1 < b then s.x1 else b
def bestOf (xs : List StepD) (a : Int) : Int := xs.foldl (bestStep a) far

theorem bestOf_nil (a : Int) : bestOf [] a = far := rfl
theorem bestOf_snoc (xs : List StepD) (s : StepD) (a : Int) : bestOf (xs ++ [s]) a = bestStep a (bestOf xs a) s := by simp [bestOf]

theorem bestOf_le (xs : List StepD) (a : Int) : bestOf xs a ≤ far := by
  induction xs using snoc_ind with
  | h0 => exact Int.le_refl _
  | h1 xs s ih => rw [bestOf_snoc]; unfold bestStep; split <;> omega
theorem bestOf_lb {xs : List StepD} {a : Int} {s : StepD} (h : s ∈ xs) (ha : a ≤ s.x0) : bestOf xs a ≤ s.x1 := by
  induction xs using snoc_ind with
  | h0 => simp at h
  | h1 xs t ih =>
    rw [bestOf_snoc]
    rcases List.mem_append.1 h with h | h
    · have := ih h
      unfold bestStep
      split <;> omega
    · simp at h
      subst h
      unfold bestStep
      split <;> omega
theorem bestOf_mem (xs : List StepD) (a : Int) : bestOf xs a = far ∨ ∃ s ∈ xs, a ≤ s.x0 ∧ bestOf xs a = s.x1 := by
  induction xs using snoc_ind with
  | h0 => exact .inl rfl
  | h1 xs t ih =>
    rw [bestOf_snoc]
    unfold bestStep
    split
    · rename_i h
      exact .inr ⟨t, by simp, h.1, rfl⟩
    · rcases ih with h | ⟨s, hs, h1, h2⟩
      · exact .inl h
      · exact .inr ⟨s, List.mem_append_left _ hs, h1, h2⟩
/-- It hangs on what is there alone. -/
theorem bestOf_congr {xs ys : List StepD} (h : ∀ s, s ∈ xs ↔ s ∈ ys) (a : Int) : bestOf xs a = bestOf ys a := by
  have key : ∀ {xs ys : List StepD}, (∀ s, s ∈ xs → s ∈ ys) → bestOf ys a ≤ bestOf xs a := fun {xs ys} h => by
    rcases bestOf_mem xs a with e | ⟨s, hs, h1, h2⟩
    · rw [e]; exact bestOf_le ys a
    · rw [h2]; exact bestOf_lb (h s hs) h1
  have h1 := key (xs := xs) (ys := ys) fun s => (h s).1
  have h2 := key (xs := ys) (ys := xs) fun s => (h s).2
  omega
theorem bestOf_mono (xs : List StepD) {a b : Int} (h : a ≤ b) : bestOf xs a ≤ bestOf xs b := by
  rcases bestOf_mem xs b with e | ⟨s, hs, h1, h2⟩
  · rw [e]; exact bestOf_le xs a
  · rw [h2]; exact bestOf_lb hs (by omega)

/-- A step by itself is ok. -/
def stOk (a : StepD) : Bool := decide (0 ≤ a.x0) && (decide (a.x0 ≤ a.x1) && decide (a.x1 ≤ 199))
theorem stOk_iff (a : StepD) : stOk a = true ↔ 0 ≤ a.x0 ∧ a.x0 ≤ a.x1 ∧ a.x1 ≤ 199 := by simp [stOk]

def mkSt (xs : List StepD) (a : Nat) : StepD := ⟨(a : Int), bestOf xs a⟩
/-- The steps of the times below a at which something goes for the last time. -/
def frontTo (xs : List StepD) (a : Nat) : List StepD := ((List.range a).filter fun i : Nat => bestOf xs (i : Int) != bestOf xs ((i + 1 : Nat) : Int)).map (mkSt xs)
/-- As spec.l5Tidy goes. -/
def tidyTo (xs : List StepD) : Nat → List StepD
  | 0 => []
  | a + 1 =>
    if bestOf xs (a : Int) = far then tidyTo xs a
    else if (tidyTo xs a).getLast?.map StepD.x1 = some (bestOf xs (a : Int)) then (tidyTo xs a).dropLast ++ [mkSt xs a] else tidyTo xs a ++ [mkSt xs a]

theorem frontTo_succ (xs : List StepD) (a : Nat) : frontTo xs (a + 1) = frontTo xs a ++ (if bestOf xs (a : Int) = bestOf xs ((a + 1 : Nat) : Int) then [] else [mkSt xs a]) := by
  unfold frontTo
  rw [List.range_succ, List.filter_append, List.map_append]
  by_cases h : bestOf xs (a : Int) = bestOf xs ((a + 1 : Nat) : Int)
  · have e : (bestOf xs (a : Int) != bestOf xs ((a + 1 : Nat) : Int)) = false := by rw [h]; simp
    rw [if_pos h, List.filter_cons, e]
    simp
  · have e : (bestOf xs (a : Int) != bestOf xs ((a + 1 : Nat) : Int)) = true := by simpa using h
    rw [if_neg h, List.filter_cons, if_pos e]
    simp

theorem tidyTo_front (xs : List StepD) : ∀ a, tidyTo xs (a + 1) = frontTo xs a ++ (if bestOf xs (a : Int) = far then [] else [mkSt xs a])
  | 0 => by
    by_cases h : bestOf xs ((0 : Nat) : Int) = far
    · rw [tidyTo, if_pos h, if_pos h]; rfl
    · rw [tidyTo, if_neg h, if_neg h, if_neg (by simp [tidyTo])]; rfl
  | a + 1 => by
    have ih := tidyTo_front xs a
    have hm := bestOf_mono xs (a := (a : Int)) (b := ((a + 1 : Nat) : Int)) (by omega)
    have hl := bestOf_le xs ((a + 1 : Nat) : Int)
    rw [tidyTo, frontTo_succ]
    by_cases h : bestOf xs ((a + 1 : Nat) : Int) = far
    · rw [if_pos h, if_pos h, ih, List.append_nil]
      rw [h]
    · rw [if_neg h, if_neg h]
      have h1 : ¬ bestOf xs (a : Int) = far := by omega
      rw [if_neg h1] at ih
      rw [ih]
      by_cases h2 : bestOf xs (a : Int) = bestOf xs ((a + 1 : Nat) : Int)
      · rw [if_pos (by simp [mkSt, h2]), if_pos h2]
        simp
      · rw [if_neg (by simp only [List.getLast?_append, List.getLast?_singleton, Option.some_or, Option.map_some, Option.some.injEq, mkSt]; exact h2), if_neg h2]

/-- The steps of a list that are of use, in order. -/
def tidy (xs : List StepD) : List StepD := frontTo xs 200

theorem bestOf_200 {xs : List StepD} (h : ∀ s ∈ xs, stOk s = true) (a : Int) (ha : 200 ≤ a) : bestOf xs a = far := by
  rcases bestOf_mem xs a with e | ⟨s, hs, h1, _⟩
  · exact e
  · have := (stOk_iff s).1 (h s hs)
    omega
theorem tidyTo_200 {xs : List StepD} (h : ∀ s ∈ xs, stOk s = true) : tidyTo xs 200 = tidy xs := by
  rw [tidyTo_front xs 199]
  unfold tidy
  rw [frontTo_succ xs 199]
  have := bestOf_200 h (((199 + 1 : Nat)) : Int) (by omega)
  rw [this]
/-- Once nothing goes any more, nothing comes to the list. -/
theorem tidyTo_break (xs : List StepD) (a : Nat) (h : bestOf xs (a : Int) = far) : ∀ k, tidyTo xs (a + k) = tidyTo xs a
  | 0 => rfl
  | k + 1 => by
    have hm := bestOf_mono xs (a := (a : Int)) (b := ((a + k : Nat) : Int)) (by omega)
    have hl := bestOf_le xs ((a + k : Nat) : Int)
    rw [show a + (k + 1) = (a + k) + 1 from rfl, tidyTo, if_pos (by omega)]
    exact tidyTo_break xs a h k

theorem frontTo_mem {xs : List StepD} {n : Nat} {s : StepD} (h : s ∈ frontTo xs n) : ∃ i, i < n ∧ s = mkSt xs i ∧ bestOf xs (i : Int) ≠ bestOf xs ((i + 1 : Nat) : Int) := by
  unfold frontTo at h
  obtain ⟨i, hi, rfl⟩ := List.mem_map.1 h
  obtain ⟨h1, h2⟩ := List.mem_filter.1 hi
  exact ⟨i, by simpa using h1, rfl, by simpa using h2⟩

theorem frontTo_len (xs : List StepD) (n : Nat) : (frontTo xs n).length ≤ n := by
  unfold frontTo
  rw [List.length_map]
  have := List.length_filter_le (fun i : Nat => bestOf xs (i : Int) != bestOf xs ((i + 1 : Nat) : Int)) (List.range n)
  simpa using this

/-- Ascending in both. -/
def upSt (a b : StepD) : Prop := a.x0 < b.x0 ∧ a.x1 < b.x1
theorem front_up (xs : List StepD) (n : Nat) : (frontTo xs n).Pairwise upSt := by
  unfold frontTo
  rw [List.pairwise_map]
  have hr : (List.range n).Pairwise (· < ·) := List.pairwise_lt_range
  refine List.Pairwise.imp_of_mem ?_ (hr.filter _)
  intro i j hi hj hlt
  have h1 := (List.mem_filter.1 hi).2
  have hne : bestOf xs (i : Int) ≠ bestOf xs ((i + 1 : Nat) : Int) := by simpa using h1
  have m1 := bestOf_mono xs (a := (i : Int)) (b := ((i + 1 : Nat) : Int)) (by omega)
  have m2 := bestOf_mono xs (a := ((i + 1 : Nat) : Int)) (b := (j : Int)) (by omega)
  exact ⟨by simp [mkSt]; omega, by simp only [mkSt]; omega⟩
theorem tidy_ok {xs : List StepD} (h : ∀ s ∈ xs, stOk s = true) {s : StepD} (hs : s ∈ tidy xs) : stOk s = true := by
  obtain ⟨i, hi, rfl, hne⟩ := frontTo_mem hs
  have hm := bestOf_mono xs (a := (i : Int)) (b := ((i + 1 : Nat) : Int)) (by omega)
  have hl := bestOf_le xs ((i + 1 : Nat) : Int)
  rcases bestOf_mem xs (i : Int) with e | ⟨t, ht, h1, h2⟩
  · omega
  · have := (stOk_iff t).1 (h t ht)
    exact (stOk_iff _).2 (by simp only [mkSt]; omega)

/-- What is kept of steps that come latest going first, the last kept at the head. -/
def keepR (ks : List StepD) (s : StepD) : List StepD := match ks with
  | [] => [s]
  | k :: r => if s.x1 < k.x1 then s :: k :: r else k :: r
def keptR (xs : List StepD) : List StepD := xs.foldl keepR []
theorem keptR_snoc (xs : List StepD) (s : StepD) : keptR (xs ++ [s]) = keepR (keptR xs) s := by simp [keptR]

/-- Who goes later stands ahead; of those that go together who comes first. -/
def ahead (a b : StepD) : Prop := b.x0 ≤ a.x0 ∧ (a.x0 = b.x0 → a.x1 ≤ b.x1)

theorem filter_none {p : Nat → Bool} {l : List Nat} (h : ∀ i ∈ l, p i = false) : l.filter p = [] := by
  rw [List.filter_eq_nil_iff]
  intro i hi
  rw [h i hi]
  simp

theorem range_cut (n k : Nat) (h : k < n) : List.range n = List.range k ++ k :: (List.range (n - k - 1)).map (fun i => k + 1 + i) := by
  have h1 : n = k + (1 + (n - k - 1)) := by omega
  rw [h1, List.range_add, List.range_add]
  simp [Nat.add_assoc]

/-- One step more that goes no later than all. -/
theorem front_snoc {p : List StepD} {y : StepD} (_hp : ∀ s ∈ p, stOk s = true) (hy : stOk y = true) (ha : ∀ s ∈ p, ahead s y) :
    tidy (p ++ [y]) = if y.x1 < bestOf p 0 then y :: tidy p else tidy p := by
  have hyk := (stOk_iff y).1 hy
  obtain ⟨k, hk⟩ : ∃ k : Nat, y.x0 = k := ⟨y.x0.toNat, by omega⟩
  have hk2 : k < 200 := by omega
  -- up to y's going the earliest of p is one and the same
  have flat : ∀ i : Int, 0 ≤ i → i ≤ k → bestOf p i = bestOf p 0 := fun i h0 hi => by
    have m := bestOf_mono p (a := 0) (b := i) h0
    rcases bestOf_mem p 0 with e | ⟨s, hs, h1, h2⟩
    · have := bestOf_le p i; omega
    · have := bestOf_lb (a := i) hs (by have := (ha s hs).1; omega)
      omega
  have upto : ∀ i : Int, i ≤ k → bestOf (p ++ [y]) i = if y.x1 < bestOf p i then y.x1 else bestOf p i := fun i hi => by
    rw [bestOf_snoc]; unfold bestStep
    by_cases h : y.x1 < bestOf p i
    · rw [if_pos ⟨by omega, h⟩, if_pos h]
    · rw [if_neg (fun h' => h h'.2), if_neg h]
  have behind : ∀ i : Int, (k : Int) < i → bestOf (p ++ [y]) i = bestOf p i := fun i hi => by
    rw [bestOf_snoc]; unfold bestStep
    rw [if_neg (by omega)]
  have e1 : (List.range k).filter (fun i : Nat => bestOf (p ++ [y]) (i : Int) != bestOf (p ++ [y]) ((i + 1 : Nat) : Int)) = [] := filter_none fun i hi => by
    have hi : i < k := by simpa using hi
    rw [upto _ (by omega), upto _ (by omega), flat (i : Int) (by omega) (by omega), flat ((i + 1 : Nat) : Int) (by omega) (by omega)]
    simp
  have e2 : (List.range k).filter (fun i : Nat => bestOf p (i : Int) != bestOf p ((i + 1 : Nat) : Int)) = [] := filter_none fun i hi => by
    have hi : i < k := by simpa using hi
    rw [flat (i : Int) (by omega) (by omega), flat ((i + 1 : Nat) : Int) (by omega) (by omega)]
    simp
  have e3 : ((List.range (200 - k - 1)).map (fun i => k + 1 + i)).filter (fun i : Nat => bestOf (p ++ [y]) (i : Int) != bestOf (p ++ [y]) ((i + 1 : Nat) : Int)) =
      ((List.range (200 - k - 1)).map (fun i => k + 1 + i)).filter (fun i : Nat => bestOf p (i : Int) != bestOf p ((i + 1 : Nat) : Int)) := by
    apply List.filter_congr
    intro i hi
    obtain ⟨j, _, rfl⟩ := List.mem_map.1 hi
    rw [behind _ (by omega), behind _ (by omega)]
  have e4 : ∀ l : List Nat, (∀ i ∈ l, k < i) → l.map (mkSt (p ++ [y])) = l.map (mkSt p) := fun l hl => by
    apply List.map_congr_left
    intro i hi
    have := hl i hi
    simp only [mkSt]
    rw [behind _ (by omega)]
  have hgt : ∀ i ∈ ((List.range (200 - k - 1)).map (fun i => k + 1 + i)).filter (fun i : Nat => bestOf p (i : Int) != bestOf p ((i + 1 : Nat) : Int)), k < i := fun i hi => by
    obtain ⟨j, _, rfl⟩ := List.mem_map.1 (List.mem_filter.1 hi).1
    omega
  have hk0 := upto (k : Int) (Int.le_refl _)
  have hk1 := behind ((k + 1 : Nat) : Int) (by omega)
  have fk := flat (k : Int) (by omega) (by omega)
  unfold tidy frontTo
  rw [range_cut 200 k hk2]
  simp only [List.filter_append, List.filter_cons, e1, e2, e3, List.nil_append]
  rw [hk0, hk1, fk]
  by_cases hlt : y.x1 < bestOf p 0
  · simp only [if_pos hlt]
    have hb : bestOf p 0 ≤ bestOf p ((k + 1 : Nat) : Int) := bestOf_mono p (by omega)
    have he : bestOf p ((k + 1 : Nat) : Int) = bestOf p 0 := by
      rcases bestOf_mem p 0 with e | ⟨s, hs, h1, h2⟩
      · have := bestOf_le p ((k + 1 : Nat) : Int); omega
      · obtain ⟨q1, q2⟩ := ha s hs
        have : s.x0 ≠ y.x0 := fun e => by have := q2 e; omega
        have := bestOf_lb (a := ((k + 1 : Nat) : Int)) hs (by omega)
        omega
    rw [he]
    have n1 : (y.x1 != bestOf p 0) = true := by simp; omega
    have n2 : (bestOf p 0 != bestOf p 0) = false := by simp
    simp only [n1, n2, if_true, Bool.false_eq_true, if_false, List.map_cons]
    rw [e4 _ hgt]
    congr 1
    simp only [mkSt]
    rw [hk0, fk, if_pos hlt, ← hk]
  · simp only [if_neg hlt]
    by_cases hn : (bestOf p 0 != bestOf p ((k + 1 : Nat) : Int)) = true
    · simp only [if_pos hn, List.map_cons]
      rw [e4 _ hgt]
      congr 1
      simp only [mkSt]
      rw [hk0, fk, if_neg hlt]
    · simp only [if_neg hn]
      rw [e4 _ hgt]

/-- The first step of what is of use comes earliest. -/
theorem tidy_head {p : List StepD} (hp : ∀ s ∈ p, stOk s = true) : (tidy p = [] ∧ bestOf p 0 = far) ∨ ∃ s r, tidy p = s :: r ∧ s.x1 = bestOf p 0 := by
  have key : ∀ n, (frontTo p n = [] ∧ bestOf p (n : Int) = bestOf p 0) ∨ ∃ s r, frontTo p n = s :: r ∧ s.x1 = bestOf p 0 := by
    intro n
    induction n with
    | zero => exact .inl ⟨rfl, rfl⟩
    | succ n ih =>
      rw [frontTo_succ]
      rcases ih with ⟨h1, h2⟩ | ⟨s, r, h1, h2⟩
      · by_cases h : bestOf p (n : Int) = bestOf p ((n + 1 : Nat) : Int)
        · left
          rw [if_pos h, h1]
          exact ⟨rfl, by rw [← h, h2]⟩
        · right
          rw [if_neg h, h1]
          exact ⟨mkSt p n, [], rfl, h2⟩
      · right
        rw [h1]
        exact ⟨s, _, rfl, h2⟩
  rcases key 200 with ⟨h1, h2⟩ | h
  · left
    exact ⟨h1, by rw [← h2]; exact bestOf_200 hp _ (by omega)⟩
  · exact .inr h

/-- Keeping, over steps in order, is what is of use. -/
theorem keptR_tidy (p : List StepD) (hp : ∀ s ∈ p, stOk s = true) (hs : p.Pairwise ahead) : keptR p = tidy p := by
  induction p using snoc_ind with
  | h0 =>
    have : tidy [] = [] := by
      rcases tidy_head (p := []) (by simp) with ⟨h, _⟩ | ⟨s, r, h, h2⟩
      · exact h
      · exfalso
        have hm : s ∈ tidy [] := by rw [h]; simp
        obtain ⟨i, _, _, hne⟩ := frontTo_mem hm
        exact hne rfl
    rw [this]; rfl
  | h1 p y ih =>
    have hp' : ∀ s ∈ p, stOk s = true := fun s h => hp s (List.mem_append_left _ h)
    have hy : stOk y = true := hp y (by simp)
    rw [List.pairwise_append] at hs
    have ha : ∀ s ∈ p, ahead s y := fun s h => hs.2.2 s h y (by simp)
    rw [keptR_snoc, ih hp' hs.1, front_snoc hp' hy ha]
    have hyk := (stOk_iff y).1 hy
    rcases tidy_head hp' with ⟨h1, h2⟩ | ⟨s, r, h1, h2⟩
    · rw [h1, h2, if_pos (by unfold far; omega)]
      rfl
    · rw [h1, ← h2]
      rfl

theorem frontTo_congr {xs ys : List StepD} (h : ∀ s, s ∈ xs ↔ s ∈ ys) (n : Nat) : frontTo xs n = frontTo ys n := by
  have hb : ∀ a, bestOf xs a = bestOf ys a := bestOf_congr h
  have hm : mkSt xs = mkSt ys := funext fun i => by simp only [mkSt, hb]
  unfold frontTo
  rw [hm]
  simp only [hb]
theorem tidy_congr {xs ys : List StepD} (h : ∀ s, s ∈ xs ↔ s ∈ ys) : tidy xs = tidy ys := frontTo_congr h 200

/-- Step k of a list; it is ok, and goes and comes later than the one ahead. -/
def stAt (xs : List StepD) (k : Nat) : StepD := xs.getD k default
def upB (a b : StepD) : Bool := decide (a.x0 < b.x0) && decide (a.x1 < b.x1)
theorem upB_iff (a b : StepD) : upB a b = true ↔ a.x0 < b.x0 ∧ a.x1 < b.x1 := by simp [upB]
def stB (xs : List StepD) (k : Nat) : Bool := stOk (stAt xs k) && (k == 0 || upB (stAt xs (k - 1)) (stAt xs k))
def stairB (xs : List StepD) : Bool := decide (xs.length ≤ 12) && (List.range xs.length).all (stB xs)
theorem stairB_iff (xs : List StepD) : stairB xs = true ↔ xs.length ≤ 12 ∧ ∀ k, k < xs.length → stB xs k = true := by simp [stairB]
theorem stAt_of {xs : List StepD} {k : Nat} {a : StepD} (h : xs[k]? = some a) : stAt xs k = a := by simp [stAt, h]
theorem stB_first {xs : List StepD} {a : StepD} (h : xs[0]? = some a) : stB xs 0 = stOk a := by simp [stB, stAt_of h]
theorem stB_next {xs : List StepD} {k : Nat} {a b : StepD} (hk : k ≠ 0) (h : xs[k]? = some a) (hp : xs[k - 1]? = some b) : stB xs k = (stOk a && upB b a) := by
  have : (k == 0) = false := by simpa using hk
  simp [stB, stAt_of h, stAt_of hp, this]
theorem stB_no {xs : List StepD} {k : Nat} {a : StepD} (h : xs[k]? = some a) (hn : stOk a = false) : stB xs k = false := by simp [stB, stAt_of h, hn]
theorem stairB_bad {xs : List StepD} {k : Nat} (hk : k < xs.length) (h : stB xs k = false) : stairB xs = false := by
  rw [Bool.eq_false_iff]
  intro hw
  rw [((stairB_iff _).1 hw).2 k hk] at h
  cases h
theorem stairB_long {xs : List StepD} (h : 12 < xs.length) : stairB xs = false := by
  rw [Bool.eq_false_iff]
  intro hw
  have := ((stairB_iff _).1 hw).1
  omega
/-- The first k steps are right. -/
def StTo (xs : List StepD) (k : Nat) : Prop := ∀ j, j < k → stB xs j = true
theorem StTo.next {xs : List StepD} {k : Nat} (h : StTo xs k) (hk : stB xs k = true) : StTo xs (k + 1) := fun j hj => by
  rcases Nat.lt_or_ge j k with hlt | hge
  · exact h j hlt
  · obtain rfl : j = k := by omega
    exact hk
theorem StTo.end_ {xs : List StepD} (h : StTo xs xs.length) : stairB xs = decide (xs.length ≤ 12) := by
  by_cases hl : xs.length ≤ 12
  · rw [(stairB_iff xs).2 ⟨hl, h⟩]; simp [hl]
  · rw [stairB_long (by omega)]; simp; omega
theorem stairB_len {xs : List StepD} (h : stairB xs = true) : xs.length ≤ 12 := ((stairB_iff _).1 h).1
theorem stairB_ok {xs : List StepD} (h : stairB xs = true) : ∀ s ∈ xs, stOk s = true := fun s hs => by
  obtain ⟨j, hj, rfl⟩ := List.getElem_of_mem hs
  have := ((stairB_iff _).1 h).2 j hj
  have e := stAt_of (List.getElem?_eq_getElem hj)
  simp only [stB, e, Bool.and_eq_true] at this
  exact this.1
theorem stairB_up {xs : List StepD} (h : stairB xs = true) : xs.Pairwise upSt := by
  rw [List.pairwise_iff_getElem]
  have key : ∀ d i (h1 : i < xs.length) (h2 : i + d + 1 < xs.length), upSt xs[i] xs[i + d + 1] := by
    intro d
    induction d with
    | zero =>
      intro i h1 h2
      have := ((stairB_iff _).1 h).2 (i + 1) h2
      rw [stB_next (by omega) (List.getElem?_eq_getElem h2) (List.getElem?_eq_getElem (by omega))] at this
      simp only [Bool.and_eq_true, upB_iff] at this
      exact this.2
    | succ d ih =>
      intro i h1 h2
      have a := ih i h1 (by omega)
      have := ((stairB_iff _).1 h).2 (i + (d + 1) + 1) h2
      rw [stB_next (by omega) (List.getElem?_eq_getElem h2) (List.getElem?_eq_getElem (by omega))] at this
      simp only [Bool.and_eq_true, upB_iff] at this
      have b := this.2
      have e : xs[i + (d + 1) + 1 - 1]'(by omega) = xs[i + d + 1]'(by omega) := by congr 1
      rw [e] at b
      unfold upSt at *
      omega
  intro i j h1 h2 hij
  have := key (j - i - 1) i h1 (by omega)
  have e : i + (j - i - 1) + 1 = j := by omega
  simp only [e] at this
  exact this
theorem stairB_of {xs : List StepD} (hl : xs.length ≤ 12) (ho : ∀ s ∈ xs, stOk s = true) (hu : xs.Pairwise upSt) : stairB xs = true := by
  refine (stairB_iff _).2 ⟨hl, fun k hk => ?_⟩
  have h1 := ho _ (List.getElem_mem hk)
  by_cases hk0 : k = 0
  · subst hk0
    rw [stB_first (List.getElem?_eq_getElem hk)]
    exact h1
  · rw [stB_next hk0 (List.getElem?_eq_getElem hk) (List.getElem?_eq_getElem (by omega)), h1]
    have := (List.pairwise_iff_getElem.1 hu) (k - 1) k (by omega) hk (by omega)
    exact (upB_iff _ _).2 this

/-- When one comes who is there at a time. -/
def atI (xs : List StepD) (t : Int) : Int := match xs.find? (fun a => decide (t ≤ a.x0)) with
  | some a => a.x1
  | none => far
theorem atI_none {xs : List StepD} {t : Int} (h : ∀ (k : Nat) (a : StepD), xs[k]? = some a → a.x0 < t) : atI xs t = far := by
  unfold atI
  have : xs.find? (fun a => decide (t ≤ a.x0)) = none := by
    rw [List.find?_eq_none]
    intro a ha
    obtain ⟨j, hj, rfl⟩ := List.getElem_of_mem ha
    have := h j _ (List.getElem?_eq_getElem hj)
    simp; omega
  rw [this]
theorem atI_some {xs : List StepD} {t : Int} {k : Nat} {a : StepD} (h : ∀ (j : Nat) (b : StepD), j < k → xs[j]? = some b → b.x0 < t) (ha : xs[k]? = some a) (ht : t ≤ a.x0) : atI xs t = a.x1 := by
  unfold atI
  have : xs.find? (fun a => decide (t ≤ a.x0)) = some a := by
    rw [List.find?_eq_some_iff_getElem]
    obtain ⟨hk, rfl⟩ := List.getElem?_eq_some_iff.1 ha
    exact ⟨by simpa using ht, k, hk, rfl, fun j hj => by have := h j _ hj (List.getElem?_eq_getElem (by omega)); simp; omega⟩
  rw [this]
/-- How many steps ahead of those for which something holds that holds for all later ones. -/
def sinceN (xs : List StepD) (p : StepD → Bool) : Nat := xs.countP fun a => !p a
theorem since_split (xs : List StepD) (p : StepD → Bool) (hm : ∀ (i j : Nat) (a b : StepD), i ≤ j → xs[i]? = some a → xs[j]? = some b → p a = true → p b = true) :
    sinceN xs p ≤ xs.length ∧ (∀ (k : Nat) (a : StepD), k < sinceN xs p → xs[k]? = some a → p a = false) ∧ (∀ (k : Nat) (a : StepD), sinceN xs p ≤ k → xs[k]? = some a → p a = true) := by
  unfold sinceN
  induction xs with
  | nil => simp
  | cons x xs ih =>
    have ih := ih fun i j a b hij ha hb => hm (i + 1) (j + 1) a b (by omega) (by simpa using ha) (by simpa using hb)
    cases hp : p x with
    | true =>
      have all : ∀ a ∈ xs, p a = true := fun a ha => by
        obtain ⟨j, hj, rfl⟩ := List.getElem_of_mem ha
        exact hm 0 (j + 1) x _ (by omega) rfl (by simp [hj]) hp
      have h0 : (x :: xs).countP (fun a => !p a) = 0 := by
        rw [List.countP_eq_zero]
        intro a ha
        rcases List.mem_cons.1 ha with rfl | ha
        · simp [hp]
        · simp [all a ha]
      rw [h0]
      refine ⟨Nat.zero_le _, fun k a hk => absurd hk (by omega), fun k a _ ha => ?_⟩
      have := List.mem_of_getElem? ha
      rcases List.mem_cons.1 this with rfl | h
      · exact hp
      · exact all a h
    | false =>
      have h1 : (x :: xs).countP (fun a => !p a) = xs.countP (fun a => !p a) + 1 := by simp [hp]
      rw [h1]
      refine ⟨by simp; omega, fun k a hk ha => ?_, fun k a hk ha => ?_⟩
      · cases k with
        | zero => simp at ha; subst ha; exact hp
        | succ k => exact ih.2.1 k a (by omega) (by simpa using ha)
      · cases k with
        | zero => omega
        | succ k => exact ih.2.2 k a (by omega) (by simpa using ha)

theorem stair_le {xs : List StepD} (h : stairB xs = true) {i j : Nat} {a b : StepD} (hij : i ≤ j) (ha : xs[i]? = some a) (hb : xs[j]? = some b) : a.x0 ≤ b.x0 ∧ a.x1 ≤ b.x1 := by
  obtain ⟨hi, rfl⟩ := List.getElem?_eq_some_iff.1 ha
  obtain ⟨hj, rfl⟩ := List.getElem?_eq_some_iff.1 hb
  by_cases e : i = j
  · subst e; exact ⟨Int.le_refl _, Int.le_refl _⟩
  · have := (List.pairwise_iff_getElem.1 (stairB_up h)) i j hi hj (by omega)
    exact ⟨Int.le_of_lt this.1, Int.le_of_lt this.2⟩

/-- When one must go at the latest: of the first k steps. -/
def lastTo (xs : List StepD) (b : Int) : Nat → Int
  | 0 => -1
  | k + 1 => match xs[k]? with
    | some a => if a.x1 ≤ b then a.x0 else lastTo xs b k
    | none => lastTo xs b k
theorem lastTo_yes {xs : List StepD} {b : Int} {k : Nat} {a : StepD} (ha : xs[k]? = some a) (h : a.x1 ≤ b) : lastTo xs b (k + 1) = a.x0 := by rw [lastTo, ha]; simp [h]
theorem lastTo_no {xs : List StepD} {b : Int} {k : Nat} {a : StepD} (ha : xs[k]? = some a) (h : b < a.x1) : lastTo xs b (k + 1) = lastTo xs b k := by rw [lastTo, ha]; simp; omega
theorem lastTo_since {xs : List StepD} {b : Int} (c : Nat) (hc : ∀ (k : Nat) (a : StepD), c ≤ k → xs[k]? = some a → b < a.x1) : ∀ n, n ≤ xs.length → c ≤ n → lastTo xs b n = lastTo xs b c
  | 0, _, h => by obtain rfl : c = 0 := by omega
                  rfl
  | n + 1, hn, h => by
    by_cases e : c = n + 1
    · subst e; rfl
    · rw [lastTo_no (List.getElem?_eq_getElem (by omega)) (hc n _ (by omega) (List.getElem?_eq_getElem (by omega)))]
      exact lastTo_since c hc n (by omega) (by omega)

end Go.Proofs.Ythopenknfadciaa
