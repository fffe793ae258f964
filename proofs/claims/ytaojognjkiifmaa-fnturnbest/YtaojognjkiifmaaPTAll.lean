/-
  What it costs at least to end with an arc where turns cost: rounds over the line net's arcs, and the least ways of that net with one node more. Plain. No condition.
-/
import Derived.Test.YtaojognjkiifmaaPNear
import Derived.Test.YtaojognjkiifmaaPLine
namespace Go.Proofs.Ytaojognjkiifmaa

/-- The arcs that begin at s, from one node more. -/
def extraTo (xs : List ArcD) (s : Int) (N : Nat) : Nat → List ArcD
  | 0 => []
  | k + 1 => extraTo xs s N k ++ (match xs[k]? with | some b => if b.f = s then [⟨(N : Int), (k : Int), b.c, 0, 0⟩] else [] | none => [])
def turnArcs (xs : List ArcD) (ts : List TurnD) (s : Int) : List ArcD := lineL xs ts ++ extraTo xs s xs.length xs.length
def startA (xs : List ArcD) (s : Int) : List Int := xs.map fun a => if a.f = s then a.c else farI
/-- What it costs at least to end with each arc. -/
def arcsL (xs : List ArcD) (ts : List TurnD) (s : Int) : List Int := roundsTo (lineL xs ts) (startA xs s) xs.length

theorem extra_mem {xs : List ArcD} {s : Int} {N : Nat} {a : ArcD} : ∀ k, a ∈ extraTo xs s N k → ∃ (j : Nat) (b : ArcD), j < k ∧ xs[j]? = some b ∧ b.f = s ∧ a = ⟨(N : Int), (j : Int), b.c, 0, 0⟩
  | 0, h => by simp [extraTo] at h
  | k + 1, h => by
    simp only [extraTo, List.mem_append] at h
    rcases h with h | h
    · obtain ⟨j, b, h1, h2⟩ := extra_mem k h
      exact ⟨j, b, by omega, h2⟩
    · split at h
      · rename_i b hb
        split at h
        · rename_i hs
          exact ⟨k, b, by omega, hb, hs, by simpa using h⟩
        · simp at h
      · simp at h
theorem extra_has {xs : List ArcD} {s : Int} {N j : Nat} {b : ArcD} (hb : xs[j]? = some b) (hs : b.f = s) : ∀ k, j < k → (⟨(N : Int), (j : Int), b.c, 0, 0⟩ : ArcD) ∈ extraTo xs s N k
  | 0, h => by omega
  | k + 1, h => by
    simp only [extraTo, List.mem_append]
    by_cases e : j = k
    · subst e
      right
      rw [hb]
      simp [hs]
    · exact .inl (extra_has hb hs k (by omega))
theorem lineArc_mem {xs : List ArcD} {ts : List TurnD} {i k : Nat} {a : ArcD} (h : a ∈ lineArc xs ts i k) : ∃ x b, xs[i]? = some x ∧ xs[k]? = some b ∧ 0 ≤ costF ts i k ∧ a = ⟨i, k, costF ts i k + b.c, 0, 9⟩ := by
  unfold lineArc at h
  split at h
  · rename_i x b hx hb
    split at h
    · rename_i hc
      exact ⟨x, b, hx, hb, hc.2, by simpa using h⟩
    · simp at h
  · simp at h
theorem rowL_mem {xs : List ArcD} {ts : List TurnD} {i : Nat} {a : ArcD} : ∀ k, a ∈ rowL xs ts i k → ∃ j, a ∈ lineArc xs ts i j
  | 0, h => by simp [rowL] at h
  | k + 1, h => by
    simp only [rowL, List.mem_append] at h
    rcases h with h | h
    · exact rowL_mem k h
    · exact ⟨k, h⟩
theorem lineTo_mem {xs : List ArcD} {ts : List TurnD} {n : Nat} {a : ArcD} : ∀ i, a ∈ lineTo xs ts n i → ∃ i j, a ∈ lineArc xs ts i j
  | 0, h => by simp [lineTo] at h
  | i + 1, h => by
    simp only [lineTo, List.mem_append] at h
    rcases h with h | h
    · exact lineTo_mem i h
    · obtain ⟨j, hj⟩ := rowL_mem _ h
      exact ⟨i, j, hj⟩

/-- The line net's arcs lie between its nodes and cost no more than 198. -/
theorem line_in_bd {m : Int} {xs : List ArcD} {ts : List TurnD} (hn : netB m xs = true) (ht : ts.all (turnB xs) = true) {a : ArcD} (ha : a ∈ lineL xs ts) : 0 ≤ a.f ∧ a.f < xs.length ∧ 0 ≤ a.t ∧ a.t < xs.length ∧ 0 ≤ a.c ∧ a.c ≤ 198 := by
  obtain ⟨i, j, h⟩ := lineTo_mem _ ha
  obtain ⟨x, b, hx, hb, hc, rfl⟩ := lineArc_mem h
  have h1 := (List.getElem?_eq_some_iff.1 hx).1
  have h2 := (List.getElem?_eq_some_iff.1 hb).1
  have h3 := costF_bd ht (i : Int) (j : Int)
  have hbo := ((netB_iff _ _).1 hn).2.2 _ (List.mem_of_getElem? hb)
  simp only [arcB, Bool.and_eq_true, inB_iff] at hbo
  simp only
  omega
theorem extra_bd {m : Int} {xs : List ArcD} {s : Int} (hn : netB m xs = true) {a : ArcD} (ha : a ∈ extraTo xs s xs.length xs.length) : a.f = xs.length ∧ 0 ≤ a.t ∧ a.t < xs.length ∧ 0 ≤ a.c ∧ a.c ≤ 99 := by
  obtain ⟨j, b, hj, hb, _, rfl⟩ := extra_mem _ ha
  have hbo := ((netB_iff _ _).1 hn).2.2 _ (List.mem_of_getElem? hb)
  simp only [arcB, Bool.and_eq_true, inB_iff] at hbo
  exact ⟨rfl, by show (0 : Int) ≤ (j : Int); omega, by show (j : Int) < _; omega, by show 0 ≤ b.c; omega, by show b.c ≤ 99; omega⟩
theorem turnArcs_in {m : Int} {xs : List ArcD} {ts : List TurnD} (s : Int) (hn : netB m xs = true) (ht : ts.all (turnB xs) = true) : ArcsIn ((xs.length + 1 : Nat) : Int) (turnArcs xs ts s) := fun a ha => by
  rcases List.mem_append.1 ha with ha | ha
  · have := line_in_bd hn ht ha; omega
  · have := extra_bd hn ha; omega
theorem startA_length (xs : List ArcD) (s : Int) : (startA xs s).length = xs.length := by simp [startA]
theorem arcsL_length (xs : List ArcD) (ts : List TurnD) (s : Int) : (arcsL xs ts s).length = xs.length := by rw [arcsL, roundsTo_length, startA_length]

theorem at_app {d : List Int} {x v : Int} (h0 : 0 ≤ v) (h1 : v < d.length) : at_ (d ++ [x]) v = at_ d v := by
  unfold at_
  rw [List.getD_eq_getElem?_getD, List.getElem?_append_left (by omega), ← List.getD_eq_getElem?_getD]
theorem relax_app {d : List Int} {x : Int} {a : ArcD} (hf : 0 ≤ a.f ∧ a.f < d.length) (ht : 0 ≤ a.t ∧ a.t < d.length) : relax (d ++ [x]) a = relax d a ++ [x] := by
  unfold relax
  rw [at_app hf.1 hf.2, at_app ht.1 ht.2]
  split
  · rw [List.set_append_left _ _ (by omega)]
  · rfl
theorem foldl_app {x : Int} : ∀ (ys : List ArcD) (d : List Int), (∀ a ∈ ys, (0 ≤ a.f ∧ a.f < d.length) ∧ (0 ≤ a.t ∧ a.t < d.length)) → ys.foldl relax (d ++ [x]) = ys.foldl relax d ++ [x]
  | [], _, _ => rfl
  | a :: ys, d, h => by
    have h1 := h a (by simp)
    rw [List.foldl_cons, relax_app h1.1 h1.2, List.foldl_cons]
    exact foldl_app ys (relax d a) fun b hb => by rw [relax_length]; exact h b (List.mem_cons_of_mem _ hb)
theorem rounds_app {x : Int} {ys : List ArcD} {d : List Int} (h : ∀ a ∈ ys, (0 ≤ a.f ∧ a.f < d.length) ∧ (0 ≤ a.t ∧ a.t < d.length)) : ∀ r, roundsTo ys (d ++ [x]) r = roundsTo ys d r ++ [x]
  | 0 => rfl
  | r + 1 => by
    show roundTo ys (roundsTo ys (d ++ [x]) r) = roundTo ys (roundsTo ys d r) ++ [x]
    rw [rounds_app h r]
    exact foldl_app ys _ fun a ha => by rw [roundsTo_length]; exact h a ha

theorem at_startA {xs : List ArcD} {s : Int} {v : Nat} {a : ArcD} (ha : xs[v]? = some a) : at_ (startA xs s) (v : Int) = if a.f = s then a.c else farI := by
  have hv := (List.getElem?_eq_some_iff.1 ha).1
  unfold at_ startA
  rw [List.getD_eq_getElem?_getD, List.getElem?_map, Int.toNat_natCast, ha]
  rfl

section
variable {m : Int} {xs : List ArcD} {ts : List TurnD} {s : Int}

theorem arcs_sound0 (hn : netB m xs = true) : Sound ((xs.length + 1 : Nat) : Int) (turnArcs xs ts s) (xs.length : Int) (startA xs s ++ [0]) := by
  refine ⟨by simp [startA_length], fun v h0 h1 => ?_⟩
  by_cases hv : v = xs.length
  · subst hv
    have e : at_ (startA xs s ++ [0]) (xs.length : Int) = 0 := by
      unfold at_
      rw [Int.toNat_natCast, List.getD_eq_getElem?_getD, List.getElem?_append_right (by rw [startA_length]; exact Nat.le_refl _), startA_length]
      simp
    rw [e]
    exact ⟨by unfold farI; omega, .inr ⟨[], .nil⟩⟩
  · obtain ⟨k, rfl⟩ : ∃ k : Nat, v = k := ⟨v.toNat, by omega⟩
    have hk : k < xs.length := by omega
    obtain ⟨a, ha⟩ : ∃ a, xs[k]? = some a := ⟨_, List.getElem?_eq_getElem hk⟩
    have hbo := ((netB_iff _ _).1 hn).2.2 _ (List.mem_of_getElem? ha)
    simp only [arcB, Bool.and_eq_true, inB_iff] at hbo
    rw [at_app h0 (by rw [startA_length]; omega), at_startA ha]
    split
    · rename_i hs
      refine ⟨by unfold farI; omega, .inr ⟨[(xs.length : Int)], ?_⟩⟩
      have h := Way.snoc (xs := turnArcs xs ts s) (s := (xs.length : Int)) .nil (a := ⟨(xs.length : Int), (k : Int), a.c, 0, 0⟩) (List.mem_append_right _ (extra_has ha hs _ hk)) rfl
      simpa using h
    · exact ⟨Int.le_refl _, .inl rfl⟩

theorem arcs_way (hn : netB m xs = true) (ht : ts.all (turnB xs) = true) : ∀ (r : Nat) {v c : Int} {l : List Int}, Way (turnArcs xs ts s) (xs.length : Int) v c l → l.length ≤ r + 1 → c < farI → at_ (roundsTo (lineL xs ts) (startA xs s ++ [0]) r) v ≤ c := by
  have hx := turnArcs_in (xs := xs) (ts := ts) s hn ht
  have len : ∀ r, ((roundsTo (lineL xs ts) (startA xs s ++ [0]) r).length : Int) = ((xs.length + 1 : Nat) : Int) := fun r => by rw [roundsTo_length]; simp [startA_length]
  have sub : ∀ a ∈ lineL xs ts, a ∈ turnArcs xs ts s := fun a h => List.mem_append_left _ h
  have low : ∀ (r : Nat) (v : Int), 0 ≤ v → at_ (roundsTo (lineL xs ts) (startA xs s ++ [0]) (r + 1)) v ≤ at_ (roundsTo (lineL xs ts) (startA xs s ++ [0]) r) v := fun r v hv => foldl_le hx v hv _ _ sub (len r)
  have zero : at_ (startA xs s ++ [0]) (xs.length : Int) = 0 := by
    unfold at_
    rw [Int.toNat_natCast, List.getD_eq_getElem?_getD, List.getElem?_append_right (by rw [startA_length]; exact Nat.le_refl _), startA_length]
    simp
  have first : ∀ {u c : Int} {l : List Int} {a : ArcD}, Way (turnArcs xs ts s) (xs.length : Int) u c l → a ∈ extraTo xs s xs.length xs.length → a.f = u → at_ (startA xs s ++ [0]) a.t ≤ c + a.c := fun {u c l a} hw ha hu => by
    have hc := hw.cost hx
    obtain ⟨j, b, hj, hb, hs, rfl⟩ := extra_mem _ ha
    simp only
    rw [at_app (by omega) (by rw [startA_length]; omega), at_startA hb, if_pos hs]
    omega
  intro r
  induction r with
  | zero =>
    intro v c l h hl hc
    show at_ (startA xs s ++ [0]) v ≤ c
    cases h with
    | nil => rw [zero]; exact Int.le_refl _
    | @snoc u c' l' a h ha e =>
      rcases List.mem_append.1 ha with ha | ha
      · cases h with
        | nil => have := line_in_bd hn ht ha; omega
        | snoc _ _ _ => simp at hl
      · exact first h ha e
  | succ r ih =>
    intro v c l h hl hc
    cases h with
    | nil => 
      have h1 := ih (.nil : Way (turnArcs xs ts s) (xs.length : Int) (xs.length : Int) 0 []) (by simp) hc
      have h2 := low r (xs.length : Int) (by omega)
      omega
    | @snoc u c' l' a h ha e =>
      have hb := hx a ha
      rcases List.mem_append.1 ha with ha' | ha'
      · have h0 := ih h (by simp at hl; omega) (by omega)
        subst e
        exact round_arc hx c' (lineL xs ts) _ sub (len r) ha' h0 (by omega)
      · have h0 := first h ha' e
        have : ∀ q, at_ (roundsTo (lineL xs ts) (startA xs s ++ [0]) q) a.t ≤ at_ (startA xs s ++ [0]) a.t := fun q => by
          induction q with
          | zero => exact Int.le_refl _
          | succ q ihq => have := low q a.t (by omega); omega
        have := this (r + 1)
        omega

/-- Both tell the same. -/
theorem arcs_near (hn : netB m xs = true) (ht : ts.all (turnB xs) = true) : nearL (xs.length + 1) (turnArcs xs ts s) (xs.length : Int) = arcsL xs ts s ++ [0] := by
  have hx := turnArcs_in (xs := xs) (ts := ts) s hn ht
  have h16 := ((netB_iff _ _).1 hn).2.1
  have hs : (0 : Int) ≤ (xs.length : Int) ∧ (xs.length : Int) < ((xs.length + 1 : Nat) : Int) := by omega
  have e : arcsL xs ts s ++ [0] = roundsTo (lineL xs ts) (startA xs s ++ [0]) xs.length := by
    rw [arcsL, rounds_app]
    intro a ha
    have := line_in_bd hn ht ha
    rw [startA_length]
    omega
  rw [e]
  refine (nearL_unique (by omega) hx hs ?_ ?_).symm
  · have step : ∀ r, Sound ((xs.length + 1 : Nat) : Int) (turnArcs xs ts s) (xs.length : Int) (roundsTo (lineL xs ts) (startA xs s ++ [0]) r) := fun r => by
      induction r with
      | zero => exact arcs_sound0 hn
      | succ r ih => exact Sound.foldl hx (lineL xs ts) _ (fun a h => List.mem_append_left _ h) ih
    exact step _
  · intro v c l h
    obtain ⟨c2, l2, h1, h2, _, h4⟩ := h.simple hx
    have hf := h1.few hx hs h4
    have hc := h1.cost hx
    have := arcs_way hn ht xs.length h1 (by omega) (by unfold farI; omega)
    omega
end

end Go.Proofs.Ytaojognjkiifmaa
