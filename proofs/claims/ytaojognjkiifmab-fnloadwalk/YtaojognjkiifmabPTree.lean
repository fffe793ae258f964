/-
  Plain mathematics of the best ways to a node: how many arcs they have at least, with which arc they begin, and the way itself. No program is named. No condition.
-/
import Derived.Test.YtaojognjkiifmabPLab
import Derived.Test.YtaojognjkiifmabBack
namespace Go.Proofs.Ytaojognjkiifmab

/-- One arc: the steps of where it begins. -/
def tightB (d : List Int) (a : ArcD) : Bool := decide (at_ d a.t < farI) && decide (at_ d a.f = a.c + at_ d a.t)
def relaxS (d s : List Int) (a : ArcD) : List Int := if tightB d a = true ∧ at_ s a.t + 1 < at_ s a.f then s.set a.f.toNat (at_ s a.t + 1) else s
def roundS (xs : List ArcD) (d s : List Int) : List Int := xs.foldl (relaxS d) s
def roundsS (xs : List ArcD) (d s : List Int) : Nat → List Int
  | 0 => s
  | r + 1 => roundS xs d (roundsS xs d s r)
/-- How many arcs the best ways from each to a node have at least. -/
def stepsL (m : Nat) (xs : List ArcD) (d : List Int) (to : Int) : List Int := roundsS xs d (start m to) m

theorem tightB_iff (d : List Int) (a : ArcD) : tightB d a = true ↔ at_ d a.t < farI ∧ at_ d a.f = a.c + at_ d a.t := by simp [tightB]
theorem relaxS_length (d s : List Int) (a : ArcD) : (relaxS d s a).length = s.length := by unfold relaxS; split <;> simp
theorem roundS_length (xs : List ArcD) (d : List Int) : ∀ s, (roundS xs d s).length = s.length := by
  induction xs with
  | nil => intro s; rfl
  | cons a xs ih => intro s; show (roundS xs d (relaxS d s a)).length = _; rw [ih, relaxS_length]
theorem roundsS_length (xs : List ArcD) (d s : List Int) : ∀ r, (roundsS xs d s r).length = s.length
  | 0 => rfl
  | r + 1 => by rw [roundsS, roundS_length, roundsS_length xs d s r]
theorem stepsL_length (m : Nat) (xs : List ArcD) (d : List Int) (to : Int) : (stepsL m xs d to).length = m := by rw [stepsL, roundsS_length, start_length]

/-- A way to a node over arcs that are tight. -/
inductive Tight (xs : List ArcD) (d : List Int) (to : Int) : Int → Nat → Prop
  | nil : Tight xs d to to 0
  | cons {a : ArcD} {k : Nat} : Tight xs d to a.t k → a ∈ xs → tightB d a = true → Tight xs d to a.f (k + 1)

/-- All that stands in the list is far, or is what a tight way has of arcs. -/
def SoundS (m : Int) (xs : List ArcD) (d : List Int) (to : Int) (s : List Int) : Prop := (s.length : Int) = m ∧ ∀ v, 0 ≤ v → v < m → 0 ≤ at_ s v ∧ at_ s v ≤ farI ∧ (at_ s v = farI ∨ ∃ k : Nat, at_ s v = k ∧ Tight xs d to v k)

theorem SoundS.relax {m : Int} {xs : List ArcD} {d : List Int} {to : Int} {s : List Int} (h : SoundS m xs d to s) (hx : ArcsIn m xs) {a : ArcD} (ha : a ∈ xs) : SoundS m xs d to (relaxS d s a) := by
  have hb := hx a ha
  refine ⟨by rw [relaxS_length]; exact h.1, fun v h0 h1 => ?_⟩
  have hv := h.2 v h0 h1
  unfold relaxS
  split
  · rename_i hc
    rw [at_set s a.f v _ (by omega) (by have := h.1; omega) h0]
    split
    · rename_i e
      subst e
      have ht := h.2 a.t (by omega) (by omega)
      refine ⟨by omega, by omega, .inr ?_⟩
      rcases ht.2.2 with e | ⟨k, e, hk⟩
      · omega
      · exact ⟨k + 1, by omega, .cons hk ha hc.1⟩
    · exact hv
  · exact hv
theorem SoundS.foldl {m : Int} {xs : List ArcD} {d : List Int} {to : Int} (hx : ArcsIn m xs) : ∀ (ys : List ArcD) (s : List Int), (∀ a ∈ ys, a ∈ xs) → SoundS m xs d to s → SoundS m xs d to (ys.foldl (relaxS d) s)
  | [], _, _, h => h
  | a :: ys, _, hy, h => SoundS.foldl hx ys _ (fun b hb => hy b (List.mem_cons_of_mem _ hb)) (h.relax hx (hy a List.mem_cons_self))
theorem SoundS.rounds {m : Int} {xs : List ArcD} {d : List Int} {to : Int} {s : List Int} (hx : ArcsIn m xs) (h : SoundS m xs d to s) : ∀ r, SoundS m xs d to (roundsS xs d s r)
  | 0 => h
  | r + 1 => SoundS.foldl hx xs _ (fun _ h => h) (SoundS.rounds hx h r)
theorem SoundS.start (m : Nat) (xs : List ArcD) (d : List Int) (to : Int) (hs : 0 ≤ to ∧ to < m) : SoundS m xs d to (start m to) := by
  refine ⟨by rw [start_length], fun v h0 h1 => ?_⟩
  rw [at_start m to v hs ⟨h0, h1⟩]
  split
  · rename_i e
    subst e
    exact ⟨by omega, by unfold farI; omega, .inr ⟨0, rfl, .nil⟩⟩
  · exact ⟨by unfold farI; omega, Int.le_refl _, .inl rfl⟩
theorem relaxS_le (d s : List Int) (a : ArcD) (v : Int) (ht : 0 ≤ a.f ∧ a.f.toNat < s.length) (hv : 0 ≤ v) : at_ (relaxS d s a) v ≤ at_ s v := by
  unfold relaxS
  split
  · rw [at_set s a.f v _ ht.1 ht.2 hv]
    split
    · rename_i h e; subst e; omega
    · exact Int.le_refl _
  · exact Int.le_refl _
theorem foldlS_le {m : Int} {xs : List ArcD} {d : List Int} (hx : ArcsIn m xs) (v : Int) (hv : 0 ≤ v) : ∀ (ys : List ArcD) (s : List Int), (∀ a ∈ ys, a ∈ xs) → (s.length : Int) = m → at_ (ys.foldl (relaxS d) s) v ≤ at_ s v
  | [], _, _, _ => Int.le_refl _
  | a :: ys, s, hy, hl => by
    have hb := hx a (hy a List.mem_cons_self)
    have h1 := foldlS_le (d := d) hx v hv ys (relaxS d s a) (fun b hb => hy b (List.mem_cons_of_mem _ hb)) (by rw [relaxS_length]; exact hl)
    have h2 := relaxS_le d s a v ⟨by omega, by omega⟩ hv
    show at_ (ys.foldl (relaxS d) (relaxS d s a)) v ≤ _
    omega
theorem roundS_arc {m : Int} {xs : List ArcD} {d : List Int} (hx : ArcsIn m xs) {b : ArcD} (k : Int) (hd : tightB d b = true) : ∀ (ys : List ArcD) (s : List Int), (∀ a ∈ ys, a ∈ xs) → (s.length : Int) = m → b ∈ ys → at_ s b.t ≤ k → at_ (ys.foldl (relaxS d) s) b.f ≤ k + 1
  | a :: ys, s, hy, hl, hb, hc => by
    have ha := hx a (hy a List.mem_cons_self)
    have hy' : ∀ c ∈ ys, c ∈ xs := fun c hc => hy c (List.mem_cons_of_mem _ hc)
    have hl' : ((relaxS d s a).length : Int) = m := by rw [relaxS_length]; exact hl
    rcases List.mem_cons.1 hb with rfl | hb
    · have h1 := foldlS_le (d := d) hx b.f (by omega) ys (relaxS d s b) hy' hl'
      have h2 : at_ (relaxS d s b) b.f ≤ k + 1 := by
        unfold relaxS
        split
        · rw [at_set s b.f b.f _ (by omega) (by omega) (by omega), if_pos rfl]; omega
        · rename_i h
          have : ¬ at_ s b.t + 1 < at_ s b.f := fun h' => h ⟨hd, h'⟩
          omega
      show at_ (ys.foldl (relaxS d) (relaxS d s b)) b.f ≤ _
      omega
    · have hbb := hx b (hy' b hb)
      have h1 := relaxS_le d s a b.t ⟨by omega, by omega⟩ (by omega)
      exact roundS_arc hx k hd ys (relaxS d s a) hy' hl' hb (by omega)
/-- After r rounds no tight way of r arcs has fewer. -/
theorem roundsS_tight {m : Nat} {xs : List ArcD} {d : List Int} {to : Int} (hx : ArcsIn m xs) (hs : 0 ≤ to ∧ to < m) : ∀ (r : Nat) {v : Int} {k : Nat}, Tight xs d to v k → k ≤ r → at_ (roundsS xs d (start m to) r) v ≤ k := by
  intro r
  have len : ∀ r, ((roundsS xs d (start m to) r).length : Int) = m := fun r => by rw [roundsS_length, start_length]
  induction r with
  | zero =>
    intro v k h hk
    cases h with
    | nil => show at_ (start m to) to ≤ _; rw [at_start m to to hs hs, if_pos rfl]; exact Int.le_refl _
    | cons _ _ _ => omega
  | succ r ih =>
    intro v k h hk
    cases h with
    | nil =>
      have h0 := ih (.nil : Tight xs d to to 0) (by omega)
      have := foldlS_le (d := d) hx to hs.1 xs (roundsS xs d (start m to) r) (fun _ h => h) (len r)
      show at_ (roundS xs d _) to ≤ _
      unfold roundS
      omega
    | @cons a k' h ha ht =>
      have h0 := ih h (by omega)
      have := roundS_arc hx (k' : Int) ht xs (roundsS xs d (start m to) r) (fun _ h => h) (len r) ha h0
      show at_ (roundS xs d _) a.f ≤ _
      unfold roundS
      omega

/-- What is known of the labels of the net turned round, with nothing open. -/
structure TreeL (m : Nat) (xs : List ArcD) (to : Int) (L : List LenD) : Prop where
  labs : Labs m (xs.map flip) to L
  opens : AllOpen m (xs.map flip) L []
  arcs : ArcsIn m xs
  node : 0 ≤ to ∧ to < m
  few : m ≤ 8

section
variable {m : Nat} {xs : List ArcD} {to : Int} {L : List LenD}

theorem arcsIn_flip {m : Int} {xs : List ArcD} (h : ArcsIn m xs) : ArcsIn m (xs.map flip) := fun a ha => by
  obtain ⟨b, hb, rfl⟩ := List.mem_map.1 ha
  have := h b hb
  simp only [flip]
  omega
theorem TreeL.back (h : TreeL m xs to L) : ArcsIn m (xs.map flip) := arcsIn_flip h.arcs
theorem TreeL.bound (h : TreeL m xs to L) (v : Int) (h0 : 0 ≤ v) (h1 : v < m) :
    0 ≤ (lab L v).x0 ∧ (lab L v).x0 ≤ farI ∧ 0 ≤ (lab L v).x1 ∧ (lab L v).x1 ≤ 7 ∧ (lab L v = farL ∨ (lab L v).x0 ≤ 11200) :=
  by
    have hb := h.labs.bound h.back h.node (by have := h.few; omega) v h0 h1
    have := h.few
    exact ⟨hb.1, hb.2.1, hb.2.2.1, by omega, hb.2.2.2.2⟩
theorem TreeL.near_at (h : TreeL m xs to L) (v : Int) (h0 : 0 ≤ v) (h1 : v < m) : at_ (nearL m (xs.map flip) to) v = (lab L v).x0 := by
  rw [← h.labs.near h.back h.node (by have := h.few; omega) h.opens]
  have : v.toNat < L.length := by have := h.labs.len; omega
  simp [Go.Proofs.Ytaojognjkiifmab.at_, lab, this]
/-- Over an arc it is no shorter. -/
theorem TreeL.arc (h : TreeL m xs to L) {a : ArcD} (ha : a ∈ xs) : lab L a.t = farL ∨ lessB (plusL (lab L a.t) a) (lab L a.f) = false := by
  have hb := h.arcs a ha
  rcases h.opens a.t (by omega) (by omega) with q | q | q
  · exact .inl q
  · simp at q
  · right
    have := q (flip a) (List.mem_map.2 ⟨a, ha, rfl⟩) rfl
    simpa [shorter, flip, plusL] using this
/-- What can be reached has an arc with which a shortest way begins. -/
theorem TreeL.first (h : TreeL m xs to L) (v : Int) (h0 : 0 ≤ v) (h1 : v < m) (hf : lab L v ≠ farL) : v = to ∨ ∃ a ∈ xs, a.f = v ∧ lab L a.t ≠ farL ∧ plusL (lab L a.t) a = lab L v := by
  obtain ⟨l, q1, q2, _⟩ := (h.labs.each v h0 h1).resolve_left hf
  generalize hc : (lab L v).x0 = c at q1
  cases q1 with
  | nil _ => exact .inl rfl
  | @snoc u c l a hh ha e hle =>
    right
    obtain ⟨b, hb, rfl⟩ := List.mem_map.1 ha
    have hbb := h.arcs b hb
    have e : b.t = u := e
    subst e
    have hhere := hh.here
    have hfar : lab L b.t ≠ farL := fun q => by
      have hcost := hh.way.cost h.back
      have hbd := h.bound b.f h0 h1
      rw [q, lessB_no] at hhere
      unfold farL farI at hhere
      simp only [flip] at hc
      rcases hbd.2.2.2.2 with q' | q'
      · exact hf q'
      · simp only [flip] at *
        omega
    refine ⟨b, hb, rfl, hfar, ?_⟩
    have harc := (h.arc hb).resolve_left hfar
    rw [lessB_no] at harc hhere
    have e2 : (lab L b.f).x1 = (l.length : Int) + 1 := by have q : (lab L b.f).x1 = ((b.t :: l).length : Int) := q2; simpa using q
    have e1 : (lab L b.f).x0 = c + b.c := hc
    simp only [plusL] at harc ⊢
    simp only at hhere
    have : (lab L b.t).x0 + b.c = (lab L b.f).x0 ∧ (lab L b.t).x1 + 1 = (lab L b.f).x1 := by omega
    show (⟨(lab L b.t).x0 + b.c, (lab L b.t).x1 + 1⟩ : LenD) = lab L b.f
    rw [this.1, this.2]
/-- Tight arcs lead from what can be reached to what can be reached. -/
theorem TreeL.tight (h : TreeL m xs to L) {a : ArcD} (ha : a ∈ xs) : tightB (nearL m (xs.map flip) to) a = true ↔ (lab L a.t).x0 < farI ∧ (lab L a.f).x0 = a.c + (lab L a.t).x0 := by
  have hb := h.arcs a ha
  rw [tightB_iff, h.near_at a.t (by omega) (by omega), h.near_at a.f (by omega) (by omega)]
theorem TreeL.lab_to (h : TreeL m xs to L) : lab L to = ⟨0, 0⟩ := h.labs.zero
/-- Shortest ways are tight. -/
theorem TreeL.has (h : TreeL m xs to L) : ∀ (k : Nat) (v : Int), 0 ≤ v → v < m → lab L v ≠ farL → (lab L v).x1 = k → Tight xs (nearL m (xs.map flip) to) to v k := by
  intro k
  induction k with
  | zero =>
    intro v h0 h1 hf hk
    rcases h.first v h0 h1 hf with rfl | ⟨a, ha, rfl, h2, h3⟩
    · exact .nil
    · have hb := h.arcs a ha
      have := h.bound a.t (by omega) (by omega)
      rw [← h3] at hk
      simp only [plusL] at hk
      omega
  | succ k ih =>
    intro v h0 h1 hf hk
    rcases h.first v h0 h1 hf with rfl | ⟨a, ha, rfl, h2, h3⟩
    · rw [h.lab_to] at hk
      simp at hk
      omega
    · have hb := h.arcs a ha
      have hbd := h.bound a.t (by omega) (by omega)
      have e1 : (lab L a.f).x0 = (lab L a.t).x0 + a.c := by rw [← h3]; rfl
      have e2 : (lab L a.f).x1 = (lab L a.t).x1 + 1 := by rw [← h3]; rfl
      refine .cons (ih a.t (by omega) (by omega) h2 (by omega)) ha ((h.tight ha).2 ⟨?_, by omega⟩)
      rcases hbd.2.2.2.2 with q | q
      · exact absurd q h2
      · unfold farI; omega
/-- No tight way has fewer arcs. -/
theorem TreeL.least (h : TreeL m xs to L) {v : Int} {k : Nat} (ht : Tight xs (nearL m (xs.map flip) to) to v k) : lab L v ≠ farL ∧ (lab L v).x1 ≤ k := by
  induction ht with
  | nil => rw [h.lab_to]; exact ⟨by unfold farL farI; simp, by simp⟩
  | @cons a k _ ha hc ih =>
    have hb := h.arcs a ha
    obtain ⟨c1, c2⟩ := (h.tight ha).1 hc
    have hbd := h.bound a.t (by omega) (by omega)
    have harc := (h.arc ha).resolve_left ih.1
    rw [lessB_no] at harc
    simp only [plusL] at harc
    have h6 : (lab L a.t).x0 ≤ 11200 := hbd.2.2.2.2.resolve_left ih.1
    constructor
    · intro e
      rw [e] at c2
      unfold farL farI at c2
      simp only at c2
      omega
    · omega
/-- The steps are the labels' arcs. -/
theorem TreeL.steps (h : TreeL m xs to L) (v : Int) (h0 : 0 ≤ v) (h1 : v < m) : at_ (stepsL m xs (nearL m (xs.map flip) to) to) v = if lab L v = farL then farI else (lab L v).x1 := by
  have hs := ((SoundS.start m xs (nearL m (xs.map flip) to) to h.node).rounds h.arcs m).2 v h0 h1
  unfold stepsL
  split
  · rename_i e
    rcases hs.2.2 with q | ⟨k, _, q⟩
    · exact q
    · exact absurd e (h.least q).1
  · rename_i e
    have hbd := h.bound v h0 h1
    have hl : (lab L v).x1 + 1 ≤ m := by
      obtain ⟨l, q1, q2, q3⟩ := (h.labs.each v h0 h1).resolve_left e
      have := q1.way.few h.back h.node q3
      omega
    obtain ⟨k, hk⟩ : ∃ k : Nat, (lab L v).x1 = k := ⟨(lab L v).x1.toNat, by omega⟩
    have hle := roundsS_tight h.arcs h.node m (h.has k v h0 h1 e hk) (by omega)
    rcases hs.2.2 with q | ⟨k', q1, q2⟩
    · unfold farI at q; omega
    · have := (h.least q2).2
      omega
/-- The arc with which the way goes on, as the one and as the other asks. -/
def goB (L : List LenD) (v : Int) (a : ArcD) : Bool := decide (a.f = v) && decide (plusL (lab L a.t) a = lab L v)
def goS (d s : List Int) (v : Int) (a : ArcD) : Bool := decide (a.f = v) && decide (at_ d a.t < farI) && decide (at_ d v = a.c + at_ d a.t) && decide (at_ s v = at_ s a.t + 1)
theorem TreeL.go (h : TreeL m xs to L) (v : Int) (h0 : 0 ≤ v) (h1 : v < m) {a : ArcD} (ha : a ∈ xs) : goS (nearL m (xs.map flip) to) (stepsL m xs (nearL m (xs.map flip) to) to) v a = goB L v a := by
  have hb := h.arcs a ha
  unfold goS goB
  by_cases hv : a.f = v
  · subst hv
    rw [h.near_at a.t (by omega) (by omega), h.near_at a.f h0 h1, h.steps a.t (by omega) (by omega), h.steps a.f h0 h1]
    have b1 := h.bound a.t (by omega) (by omega)
    have b2 := h.bound a.f h0 h1
    by_cases e1 : lab L a.t = farL
    · rw [e1]
      have n1 : ¬ (farL.x0 < farI) := by unfold farL; simp
      have n2 : plusL farL a ≠ lab L a.f := fun e => by
        have q1 : (lab L a.f).x0 = farI + a.c := by rw [← e]; rfl
        have q2 : (lab L a.f).x1 = 0 + 1 := by rw [← e]; rfl
        rcases b2.2.2.2.2 with q | q
        · rw [q] at q2; unfold farL at q2; simp at q2
        · unfold farI at q1; omega
      simp [n1, n2]
    · have c1 : (lab L a.t).x0 ≤ 11200 := b1.2.2.2.2.resolve_left e1
      have n1 : (lab L a.t).x0 < farI := by unfold farI; omega
      rw [if_neg e1]
      by_cases e2 : lab L a.f = farL
      · have n2 : ¬ ((lab L a.f).x0 = a.c + (lab L a.t).x0) := by rw [e2]; unfold farL farI; simp only; omega
        have n3 : plusL (lab L a.t) a ≠ lab L a.f := fun e => n2 (by rw [← e]; simp [plusL]; omega)
        simp [n2, n3]
      · rw [if_neg e2]
        have : (plusL (lab L a.t) a = lab L a.f) ↔ ((lab L a.f).x0 = a.c + (lab L a.t).x0 ∧ (lab L a.f).x1 = (lab L a.t).x1 + 1) := by
          constructor
          · intro e
            rw [← e]
            simp [plusL]
            omega
          · rintro ⟨q1, q2⟩
            show (⟨(lab L a.t).x0 + a.c, (lab L a.t).x1 + 1⟩ : LenD) = lab L a.f
            have q1' : (lab L a.t).x0 + a.c = (lab L a.f).x0 := by omega
            rw [q1', ← q2]
        simp [this, n1]
  · simp [hv]

/-- The first arc of which p holds, from number k on. -/
def firstAt (p : ArcD → Bool) : List ArcD → Nat → Int
  | [], _ => -1
  | a :: xs, k => if p a then (k : Int) else firstAt p xs (k + 1)
def firstI (p : ArcD → Bool) (xs : List ArcD) : Int := firstAt p xs 0
theorem firstAt_drop (p : ArcD → Bool) : ∀ (xs : List ArcD) (k : Nat), firstAt p xs k = match xs with | [] => -1 | a :: ys => if p a then (k : Int) else firstAt p ys (k + 1)
  | [], _ => rfl
  | _ :: _, _ => rfl
theorem firstAt_congr {p q : ArcD → Bool} : ∀ (xs : List ArcD) (k : Nat), (∀ a ∈ xs, p a = q a) → firstAt p xs k = firstAt q xs k
  | [], _, _ => rfl
  | a :: xs, k, h => by
    unfold firstAt
    rw [h a List.mem_cons_self, firstAt_congr xs (k + 1) (fun b hb => h b (List.mem_cons_of_mem _ hb))]
/-- None of the first k: the first is that of the rest. -/
theorem firstAt_skip (p : ArcD → Bool) : ∀ (xs : List ArcD) (j k : Nat), (∀ i a, i < j → xs[i]? = some a → p a = false) → firstAt p xs k = firstAt p (xs.drop j) (k + j)
  | xs, 0, k, _ => by simp
  | [], j + 1, k, _ => by simp [firstAt]
  | a :: xs, j + 1, k, h => by
    unfold firstAt
    rw [h 0 a (by omega) rfl, if_neg (by simp), firstAt_skip p xs j (k + 1) (fun i b hi hb => h (i + 1) b (by omega) (by simpa using hb))]
    simp only [List.drop_succ_cons]
    have : k + 1 + j = k + (j + 1) := by omega
    rw [this]
    cases xs.drop j <;> rfl
theorem firstI_here {p : ArcD → Bool} {xs : List ArcD} {j : Nat} {a : ArcD} (h : ∀ i b, i < j → xs[i]? = some b → p b = false) (ha : xs[j]? = some a) (hp : p a = true) : firstI p xs = j := by
  unfold firstI
  rw [firstAt_skip p xs j 0 h]
  have : xs.drop j = a :: xs.drop (j + 1) := by
    obtain ⟨hj, e⟩ := List.getElem?_eq_some_iff.1 ha
    rw [← e, List.drop_eq_getElem_cons hj]
  rw [this]
  unfold firstAt
  rw [if_pos hp]
  omega
theorem firstI_none {p : ArcD → Bool} {xs : List ArcD} (h : ∀ i a, i < xs.length → xs[i]? = some a → p a = false) : firstI p xs = -1 := by
  unfold firstI
  rw [firstAt_skip p xs xs.length 0 h]
  simp [firstAt]
/-- What firstI tells. -/
theorem firstI_some {p : ArcD → Bool} {xs : List ArcD} (h : ∃ a ∈ xs, p a = true) : ∃ (j : Nat) (a : ArcD), firstI p xs = j ∧ xs[j]? = some a ∧ p a = true ∧ ∀ i b, i < j → xs[i]? = some b → p b = false := by
  obtain ⟨a, ha, hp⟩ := h
  obtain ⟨i, hi⟩ := List.getElem?_of_mem ha
  have key : ∀ n : Nat, (∃ j : Nat, j ≤ n ∧ ∃ a, xs[j]? = some a ∧ p a = true) → ∃ (j : Nat) (a : ArcD), xs[j]? = some a ∧ p a = true ∧ ∀ (i : Nat) (b : ArcD), i < j → xs[i]? = some b → p b = false := by
    intro n
    induction n with
    | zero =>
      rintro ⟨j, hj, a, ha, hp⟩
      obtain rfl : j = 0 := by omega
      exact ⟨0, a, ha, hp, fun i b hi => absurd hi (by omega)⟩
    | succ n ih =>
      rintro ⟨j, hj, a, ha, hp⟩
      by_cases hex : ∃ j : Nat, j ≤ n ∧ ∃ a, xs[j]? = some a ∧ p a = true
      · exact ih hex
      · refine ⟨j, a, ha, hp, fun i b hi hb => ?_⟩
        cases hq : p b with
        | false => rfl
        | true => exact absurd ⟨i, by omega, b, hb, hq⟩ hex
  obtain ⟨j, a, h1, h2, h3⟩ := key i ⟨i, Nat.le_refl _, a, hi, hp⟩
  exact ⟨j, a, firstI_here h3 h1 h2, h1, h2, h3⟩

/-- The arc with which the best way to the node begins; -1, if there is none. -/
def treeI (xs : List ArcD) (L : List LenD) (v : Int) : Int := firstI (goB L v) xs
theorem TreeL.none (h : TreeL m xs to L) (v : Int) (hv : v = to ∨ lab L v = farL) : treeI xs L v = -1 := by
  refine firstI_none fun i a _ ha => ?_
  have hm := List.mem_of_getElem? ha
  have hb := h.arcs a hm
  have hbd := h.bound a.t (by omega) (by omega)
  cases hq : goB L v a with
  | false => rfl
  | true =>
    exfalso
    simp only [goB, Bool.and_eq_true, decide_eq_true_eq] at hq
    have e2 : (lab L v).x1 = (lab L a.t).x1 + 1 := by rw [← hq.2]; rfl
    rcases hv with rfl | hv
    · rw [h.lab_to] at e2; simp at e2; omega
    · rw [hv] at e2; unfold farL at e2; simp at e2; omega
theorem TreeL.some (h : TreeL m xs to L) (v : Int) (hv : v ≠ to) (hf : lab L v ≠ farL) (h0 : 0 ≤ v) (h1 : v < m) : ∃ (j : Nat) (a : ArcD), treeI xs L v = j ∧ xs[j]? = some a ∧ goB L v a = true ∧ lab L a.t ≠ farL ∧ (lab L v).x1 = (lab L a.t).x1 + 1 ∧ (lab L v).x0 = (lab L a.t).x0 + a.c ∧ a.f = v ∧ ∀ i b, i < j → xs[i]? = some b → goB L v b = false := by
  obtain ⟨a, ha, e, hq, hp⟩ := (h.first v h0 h1 hf).resolve_left hv
  obtain ⟨j, b, h2, h3, h4, h5⟩ := firstI_some (p := goB L v) (xs := xs) ⟨a, ha, by simp [goB, e, hp]⟩
  have hg := h4
  simp only [goB, Bool.and_eq_true, decide_eq_true_eq] at hg
  have hm := List.mem_of_getElem? h3
  have hb := h.arcs b hm
  have e2 : (lab L v).x1 = (lab L b.t).x1 + 1 := by rw [← hg.2]; rfl
  have e1 : (lab L v).x0 = (lab L b.t).x0 + b.c := by rw [← hg.2]; rfl
  refine ⟨j, b, h2, h3, h4, fun q => ?_, e2, e1, hg.1, h5⟩
  have := (h.bound v h0 h1).2.2.2.2.resolve_left hf
  rw [q] at e1
  unfold farL farI at e1
  simp only at e1
  omega

/-- The best way: so many arcs at most. -/
def wayI (xs : List ArcD) (L : List LenD) (to : Int) : Nat → Int → List Int
  | 0, _ => []
  | k + 1, v => if v = to then [] else treeI xs L v :: wayI xs L to k (match xs[(treeI xs L v).toNat]? with | Option.some a => a.t | Option.none => to)
theorem wayI_to (k : Nat) : wayI xs L to k to = [] := by cases k <;> simp [wayI]
theorem wayI_step {k : Nat} {v : Int} {j : Nat} {a : ArcD} (hv : v ≠ to) (hj : treeI xs L v = j) (ha : xs[j]? = Option.some a) : wayI xs L to (k + 1) v = (j : Int) :: wayI xs L to k a.t := by
  rw [wayI, if_neg hv, hj, Int.toNat_natCast, ha]
/-- The way from a node, as long as its label says. -/
def wayL (xs : List ArcD) (L : List LenD) (to v : Int) : List Int := wayI xs L to (lab L v).x1.toNat v
theorem TreeL.wayL_to (_h : TreeL m xs to L) : wayL xs L to to = [] := wayI_to _
theorem TreeL.wayL_step (h : TreeL m xs to L) {v : Int} (hv : v ≠ to) {j : Nat} {a : ArcD} (hj : treeI xs L v = j) (ha : xs[j]? = Option.some a) (he : (lab L v).x1 = (lab L a.t).x1 + 1) : wayL xs L to v = (j : Int) :: wayL xs L to a.t := by
  have hb := h.arcs a (List.mem_of_getElem? ha)
  have := h.bound a.t (by omega) (by omega)
  unfold wayL
  have e : (lab L v).x1.toNat = (lab L a.t).x1.toNat + 1 := by omega
  rw [e]
  exact wayI_step hv hj ha
end

end Go.Proofs.Ytaojognjkiifmab
