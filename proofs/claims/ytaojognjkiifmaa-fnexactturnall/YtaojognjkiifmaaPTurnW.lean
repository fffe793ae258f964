/-
  Plain mathematics: walks with their turns, and what it costs at least where turns cost. No program is named. No condition.
-/
import Derived.Test.YtaojognjkiifmaaPTAll2
import Derived.Test.YtaojognjkiifmaaPTurn3
import Derived.Test.YtaojognjkiifmaaPMark
namespace Go.Proofs.Ytaojognjkiifmaa

/-- A walk with its turns, from s: the number of the last arc, and what it has cost. -/
inductive TW (xs : List ArcD) (ts : List TurnD) (s : Int) : Nat → Int → Prop
  | one {j : Nat} {b : ArcD} : xs[j]? = some b → b.f = s → TW xs ts s j b.c
  | more {i k : Nat} {a b : ArcD} {c : Int} : TW xs ts s i c → xs[i]? = some a → xs[k]? = some b → a.t = b.f → 0 ≤ costF ts i k → TW xs ts s k (c + (costF ts i k + b.c))

section
variable {m : Int} {xs : List ArcD} {ts : List TurnD} {s : Int}
theorem TW.has {j : Nat} {c : Int} (h : TW xs ts s j c) : ∃ b, xs[j]? = some b := by
  cases h with
  | one h _ => exact ⟨_, h⟩
  | more _ _ h _ _ => exact ⟨_, h⟩
theorem rowL_has {i j : Nat} {a : ArcD} (h : a ∈ lineArc xs ts i j) : ∀ k, j < k → a ∈ rowL xs ts i k
  | 0, hk => by omega
  | k + 1, hk => by
    simp only [rowL, List.mem_append]
    by_cases e : j = k
    · subst e; exact .inr h
    · exact .inl (rowL_has h k (by omega))
theorem lineTo_has {n i j : Nat} {a : ArcD} (h : a ∈ lineArc xs ts i j) (hj : j < n) : ∀ k, i < k → a ∈ lineTo xs ts n k
  | 0, hk => by omega
  | k + 1, hk => by
    simp only [lineTo, List.mem_append]
    by_cases e : i = k
    · subst e; exact .inr (rowL_has h n hj)
    · exact .inl (lineTo_has h hj k (by omega))
theorem lineArc_link {i k : Nat} {a : ArcD} (h : a ∈ lineArc xs ts i k) : ∃ x b, xs[i]? = some x ∧ xs[k]? = some b ∧ x.t = b.f ∧ 0 ≤ costF ts i k ∧ a = ⟨i, k, costF ts i k + b.c, 0, 9⟩ := by
  unfold lineArc at h
  split at h
  · rename_i x b hx hb
    split at h
    · rename_i hc
      exact ⟨x, b, hx, hb, hc.1, hc.2, by simpa using h⟩
    · simp at h
  · simp at h
/-- A way over the arcs' own arcs is a walk with its turns. -/
theorem way_tw {v c : Int} {l : List Int} (h : Way (turnArcs xs ts s) (xs.length : Int) v c l) : (v = xs.length ∧ c = 0) ∨ ∃ j : Nat, v = j ∧ TW xs ts s j c := by
  induction h with
  | nil => exact .inl ⟨rfl, rfl⟩
  | @snoc u c l a _ ha e ih =>
    right
    rcases List.mem_append.1 ha with ha | ha
    · obtain ⟨i, j, ha⟩ := lineTo_mem _ ha
      obtain ⟨x, b, h1, h2, h3, h4, rfl⟩ := lineArc_link ha
      simp only at e ⊢
      have hi := (List.getElem?_eq_some_iff.1 h1).1
      rcases ih with ⟨e1, _⟩ | ⟨i', e1, ht⟩
      · omega
      · obtain rfl : i = i' := by omega
        exact ⟨j, rfl, .more ht h1 h2 h3 h4⟩
    · obtain ⟨j, b, _, h2, h3, rfl⟩ := extra_mem _ ha
      simp only at e ⊢
      rcases ih with ⟨_, e2⟩ | ⟨i', e1, ht⟩
      · exact ⟨j, rfl, by rw [e2, Int.zero_add]; exact .one h2 h3⟩
      · obtain ⟨b', hb'⟩ := ht.has
        have := (List.getElem?_eq_some_iff.1 hb').1
        omega
theorem TW.way {j : Nat} {c : Int} (h : TW xs ts s j c) : ∃ l, Way (turnArcs xs ts s) (xs.length : Int) (j : Int) c l := by
  induction h with
  | @one j b h1 h2 =>
    have hj := (List.getElem?_eq_some_iff.1 h1).1
    have := Way.snoc (xs := turnArcs xs ts s) (s := (xs.length : Int)) .nil (a := ⟨(xs.length : Int), (j : Int), b.c, 0, 0⟩) (List.mem_append_right _ (extra_has h1 h2 _ hj)) rfl
    rw [Int.zero_add] at this
    exact ⟨_, this⟩
  | @more i k a b c _ h1 h2 h3 h4 ih =>
    obtain ⟨l, w⟩ := ih
    have hi := (List.getElem?_eq_some_iff.1 h1).1
    have hk := (List.getElem?_eq_some_iff.1 h2).1
    exact ⟨_, .snoc w (a := ⟨(i : Int), (k : Int), costF ts i k + b.c, 0, 9⟩) (List.mem_append_left _ (lineTo_has (i := i) (j := k) (by rw [lineArc_hit h1 h2 h3 h4]; simp) hk _ hi)) rfl⟩

/-- No walk with its turns costs less than what is told of its last arc. -/
theorem arcsL_le (hT : turnsB m xs ts = true) {j : Nat} {c : Int} (h : TW xs ts s j c) : at_ (arcsL xs ts s) (j : Int) ≤ c ∧ at_ (arcsL xs ts s) (j : Int) < farI := by
  have hN := (turnsB_all hT).1
  have hB := (turnsB_all hT).2.2.1
  have h16 := ((netB_iff _ _).1 hN).2.1
  have hx := turnArcs_in (xs := xs) (ts := ts) s hN hB
  obtain ⟨b, hb⟩ := h.has
  have hj := (List.getElem?_eq_some_iff.1 hb).1
  obtain ⟨l, w⟩ := h.way
  have hs : (0 : Int) ≤ (xs.length : Int) ∧ (xs.length : Int) < ((xs.length + 1 : Nat) : Int) := by omega
  have e : at_ (arcsL xs ts s) (j : Int) = at_ (nearL (xs.length + 1) (turnArcs xs ts s) (xs.length : Int)) (j : Int) := by
    rw [arcs_near hN hB, at_app (by omega) (by rw [arcsL_length]; omega)]
  rw [e]
  obtain ⟨c2, l2, h1, h2, _, h4⟩ := w.simple hx
  have hf := h1.few hx hs h4
  have hc := h1.cost hx
  have := nearL_le (by omega) hx hs h1
  unfold farI
  omega
/-- What is told of an arc is far, or what a walk with its turns costs. -/
theorem arcsL_is (hT : turnsB m xs ts = true) {j : Nat} (hj : j < xs.length) : 0 ≤ at_ (arcsL xs ts s) (j : Int) ∧ (at_ (arcsL xs ts s) (j : Int) = farI ∨ TW xs ts s j (at_ (arcsL xs ts s) (j : Int))) := by
  have hN := (turnsB_all hT).1
  have hB := (turnsB_all hT).2.2.1
  have h16 := ((netB_iff _ _).1 hN).2.1
  have hx := turnArcs_in (xs := xs) (ts := ts) s hN hB
  have hs : (0 : Int) ≤ (xs.length : Int) ∧ (xs.length : Int) < ((xs.length + 1 : Nat) : Int) := by omega
  have e : at_ (arcsL xs ts s) (j : Int) = at_ (nearL (xs.length + 1) (turnArcs xs ts s) (xs.length : Int)) (j : Int) := by
    rw [arcs_near hN hB, at_app (by omega) (by rw [arcsL_length]; omega)]
  have hb := nearL_bound hx hs (v := (j : Int)) (by omega)
  rw [e]
  refine ⟨hb.1, ?_⟩
  rcases ((nearL_sound hx hs).2 (j : Int) (by omega) (by omega)).2 with h | ⟨l, w⟩
  · exact .inl h
  · right
    rcases way_tw w with ⟨e1, _⟩ | ⟨i, e1, ht⟩
    · omega
    · obtain rfl : j = i := by omega
      exact ht

/-- The least of the arcs that lead there. -/
theorem into_fact {d o : List Int} (hx : ∀ a ∈ xs, 0 ≤ a.t ∧ a.t.toNat < o.length) (v : Int) (hv : 0 ≤ v) : ∀ k, k ≤ xs.length → (∀ j b, j < k → xs[j]? = some b → b.t = v → at_ (intoTo xs d o k) v ≤ at_ d (j : Int)) ∧ at_ (intoTo xs d o k) v ≤ at_ o v ∧ (at_ (intoTo xs d o k) v = at_ o v ∨ ∃ j b, j < k ∧ xs[j]? = some b ∧ b.t = v ∧ at_ (intoTo xs d o k) v = at_ d (j : Int))
  | 0, _ => ⟨fun j b h => by omega, Int.le_refl _, .inl rfl⟩
  | k + 1, hk => by
    obtain ⟨h1, h2, h3⟩ := into_fact hx v hv (d := d) k (by omega)
    obtain ⟨a, ha⟩ : ∃ a, xs[k]? = some a := ⟨_, List.getElem?_eq_getElem (show k < xs.length by omega)⟩
    have hb := hx a (List.mem_of_getElem? ha)
    rw [intoTo_next ha]
    split
    · rename_i hlt
      rw [at_set _ _ _ _ hb.1 (by rw [intoTo_length]; exact hb.2) hv]
      split
      · rename_i e
        subst e
        refine ⟨fun j b hj hjb hbt => ?_, by omega, .inr ⟨k, a, by omega, ha, rfl, rfl⟩⟩
        by_cases e : j = k
        · subst e; exact Int.le_refl _
        · have := h1 j b (by omega) hjb hbt; omega
      · rename_i e
        refine ⟨fun j b hj hjb hbt => ?_, h2, ?_⟩
        · by_cases e' : j = k
          · subst e'; rw [ha] at hjb; injection hjb with hjb; subst hjb; exact absurd hbt.symm e
          · exact h1 j b (by omega) hjb hbt
        · rcases h3 with h3 | ⟨j, b, g1, g2, g3, g4⟩
          · exact .inl h3
          · exact .inr ⟨j, b, by omega, g2, g3, g4⟩
    · rename_i hlt
      refine ⟨fun j b hj hjb hbt => ?_, h2, ?_⟩
      · by_cases e' : j = k
        · subst e'; rw [ha] at hjb; injection hjb with hjb; subst hjb; subst hbt; omega
        · exact h1 j b (by omega) hjb hbt
      · rcases h3 with h3 | ⟨j, b, g1, g2, g3, g4⟩
        · exact .inl h3
        · exact .inr ⟨j, b, by omega, g2, g3, g4⟩

variable {M : Nat}
theorem tall_fact (hT : turnsB (M : Int) xs ts = true) (hs : 0 ≤ s ∧ s < M) {v : Int} (hv : 0 ≤ v ∧ v < M) : (∀ (j : Nat) (b : ArcD), xs[j]? = some b → b.t = v → at_ (tallL M xs ts s) v ≤ at_ (arcsL xs ts s) (j : Int)) ∧ at_ (tallL M xs ts s) v ≤ (if v = s then 0 else farI) ∧ (at_ (tallL M xs ts s) v = (if v = s then 0 else farI) ∨ ∃ (j : Nat) (b : ArcD), xs[j]? = some b ∧ b.t = v ∧ at_ (tallL M xs ts s) v = at_ (arcsL xs ts s) (j : Int)) := by
  have hx := arcsIn_net (turnsB_all hT).1
  have h := into_fact (xs := xs) (d := arcsL xs ts s) (o := start M s) (fun a ha => by have := hx a ha; rw [start_length]; omega) v hv.1 xs.length (Nat.le_refl _)
  rw [at_start M s v hs hv] at h
  refine ⟨fun j b hj hb => h.1 j b (List.getElem?_eq_some_iff.1 hj).1 hj hb, h.2.1, ?_⟩
  rcases h.2.2 with h3 | ⟨j, b, _, g2, g3, g4⟩
  · exact .inl h3
  · exact .inr ⟨j, b, g2, g3, g4⟩
theorem tall_bound (hT : turnsB (M : Int) xs ts = true) (hs : 0 ≤ s ∧ s < M) {v : Int} (hv : 0 ≤ v ∧ v < M) : 0 ≤ at_ (tallL M xs ts s) v ∧ at_ (tallL M xs ts s) v ≤ farI := by
  obtain ⟨_, h2, h3⟩ := tall_fact hT hs hv
  constructor
  · rcases h3 with h | ⟨j, b, g2, _, g4⟩
    · rw [h]; split
      · omega
      · unfold farI; omega
    · rw [g4]; exact (arcsL_is hT (List.getElem?_eq_some_iff.1 g2).1).1
  · split at h2
    · unfold farI; omega
    · exact h2
theorem tall_start (hT : turnsB (M : Int) xs ts = true) (hs : 0 ≤ s ∧ s < M) : at_ (tallL M xs ts s) s = 0 := by
  have h1 := (tall_fact hT hs hs).2.1
  have h2 := (tall_bound hT hs hs).1
  rw [if_pos rfl] at h1
  omega
/-- No walk with its turns costs less. -/
theorem tall_le (hT : turnsB (M : Int) xs ts = true) (hs : 0 ≤ s ∧ s < M) {j : Nat} {b : ArcD} {c : Int} (hb : xs[j]? = some b) (h : TW xs ts s j c) : at_ (tallL M xs ts s) b.t ≤ c ∧ at_ (tallL M xs ts s) b.t < farI := by
  have hbd := arcsIn_net (turnsB_all hT).1 b (List.mem_of_getElem? hb)
  have h1 := (tall_fact hT hs (v := b.t) (by omega)).1 j b hb rfl
  have h2 := arcsL_le hT h
  omega
/-- What is told is far, nothing, or what a walk with its turns costs. -/
theorem tall_is (hT : turnsB (M : Int) xs ts = true) (hs : 0 ≤ s ∧ s < M) {v : Int} (hv : 0 ≤ v ∧ v < M) (hf : at_ (tallL M xs ts s) v < farI) : v = s ∨ ∃ (j : Nat) (b : ArcD), xs[j]? = some b ∧ b.t = v ∧ TW xs ts s j (at_ (tallL M xs ts s) v) := by
  obtain ⟨_, _, h3⟩ := tall_fact hT hs hv
  by_cases e : v = s
  · exact .inl e
  · right
    rw [if_neg e] at h3
    rcases h3 with h | ⟨j, b, g2, g3, g4⟩
    · omega
    · refine ⟨j, b, g2, g3, ?_⟩
      rcases (arcsL_is hT (s := s) (List.getElem?_eq_some_iff.1 g2).1).2 with h | h
      · omega
      · rw [g4]; exact h

/-- Without its turns a walk costs no more. -/
theorem TW.plain {j : Nat} {b : ArcD} {c : Int} (h : TW xs ts s j c) (hb : xs[j]? = some b) : ∃ c2 l, Way xs s b.t c2 l ∧ c2 ≤ c := by
  induction h generalizing b with
  | @one j b' h1 h2 =>
    rw [h1] at hb
    injection hb with hb
    subst hb
    have := Way.snoc (xs := xs) (s := s) .nil (List.mem_of_getElem? h1) h2
    rw [Int.zero_add] at this
    exact ⟨_, _, this, Int.le_refl _⟩
  | @more i k a b' c _ h1 h2 h3 h4 ih =>
    rw [h2] at hb
    injection hb with hb
    subst hb
    obtain ⟨c2, l, w, hc⟩ := ih h1
    exact ⟨_, _, .snoc w (List.mem_of_getElem? h2) h3.symm, by omega⟩
/-- Where turns cost nothing is nearer. -/
theorem tall_near (hT : turnsB (M : Int) xs ts = true) (hs : 0 ≤ s ∧ s < M) {v : Int} (hv : 0 ≤ v ∧ v < M) : at_ (nearL M xs s) v ≤ at_ (tallL M xs ts s) v := by
  have hN := (turnsB_all hT).1
  have hM := ((netB_iff _ _).1 hN).1
  have hx := arcsIn_net hN
  have hb := nearL_bound hx hs hv
  by_cases hf : at_ (tallL M xs ts s) v < farI
  · rcases tall_is hT hs hv hf with e | ⟨j, b, g2, g3, g4⟩
    · subst e
      have := nearL_start (by omega) hx hs
      have := (tall_bound hT hs hs).1
      omega
    · obtain ⟨c2, l, w, hc⟩ := g4.plain g2
      rw [g3] at w
      have := nearL_le (by omega) hx hs w
      omega
  · omega
theorem costF_nil (a b : Int) : costF [] a b = 0 := rfl
/-- Without turns the walk of a way. -/
theorem way_none {v c : Int} {l : List Int} (h : Way xs s v c l) : (v = s ∧ c = 0) ∨ ∃ (j : Nat) (b : ArcD), xs[j]? = some b ∧ b.t = v ∧ TW xs [] s j c := by
  induction h with
  | nil => exact .inl ⟨rfl, rfl⟩
  | @snoc u c l a _ ha e ih =>
    right
    obtain ⟨k, hk⟩ := List.getElem?_of_mem ha
    refine ⟨k, a, hk, rfl, ?_⟩
    rcases ih with ⟨e1, e2⟩ | ⟨i, b, g1, g2, g3⟩
    · rw [e2, Int.zero_add]
      exact .one hk (by omega)
    · have := TW.more g3 g1 hk (by omega) (by rw [costF_nil]; omega)
      rw [costF_nil, Int.zero_add] at this
      exact this
theorem TW.none {j : Nat} {b : ArcD} {c : Int} (h : TW xs [] s j c) (hb : xs[j]? = some b) : ∃ l, Way xs s b.t c l := by
  induction h generalizing b with
  | @one j b' h1 h2 =>
    rw [h1] at hb
    injection hb with hb
    subst hb
    have := Way.snoc (xs := xs) (s := s) .nil (List.mem_of_getElem? h1) h2
    rw [Int.zero_add] at this
    exact ⟨_, this⟩
  | @more i k a b' c _ h1 h2 h3 h4 ih =>
    rw [h2] at hb
    injection hb with hb
    subst hb
    obtain ⟨l, w⟩ := ih h1
    have := Way.snoc w (List.mem_of_getElem? h2) h3.symm
    rw [costF_nil, Int.zero_add]
    exact ⟨_, this⟩
/-- Without turns all is as near. -/
theorem tall_none (hN : netB (M : Int) xs = true) (hs : 0 ≤ s ∧ s < M) : tallL M xs [] s = nearL M xs s := by
  have hT : turnsB (M : Int) xs [] = true := by rw [turnsB_nil]; exact hN
  have hM := ((netB_iff _ _).1 hN).1
  have hx := arcsIn_net hN
  refine nearL_unique (by omega) hx hs ⟨by rw [tallL_length], fun v h0 h1 => ?_⟩ (fun {v c l} w => ?_)
  · have hb := tall_bound hT hs ⟨h0, h1⟩
    refine ⟨hb.2, ?_⟩
    by_cases hf : at_ (tallL M xs [] s) v < farI
    · right
      rcases tall_is hT hs ⟨h0, h1⟩ hf with e | ⟨j, b, g2, g3, g4⟩
      · subst e
        rw [tall_start hT hs]
        exact ⟨[], .nil⟩
      · obtain ⟨l, w⟩ := g4.none g2
        rw [g3] at w
        exact ⟨l, w⟩
    · left; omega
  · rcases way_none w with ⟨e1, e2⟩ | ⟨j, b, g1, g2, g3⟩
    · rw [e1, e2, tall_start hT hs]; exact Int.le_refl _
    · have := (tall_le hT hs g1 g3).1
      rw [g2] at this
      exact this
theorem tallI_none (m : Int) (xs : List ArcD) (s : Int) : tallI m xs [] s = nearI m xs s := by
  unfold tallI nearI
  have e : theretB m xs [] s = hereB m xs s := by rw [theretB, turnsB_nil, hereB]
  rw [e]
  split
  · rename_i h
    obtain ⟨hN, h0, h1⟩ := (hereB_iff _ _ _).1 h
    obtain ⟨M, rfl, _, _⟩ := here_nat hN
    rw [Int.toNat_natCast]
    exact tall_none hN ⟨h0, h1⟩
  · rfl
end

end Go.Proofs.Ytaojognjkiifmaa
