/-
  Rows of lengths and of what is open, of the call's own: read and written in place; what a swap and a pop leave of a list. No condition.
-/
import Derived.Laws.OwnMore
import Derived.Test.YtaojognjkiifmacPLab
import Derived.Test.YtaojognjkiifmacMarkB
namespace Go.Proofs.Ytaojognjkiifmac
open Go.RowKit

def cellsLen : List LenD → List Value
  | [] => []
  | a :: xs => .int .i64 a.x0 :: .int .i64 a.x1 :: cellsLen xs
theorem cellsLen_append (a b : List LenD) : cellsLen (a ++ b) = cellsLen a ++ cellsLen b := by
  induction a with
  | nil => rfl
  | cons x a ih => simp [cellsLen, ih]
theorem cellsLen_length (xs : List LenD) : (cellsLen xs).length = xs.length * 2 := by
  induction xs with
  | nil => rfl
  | cons x a ih => simp [cellsLen, ih]; omega
theorem cellsLen_get (xs : List LenD) : ∀ j a, xs[j]? = some a → (cellsLen xs)[j * 2]? = some (.int .i64 a.x0) ∧ (cellsLen xs)[j * 2 + 1]? = some (.int .i64 a.x1) := by
  induction xs with
  | nil => intro j a h; simp at h
  | cons b xs ih =>
    intro j a h
    cases j with
    | zero => simp at h; subst h; simp [cellsLen]
    | succ j =>
      have := ih j a (by simpa using h)
      rw [show (j + 1) * 2 = j * 2 + 1 + 1 by omega]
      simpa [cellsLen] using this
theorem cellsLen_set (xs : List LenD) : ∀ j a, cellsLen (xs.set j a) = ((cellsLen xs).set (j * 2) (.int .i64 a.x0)).set (j * 2 + 1) (.int .i64 a.x1) := by
  induction xs with
  | nil => intro j a; simp [cellsLen]
  | cons b xs ih =>
    intro j a
    cases j with
    | zero => simp [cellsLen]
    | succ j =>
      rw [show (j + 1) * 2 = j * 2 + 1 + 1 by omega]
      simp [cellsLen, ih]
theorem cellsLen_one (xs : List LenD) : ∀ u ∈ cellsLen xs, u.oneCell' = true := by
  induction xs with
  | nil => simp [cellsLen]
  | cons x a ih =>
    intro u hu
    simp only [cellsLen, List.mem_cons] at hu
    rcases hu with rfl | rfl | hu
    all_goals first | rfl | exact ih u hu

def cellsOpen : List OpenD → List Value
  | [] => []
  | a :: xs => .int .i64 a.x0 :: .int .i64 a.x1 :: .int .i64 a.x2 :: cellsOpen xs
theorem cellsOpen_append (a b : List OpenD) : cellsOpen (a ++ b) = cellsOpen a ++ cellsOpen b := by
  induction a with
  | nil => rfl
  | cons x a ih => simp [cellsOpen, ih]
theorem cellsOpen_length (xs : List OpenD) : (cellsOpen xs).length = xs.length * 3 := by
  induction xs with
  | nil => rfl
  | cons x a ih => simp [cellsOpen, ih]; omega
theorem cellsOpen_get (xs : List OpenD) : ∀ j a, xs[j]? = some a → (cellsOpen xs)[j * 3]? = some (.int .i64 a.x0) ∧ (cellsOpen xs)[j * 3 + 1]? = some (.int .i64 a.x1) ∧ (cellsOpen xs)[j * 3 + 2]? = some (.int .i64 a.x2) := by
  induction xs with
  | nil => intro j a h; simp at h
  | cons b xs ih =>
    intro j a h
    cases j with
    | zero => simp at h; subst h; simp [cellsOpen]
    | succ j =>
      have := ih j a (by simpa using h)
      rw [show (j + 1) * 3 = j * 3 + 1 + 1 + 1 by omega]
      simpa [cellsOpen] using this
theorem cellsOpen_set (xs : List OpenD) : ∀ j a, cellsOpen (xs.set j a) = (((cellsOpen xs).set (j * 3) (.int .i64 a.x0)).set (j * 3 + 1) (.int .i64 a.x1)).set (j * 3 + 2) (.int .i64 a.x2) := by
  induction xs with
  | nil => intro j a; simp [cellsOpen]
  | cons b xs ih =>
    intro j a
    cases j with
    | zero => simp [cellsOpen]
    | succ j =>
      rw [show (j + 1) * 3 = j * 3 + 1 + 1 + 1 by omega]
      simp [cellsOpen, ih]

def RowLen (w : World) (lo : Nat) (v : Value) (L : List LenD) : Prop := w.ownsRow lo 105 2 v L.length (cellsLen L)
def RowOpen (w : World) (lo : Nat) (v : Value) (H : List OpenD) : Prop := w.ownsRow lo 113 3 v H.length (cellsOpen H)

theorem RowLen.get {w : World} {lo g cap n j : Nat} {L : List LenD} {a : LenD} (h : RowLen w lo (.slice (some ⟨g, 0, none⟩) n cap) L) (hn : L.length = n) (hj : L[j]? = some a) :
    w.cell? ⟨g, j * 2, none⟩ = some (.int .i64 a.x0) ∧ w.cell? ⟨g, j * 2 + 1, none⟩ = some (.int .i64 a.x1) := by
  have hlt := (List.getElem?_eq_some_iff.1 hj).1
  have hc := cellsLen_get L j a hj
  unfold RowLen at h
  rw [hn] at h hlt
  exact ⟨(h.cellAt _ (by omega)).trans hc.1, (h.cellAt _ (by omega)).trans hc.2⟩
theorem RowLen.put {w : World} {lo g cap n : Nat} {L : List LenD} (h : RowLen w lo (.slice (some ⟨g, 0, none⟩) n cap) L) (hn : L.length = n) (j : Nat) (x0 x1 : Int) :
    RowLen ((w.setCell ⟨g, j * 2, none⟩ (.int .i64 x0)).setCell ⟨g, j * 2 + 1, none⟩ (.int .i64 x1)) lo (.slice (some ⟨g, 0, none⟩) n cap) (L.set j ⟨x0, x1⟩) ∧
      w.grownBy ((w.setCell ⟨g, j * 2, none⟩ (.int .i64 x0)).setCell ⟨g, j * 2 + 1, none⟩ (.int .i64 x1)) (some g) := by
  unfold RowLen at *
  rw [hn] at h
  obtain ⟨h1, g1⟩ := h.stored (j * 2) (.int .i64 x0)
  obtain ⟨h2, g2⟩ := h1.stored (j * 2 + 1) (.int .i64 x1)
  refine ⟨?_, grown_trans g1 g2⟩
  rw [List.length_set, hn, cellsLen_set]
  exact h2
theorem RowOpen.get {w : World} {lo g cap n j : Nat} {H : List OpenD} {a : OpenD} (h : RowOpen w lo (.slice (some ⟨g, 0, none⟩) n cap) H) (hn : H.length = n) (hj : H[j]? = some a) :
    w.cell? ⟨g, j * 3, none⟩ = some (.int .i64 a.x0) ∧ w.cell? ⟨g, j * 3 + 1, none⟩ = some (.int .i64 a.x1) ∧ w.cell? ⟨g, j * 3 + 2, none⟩ = some (.int .i64 a.x2) := by
  have hlt := (List.getElem?_eq_some_iff.1 hj).1
  have hc := cellsOpen_get H j a hj
  unfold RowOpen at h
  rw [hn] at h hlt
  exact ⟨(h.cellAt _ (by omega)).trans hc.1, (h.cellAt _ (by omega)).trans hc.2.1, (h.cellAt _ (by omega)).trans hc.2.2⟩
theorem RowOpen.put {w : World} {lo g cap n : Nat} {H : List OpenD} (h : RowOpen w lo (.slice (some ⟨g, 0, none⟩) n cap) H) (hn : H.length = n) (j : Nat) (x0 x1 x2 : Int) :
    RowOpen (((w.setCell ⟨g, j * 3, none⟩ (.int .i64 x0)).setCell ⟨g, j * 3 + 1, none⟩ (.int .i64 x1)).setCell ⟨g, j * 3 + 2, none⟩ (.int .i64 x2)) lo (.slice (some ⟨g, 0, none⟩) n cap) (H.set j ⟨x0, x1, x2⟩) ∧
      w.grownBy (((w.setCell ⟨g, j * 3, none⟩ (.int .i64 x0)).setCell ⟨g, j * 3 + 1, none⟩ (.int .i64 x1)).setCell ⟨g, j * 3 + 2, none⟩ (.int .i64 x2)) (some g) := by
  unfold RowOpen at *
  rw [hn] at h
  obtain ⟨h1, g1⟩ := h.stored (j * 3) (.int .i64 x0)
  obtain ⟨h2, g2⟩ := h1.stored (j * 3 + 1) (.int .i64 x1)
  obtain ⟨h3, g3⟩ := h2.stored (j * 3 + 2) (.int .i64 x2)
  refine ⟨?_, grown_trans g1 (grown_trans g2 g3)⟩
  rw [List.length_set, hn, cellsOpen_set]
  exact h3
theorem RowOpen.frozen {w : World} {lo g cap n : Nat} {H : List OpenD} (h : RowOpen w lo (.slice (some ⟨g, 0, none⟩) n cap) H) (hn : H.length = n) (j : Nat) : w.frozen? ⟨g, j, none⟩ = false := by
  unfold RowOpen at h
  rw [hn] at h
  exact h.frozenAt j
theorem RowLen.frozen {w : World} {lo g cap n : Nat} {L : List LenD} (h : RowLen w lo (.slice (some ⟨g, 0, none⟩) n cap) L) (hn : L.length = n) (j : Nat) : w.frozen? ⟨g, j, none⟩ = false := by
  unfold RowLen at h
  rw [hn] at h
  exact h.frozenAt j
/-- The last one is dropped. -/
theorem RowOpen.drop {w : World} {lo g cap n : Nat} {H : List OpenD} (h : RowOpen w lo (.slice (some ⟨g, 0, none⟩) (n + 1) cap) H) (hn : H.length = n + 1) : RowOpen w lo (.slice (some ⟨g, 0, none⟩) n cap) (H.take n) := by
  unfold RowOpen at *
  rw [hn] at h
  obtain ⟨h1, h2⟩ := h
  have hl : (H.take n).length = n := by rw [List.length_take]; omega
  rcases h2 with ⟨h0, _⟩ | ⟨g', cap', cur, hv, hg, hh, hc, hcap, hsz, htake⟩
  · cases h0
  · cases hv
    rw [hl]
    refine ⟨by rw [cellsOpen_length, hl], .inr ⟨g, cap, cur, rfl, hg, hh, by omega, hcap, hsz, ?_⟩⟩
    have h3 : (cur.toList.take ((n + 1) * 3)).take (n * 3) = (cellsOpen H).take (n * 3) := by rw [htake]
    rw [List.take_take, Nat.min_eq_left (by omega)] at h3
    rw [h3]
    have h4 : cellsOpen H = cellsOpen (H.take n) ++ cellsOpen (H.drop n) := by rw [← cellsOpen_append, List.take_append_drop]
    have h5 : (cellsOpen (H.take n)).length = n * 3 := by rw [cellsOpen_length, hl]
    rw [h4, ← h5, List.take_left']
    rfl

/-- What two that change places leave. -/
theorem swap_mem {α : Type} {H : List α} {i p : Nat} {a b : α} (hi : H[i]? = some a) (hp : H[p]? = some b) (x : α) : x ∈ (H.set i b).set p a ↔ x ∈ H := by
  have li := (List.getElem?_eq_some_iff.1 hi).1
  have lp := (List.getElem?_eq_some_iff.1 hp).1
  constructor
  · intro h
    obtain ⟨k, hk⟩ := List.getElem?_of_mem h
    rw [List.getElem?_set] at hk
    split at hk
    · split at hk
      · injection hk with hk; subst hk; exact List.mem_of_getElem? hi
      · cases hk
    · rw [List.getElem?_set] at hk
      by_cases e : i = k
      · rw [if_pos e, if_pos li] at hk
        injection hk with hk
        subst hk
        exact List.mem_of_getElem? hp
      · rw [if_neg e] at hk
        exact List.mem_of_getElem? hk
  · intro h
    obtain ⟨k, hk⟩ := List.getElem?_of_mem h
    by_cases e1 : k = i
    · subst e1
      rw [hi] at hk
      injection hk with hk
      subst hk
      exact List.mem_of_getElem? (i := p) (by rw [List.getElem?_set, if_pos rfl, if_pos (by simpa using lp)])
    · by_cases e2 : k = p
      · subst e2
        rw [hp] at hk
        injection hk with hk
        subst hk
        exact List.mem_of_getElem? (i := i) (by rw [List.getElem?_set, if_neg e1, List.getElem?_set, if_pos rfl, if_pos li])
      · exact List.mem_of_getElem? (i := k) (by rw [List.getElem?_set, if_neg (by omega), List.getElem?_set, if_neg (by omega)]; exact hk)

/-- What is left where the last takes the first one's place. -/
theorem pop_mem {α : Type} {H : List α} {n : Nat} {a b : α} (hl : H.length = n + 1) (h0 : H[0]? = some a) (hn : H[n]? = some b) (x : α) : x ∈ H ↔ x = a ∨ x ∈ (H.set 0 b).take n := by
  constructor
  · intro h
    obtain ⟨k, hk⟩ := List.getElem?_of_mem h
    have hlt := (List.getElem?_eq_some_iff.1 hk).1
    by_cases e0 : k = 0
    · subst e0
      rw [h0] at hk
      injection hk with hk
      exact .inl hk.symm
    · by_cases e1 : k = n
      · subst e1
        rw [hn] at hk
        injection hk with hk
        subst hk
        refine .inr (List.mem_of_getElem? (i := 0) ?_)
        rw [List.getElem?_take, if_pos (by omega), List.getElem?_set, if_pos rfl, if_pos (by omega)]
      · refine .inr (List.mem_of_getElem? (i := k) ?_)
        rw [List.getElem?_take, if_pos (by omega), List.getElem?_set, if_neg (by omega)]
        exact hk
  · rintro (rfl | h)
    · exact List.mem_of_getElem? h0
    · obtain ⟨k, hk⟩ := List.getElem?_of_mem h
      rw [List.getElem?_take] at hk
      split at hk
      · rw [List.getElem?_set] at hk
        split at hk
        · split at hk
          · injection hk with hk; subst hk; exact List.mem_of_getElem? hn
          · cases hk
        · exact List.mem_of_getElem? hk
      · cases hk

/-- The arcs with these numbers have nothing to do; all others are as they should be. -/
def PreOpen (m : Int) (xs : List ArcD) (L : List LenD) (H : List OpenD) (v : Int) (pre : List Int) : Prop :=
  (∀ j ∈ pre, ∀ a, xs[j.toNat]? = some a → shorter L a = false) ∧ ∀ u, 0 ≤ u → u < m → u ≠ v → lab L u = farL ∨ item u (lab L u) ∈ H ∨ Done L xs u
theorem AllOpen.takePre {m : Int} {xs : List ArcD} {L : List LenD} {H H' : List OpenD} {t : OpenD} (h : AllOpen m xs L H) (hp : ∀ x, x ∈ H ↔ x = t ∨ x ∈ H') : PreOpen m xs L H' t.x0 [] :=
  ⟨fun j hj => by simp at hj, (h.take hp).2⟩
theorem PreOpen.skip {m : Int} {xs : List ArcD} {L : List LenD} {H : List OpenD} {v : Int} {pre : List Int} {k : Nat} {a : ArcD} (h : PreOpen m xs L H v pre) (ha : xs[k]? = some a) (hn : shorter L a = false) : PreOpen m xs L H v (pre ++ [(k : Int)]) :=
  ⟨fun j hj b hb => by
    rcases List.mem_append.1 hj with hj | hj
    · exact h.1 j hj b hb
    · simp at hj
      subst hj
      rw [Int.toNat_natCast, ha] at hb
      injection hb with hb
      subst hb
      exact hn, h.2⟩
theorem PreOpen.push {m : Int} {xs : List ArcD} {L : List LenD} {H H' : List OpenD} {v : Int} {pre : List Int} {k : Nat} {a : ArcD} (h : PreOpen m xs L H v pre) (hpre : ∀ j ∈ pre, ∀ b, xs[j.toNat]? = some b → b.f = v) (hl : (L.length : Int) = m) (hx : ArcsIn m xs) (ha : xs[k]? = some a) (hf : a.f = v) (hne : a.f ≠ a.t) (hc : shorter L a = true)
    (hp : ∀ x, x ∈ H' ↔ x = item a.t (plusL (lab L a.f) a) ∨ x ∈ H) : PreOpen m xs (setL L a) H' v (pre ++ [(k : Int)]) := by
  have hm := List.mem_of_getElem? ha
  have hM : MidOpen m xs L H v 0 := ⟨fun j a hj => absurd hj (by omega), h.2⟩
  have ga := hx a hm
  have ls := fun u (h0 : 0 ≤ u) => lab_set L a.t u (plusL (lab L a.f) a) (by omega) (by omega) h0
  refine ⟨fun j hj b hb => ?_, fun u h0 h1 hu => ?_⟩
  · rcases List.mem_append.1 hj with hj | hj
    · exact shorter_still hl hx hm (List.mem_of_getElem? hb) hc (by rw [hpre j hj b hb, ← hf]; exact hne) (h.1 j hj b hb)
    · simp at hj
      subst hj
      rw [Int.toNat_natCast, ha] at hb
      injection hb with hb
      subst hb
      unfold shorter setL
      rw [ls a.f (by omega), if_neg hne, ls a.t (by omega), if_pos rfl, lessB_no]
      omega
  · by_cases e : u = a.t
    · subst e
      right; left
      rw [hp]
      left
      unfold setL
      rw [ls a.t (by omega), if_pos rfl]
    · have e2 : lab (setL L a) u = lab L u := by unfold setL; rw [ls u h0, if_neg e]
      rw [e2]
      rcases h.2 u h0 h1 hu with q | q | q
      · exact .inl q
      · exact .inr (.inl ((hp _).2 (.inr q)))
      · exact .inr (.inr fun b hb hbf => shorter_still hl hx hm hb hc (by rw [hbf]; exact e) (q b hb hbf))
theorem PreOpen.all {m : Int} {xs : List ArcD} {L : List LenD} {H : List OpenD} {v : Int} {pre : List Int} (h : PreOpen m xs L H v pre) (hall : ∀ (k : Nat) a, xs[k]? = some a → a.f = v → (k : Int) ∈ pre) : AllOpen m xs L H := fun u h0 h1 => by
  by_cases e : u = v
  · subst e
    refine .inr (.inr fun a ha hf => ?_)
    obtain ⟨j, hj⟩ := List.getElem?_of_mem ha
    exact h.1 _ (hall j a hj hf) a (by simpa using hj)
  · exact h.2 u h0 h1 e

end Go.Proofs.Ytaojognjkiifmac
