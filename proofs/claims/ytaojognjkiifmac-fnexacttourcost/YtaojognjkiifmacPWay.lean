/-
  Plain mathematics: ways put together; over a third node it is no nearer. No program is named. No condition.
-/
import Derived.Test.YtaojognjkiifmacPNear
namespace Go.Proofs.Ytaojognjkiifmac

theorem getElem_at (d : List Int) (i : Nat) (h : i < d.length) : d[i]? = some (at_ d (i : Int)) := by simp [at_, h]
theorem Way.join {xs : List ArcD} {s u v c c' : Int} {l l' : List Int} (h : Way xs s u c l) (k : Way xs u v c' l') : ∃ l'', Way xs s v (c + c') l'' := by
  induction k with
  | nil => exact ⟨l, by rw [Int.add_zero]; exact h⟩
  | @snoc x c' l' a _ ha e ih =>
    obtain ⟨l'', h2⟩ := ih
    exact ⟨_, by have := Way.snoc h2 ha e; rw [Int.add_assoc] at this; exact this⟩
theorem near_over {m : Nat} {xs : List ArcD} {s u v : Int} (hm : m ≤ 17) (hx : ArcsIn m xs) (hs : 0 ≤ s ∧ s < m) (hu : 0 ≤ u ∧ u < m) (hv : 0 ≤ v ∧ v < m)
    (h1 : at_ (nearL m xs s) u < farI) (h2 : at_ (nearL m xs u) v < farI) : at_ (nearL m xs s) v ≤ at_ (nearL m xs s) u + at_ (nearL m xs u) v := by
  obtain ⟨l1, w1⟩ := ((nearL_sound hx hs).2 u hu.1 hu.2).2.resolve_left (by omega)
  obtain ⟨l2, w2⟩ := ((nearL_sound hx hu).2 v hv.1 hv.2).2.resolve_left (by omega)
  obtain ⟨l3, w3⟩ := w1.join w2
  exact nearL_le hm hx hs w3
theorem nearL_bound {m : Nat} {xs : List ArcD} {s v : Int} (hx : ArcsIn m xs) (hs : 0 ≤ s ∧ s < m) (hv : 0 ≤ v ∧ v < m) : 0 ≤ at_ (nearL m xs s) v ∧ at_ (nearL m xs s) v ≤ farI := by
  obtain ⟨h1, h2⟩ := (nearL_sound hx hs).2 v hv.1 hv.2
  refine ⟨?_, h1⟩
  rcases h2 with e | ⟨l, h⟩
  · rw [e]; unfold farI; omega
  · exact (h.cost hx).1
/-- What is reached has an arc that leads there, or is where one begins. -/
theorem nearL_last {m : Nat} {xs : List ArcD} {s v : Int} (hm : m ≤ 17) (hx : ArcsIn m xs) (hs : 0 ≤ s ∧ s < m) (hv : 0 ≤ v ∧ v < m) (h : at_ (nearL m xs s) v < farI) : v = s ∨ ∃ a ∈ xs, a.t = v ∧ at_ (nearL m xs s) a.f < farI ∧ at_ (nearL m xs s) v = at_ (nearL m xs s) a.f + a.c := by
  obtain ⟨l, w⟩ := ((nearL_sound hx hs).2 v hv.1 hv.2).2.resolve_left (by omega)
  generalize hc : at_ (nearL m xs s) v = c at w
  cases w with
  | nil => exact .inl rfl
  | @snoc u c l a w ha e =>
    right
    subst e
    have hb := hx a ha
    have h1 := nearL_le hm hx hs w
    have hlt : at_ (nearL m xs s) a.f < farI := by omega
    obtain ⟨l2, w2⟩ := ((nearL_sound hx hs).2 a.f (by omega) (by omega)).2.resolve_left (by omega)
    have h3 := nearL_le hm hx hs (.snoc w2 ha rfl)
    exact ⟨a, ha, rfl, hlt, by omega⟩
/-- No arc makes anything nearer. -/
theorem nearL_arc {m : Nat} {xs : List ArcD} {s : Int} (hm : m ≤ 17) (hx : ArcsIn m xs) (hs : 0 ≤ s ∧ s < m) {a : ArcD} (ha : a ∈ xs) (h : at_ (nearL m xs s) a.f < farI) : at_ (nearL m xs s) a.t ≤ at_ (nearL m xs s) a.f + a.c := by
  have hb := hx a ha
  obtain ⟨l, w⟩ := ((nearL_sound hx hs).2 a.f (by omega) (by omega)).2.resolve_left (by omega)
  exact nearL_le hm hx hs (.snoc w ha rfl)
theorem nearL_start {m : Nat} {xs : List ArcD} {s : Int} (hm : m ≤ 17) (hx : ArcsIn m xs) (hs : 0 ≤ s ∧ s < m) : at_ (nearL m xs s) s = 0 := by
  have h1 := nearL_le hm hx hs (.nil : Way xs s s 0 [])
  have h2 := (nearL_bound hx hs hs).1
  omega

end Go.Proofs.Ytaojognjkiifmac
