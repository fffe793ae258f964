/-
  Plain mathematics: labels with nothing open are there, and only once; the tree of first arcs and the best way by them. No program is named. No condition.
-/
import Derived.Test.YtaojognjkiifmabPTree
namespace Go.Proofs.Ytaojognjkiifmab

theorem labs_more {m : Int} {xs : List ArcD} {s : Int} (hx : ArcsIn m xs) (hs : 0 ≤ s ∧ s < m) (hm : m ≤ 8) : ∀ (q : Nat) (L : List LenD), ranks L ≤ q → Labs m xs s L → ∃ L', Labs m xs s L' ∧ AllOpen m xs L' [] := by
  intro q
  induction q with
  | zero =>
    intro L hq hl
    refine ⟨L, hl, fun v _ _ => ?_⟩
    by_cases hv : lab L v = farL
    · exact .inl hv
    · refine .inr (.inr fun a ha hf => ?_)
      cases hc : shorter L a with
      | false => rfl
      | true => have := ranks_step hl hx hs (by omega) ha (by rw [hf]; exact hv) hc; omega
  | succ q ih =>
    intro L hq hl
    by_cases h : ∃ a ∈ xs, lab L a.f ≠ farL ∧ shorter L a = true
    · obtain ⟨a, ha, hf, hc⟩ := h
      have := ranks_step hl hx hs (by omega) ha hf hc
      exact ih _ (by omega) (hl.step hx hs ha hf hc)
    · refine ⟨L, hl, fun v _ _ => ?_⟩
      by_cases hv : lab L v = farL
      · exact .inl hv
      · refine .inr (.inr fun a ha hf => ?_)
        cases hc : shorter L a with
        | false => rfl
        | true => exact absurd ⟨a, ha, by rw [hf]; exact hv, hc⟩ h

/-- The labels: cost, then arcs. -/
def labsOf (m : Nat) (xs : List ArcD) (to : Int) : List LenD :=
  (List.range m).map fun (v : Nat) => ⟨at_ (nearL m (xs.map flip) to) (v : Int), if at_ (nearL m (xs.map flip) to) (v : Int) = farI then 0 else at_ (stepsL m xs (nearL m (xs.map flip) to) to) (v : Int)⟩
theorem TreeL.eq {m : Nat} {xs : List ArcD} {to : Int} {L : List LenD} (h : TreeL m xs to L) : L = labsOf m xs to := by
  have hl : L.length = m := by have := h.labs.len; omega
  apply List.ext_getElem (by simp [labsOf, hl])
  intro i h1 h2
  have e : L[i] = lab L (i : Int) := by simp [lab, h1]
  have hi : i < m := by omega
  have ha := h.near_at (i : Int) (by omega) (by omega)
  have hs := h.steps (i : Int) (by omega) (by omega)
  have hb := h.bound (i : Int) (by omega) (by omega)
  rw [e]
  simp only [labsOf, List.getElem_map, List.getElem_range, ha, hs]
  by_cases hf : lab L (i : Int) = farL
  · rw [hf]
    simp [farL]
  · have h6 := hb.2.2.2.2.resolve_left hf
    have : ¬ (lab L (i : Int)).x0 = farI := by unfold farI; omega
    rw [if_neg this, if_neg hf]
theorem treeL_of {m : Nat} {xs : List ArcD} {to : Int} (hx : ArcsIn m xs) (hs : 0 ≤ to ∧ to < m) (hm : m ≤ 8) : TreeL m xs to (labsOf m xs to) := by
  obtain ⟨L, h1, h2⟩ := labs_more (arcsIn_flip hx) hs (by omega) _ _ (Nat.le_refl _) (labs_start m (xs.map flip) to hs)
  have h : TreeL m xs to L := ⟨h1, h2, hx, hs, hm⟩
  have e := h.eq
  rw [← e]
  exact h

/-- The tree of first arcs. -/
def treeM (m : Nat) (xs : List ArcD) (to : Int) : List Int := (List.range m).map fun (v : Nat) => treeI xs (labsOf m xs to) (v : Int)
theorem treeM_length (m : Nat) (xs : List ArcD) (to : Int) : (treeM m xs to).length = m := by simp [treeM]
theorem treeM_get (m : Nat) (xs : List ArcD) (to : Int) {v : Nat} (h : v < m) : (treeM m xs to)[v]? = some (treeI xs (labsOf m xs to) (v : Int)) := by simp [treeM, h]
/-- Whether there is a way, and the best one. -/
def farB (m : Nat) (xs : List ArcD) (to v : Int) : Bool := decide (lab (labsOf m xs to) v = farL)
def wayM (m : Nat) (xs : List ArcD) (v to : Int) : List Int := if farB m xs to v then [] else wayL xs (labsOf m xs to) to v
theorem TreeL.far {m : Nat} {xs : List ArcD} {to : Int} {L : List LenD} (h : TreeL m xs to L) (v : Int) (h0 : 0 ≤ v) (h1 : v < m) : lab L v = farL ↔ ¬ at_ (nearL m (xs.map flip) to) v < 99999 := by
  have hb := h.bound v h0 h1
  rw [h.near_at v h0 h1]
  constructor
  · intro e; rw [e]; unfold farL farI; simp
  · intro e
    rcases hb.2.2.2.2 with q | q
    · exact q
    · omega
theorem TreeL.way_len {m : Nat} {xs : List ArcD} {to : Int} {L : List LenD} (h : TreeL m xs to L) : ∀ (k : Nat) (v : Int), 0 ≤ v → v < m → lab L v ≠ farL → (lab L v).x1 = k → (wayL xs L to v).length = k := by
  intro k
  induction k with
  | zero =>
    intro v _ _ _ hk
    unfold wayL
    rw [hk]
    rfl
  | succ k ih =>
    intro v h0 h1 hf hk
    have hv : v ≠ to := fun e => by rw [e, h.lab_to] at hk; simp at hk; omega
    obtain ⟨j, a, e1, e2, _, e4, e5, _, _, _⟩ := h.some v hv hf h0 h1
    have hb := h.arcs a (List.mem_of_getElem? e2)
    rw [h.wayL_step hv e1 e2 e5, List.length_cons, ih a.t (by omega) (by omega) e4 (by omega)]
theorem TreeL.way_few {m : Nat} {xs : List ArcD} {to : Int} {L : List LenD} (h : TreeL m xs to L) (v : Int) (h0 : 0 ≤ v) (h1 : v < m) (hf : lab L v ≠ farL) : (wayL xs L to v).length ≤ 7 := by
  have hb := h.bound v h0 h1
  rw [h.way_len (lab L v).x1.toNat v h0 h1 hf (by omega)]
  omega
/-- A way begins with the tree's arc. -/
theorem TreeL.head {m : Nat} {xs : List ArcD} {to : Int} {L : List LenD} (h : TreeL m xs to L) (v : Int) (h0 : 0 ≤ v) (h1 : v < m) : treeI xs L v = match (if lab L v = farL then [] else wayL xs L to v) with | [] => -1 | z :: _ => z := by
  by_cases hf : lab L v = farL
  · rw [if_pos hf, h.none v (.inr hf)]
  · rw [if_neg hf]
    by_cases hv : v = to
    · subst hv
      rw [h.wayL_to, h.none v (.inl rfl)]
    · obtain ⟨j, a, e1, e2, _, e4, e5, _, _, _⟩ := h.some v hv hf h0 h1
      rw [h.wayL_step hv e1 e2 e5, e1]

end Go.Proofs.Ytaojognjkiifmab
