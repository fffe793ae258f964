/-
  Parts of a net: which nodes have arcs to or from other parts, how many arcs are between parts. Plain. No condition.
-/
import Derived.Test.YtaojognjkiifmacPNear
namespace Go.Proofs.Ytaojognjkiifmac

/-- Of a net that is ok each node has a part. -/
def partB (m : Int) (xs : List ArcD) (ps : List Int) : Bool := netB m xs && (decide ((ps.length : Int) = m) && ps.all (fun z => inB z 0 3))

theorem partB_iff (m : Int) (xs : List ArcD) (ps : List Int) : partB m xs ps = true ↔ netB m xs = true ∧ (ps.length : Int) = m ∧ ps.all (fun z => inB z 0 3) = true := by
  simp only [partB, Bool.and_eq_true, decide_eq_true_eq]

/-- An arc leads into another part. -/
def crossB (ps : List Int) (a : ArcD) : Bool := decide (at_ ps a.f ≠ at_ ps a.t)
/-- An arc between parts begins or ends at a node. -/
def hitA (ps : List Int) (a : ArcD) (v : Int) : Bool := (decide (a.f = v) || decide (a.t = v)) && crossB ps a
/-- A node has such an arc. -/
def edgeB (ps : List Int) (xs : List ArcD) (v : Int) : Bool := xs.any (fun a => hitA ps a v)
def edgesTo (ps : List Int) (xs : List ArcD) (k : Nat) : List Int := ((List.range k).map (fun (v : Nat) => (v : Int))).filter (edgeB ps xs)
def edgesI (m : Int) (xs : List ArcD) (ps : List Int) : List Int := if partB m xs ps then edgesTo ps xs m.toNat else []
def cutI (m : Int) (xs : List ArcD) (ps : List Int) : Int := if partB m xs ps then ((xs.countP (crossB ps) : Nat) : Int) else -1

theorem edgesTo_next (ps : List Int) (xs : List ArcD) (k : Nat) : edgesTo ps xs (k + 1) = edgesTo ps xs k ++ (if edgeB ps xs (k : Int) then [(k : Int)] else []) := by
  unfold edgesTo
  rw [List.range_succ, List.map_append, List.filter_append]
  congr 1
  by_cases h : edgeB ps xs (k : Int) <;> simp [h]

theorem edgesTo_len (ps : List Int) (xs : List ArcD) (k : Nat) : (edgesTo ps xs k).length ≤ k := by
  unfold edgesTo
  refine Nat.le_trans (List.length_filter_le _ _) ?_
  simp

theorem edgesI_len (m : Int) (xs : List ArcD) (ps : List Int) : (edgesI m xs ps).length ≤ 1048576 := by
  unfold edgesI
  split
  · rename_i h
    obtain ⟨h1, _⟩ := (partB_iff _ _ _).1 h
    have h2 := edgesTo_len ps xs m.toNat
    have h3 := ((netB_iff _ _).1 h1).1
    omega
  · simp

theorem edgesTo_mem (ps : List Int) (xs : List ArcD) (k : Nat) (v : Int) : v ∈ edgesTo ps xs k ↔ (0 ≤ v ∧ v < k) ∧ edgeB ps xs v = true := by
  simp only [edgesTo, List.mem_filter, List.mem_map, List.mem_range]
  constructor
  · rintro ⟨⟨a, ha, rfl⟩, h⟩
    exact ⟨by omega, h⟩
  · rintro ⟨⟨h0, h1⟩, h⟩
    exact ⟨⟨v.toNat, by omega, by omega⟩, h⟩

theorem edgesTo_sorted (ps : List Int) (xs : List ArcD) (k : Nat) : (edgesTo ps xs k).Pairwise (· < ·) := by
  unfold edgesTo
  refine List.Pairwise.filter _ ?_
  rw [List.pairwise_map]
  exact List.Pairwise.imp (fun h => by omega) List.pairwise_lt_range

/-- The ends of the arcs between parts, one arc behind the other. -/
def endsOf (ps : List Int) (xs : List ArcD) : List Int := xs.flatMap fun a => if crossB ps a then [a.f, a.t] else []

theorem endsOf_next {ps : List Int} {xs : List ArcD} {k : Nat} {a : ArcD} (h : xs[k]? = some a) : endsOf ps (xs.take (k + 1)) = endsOf ps (xs.take k) ++ (if crossB ps a then [a.f, a.t] else []) := by
  rw [List.take_add_one, h]
  simp [endsOf]

theorem endsOf_len (ps : List Int) (xs : List ArcD) : (endsOf ps xs).length ≤ 2 * xs.length := by
  induction xs with
  | nil => simp [endsOf]
  | cons a r ih =>
    have : endsOf ps (a :: r) = (if crossB ps a then [a.f, a.t] else []) ++ endsOf ps r := by simp [endsOf]
    rw [this, List.length_append, List.length_cons]
    split <;> simp <;> omega

theorem endsOf_mem (ps : List Int) (xs : List ArcD) (v : Int) : v ∈ endsOf ps xs ↔ edgeB ps xs v = true := by
  simp only [endsOf, edgeB, hitA, List.mem_flatMap, List.any_eq_true, Bool.and_eq_true, Bool.or_eq_true, decide_eq_true_eq]
  constructor
  · rintro ⟨a, ha, h⟩
    cases hc : crossB ps a with
    | false => rw [hc] at h; simp at h
    | true =>
      rw [hc] at h
      simp at h
      exact ⟨a, ha, by rcases h with h | h <;> simp [h], hc⟩
  · rintro ⟨a, ha, h, hc⟩
    refine ⟨a, ha, ?_⟩
    rw [hc]
    simp
    rcases h with h | h <;> simp [h]

/-- Two lists that rise and have the same members are one. -/
theorem rising_eq : ∀ (us vs : List Int), us.Pairwise (· < ·) → vs.Pairwise (· < ·) → (∀ v, v ∈ us ↔ v ∈ vs) → us = vs
  | [], [], _, _, _ => rfl
  | [], b :: vs, _, _, h => by have := (h b).2 (by simp); simp at this
  | a :: us, [], _, _, h => by have := (h a).1 (by simp); simp at this
  | a :: us, b :: vs, ha, hb, h => by
    rw [List.pairwise_cons] at ha hb
    have e : a = b := by
      have h1 := (h a).1 (by simp)
      have h2 := (h b).2 (by simp)
      rw [List.mem_cons] at h1 h2
      rcases h1 with h1 | h1
      · exact h1
      · rcases h2 with h2 | h2
        · exact h2.symm
        · have := ha.1 b h2
          have := hb.1 a h1
          omega
    subst e
    congr 1
    refine rising_eq us vs ha.2 hb.2 fun v => ?_
    have := h v
    rw [List.mem_cons, List.mem_cons] at this
    constructor
    · intro hv
      rcases this.1 (.inr hv) with rfl | h
      · exact absurd (ha.1 _ hv) (by omega)
      · exact h
    · intro hv
      rcases this.2 (.inr hv) with rfl | h
      · exact absurd (hb.1 _ hv) (by omega)
      · exact h

end Go.Proofs.Ytaojognjkiifmac
