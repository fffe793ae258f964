/-
  Stops, and what a tour costs (plain). No condition.
-/
import Derived.Test.YtaojognjkiifmacPShare
import Derived.Test.YtaojognjkiifmacPWay
namespace Go.Proofs.Ytaojognjkiifmac

def stopAt (ys : List Int) (k : Nat) : Int := (ys[k]?).getD 0
theorem stopAt_of {ys : List Int} {k : Nat} {y : Int} (h : ys[k]? = some y) : stopAt ys k = y := by simp [stopAt, h]
/-- The stop k is a node that was not told before. -/
def stopB (m : Int) (ys : List Int) (k : Nat) : Bool := inB (stopAt ys k) 0 (m - 1) && !(inL (ys.take k) (stopAt ys k))
def stopsB (m : Int) (ys : List Int) : Bool := (List.range ys.length).all (stopB m ys) && inB (ys.length : Int) 1 5
def StopTo (m : Int) (ys : List Int) (k : Nat) : Prop := ∀ j, j < k → stopB m ys j = true
theorem StopTo.next {m : Int} {ys : List Int} {k : Nat} (h : StopTo m ys k) (hk : stopB m ys k = true) : StopTo m ys (k + 1) := fun j hj => by
  rcases Nat.lt_or_ge j k with hlt | hge
  · exact h j hlt
  · obtain rfl : j = k := by omega
    exact hk
theorem StopTo.end_ {m : Int} {ys : List Int} (h : StopTo m ys ys.length) : stopsB m ys = inB (ys.length : Int) 1 5 := by
  have : (List.range ys.length).all (stopB m ys) = true := by simp only [List.all_eq_true, List.mem_range]; exact h
  rw [stopsB, this, Bool.true_and]
theorem stopsB_bad {m : Int} {ys : List Int} {k : Nat} (hk : k < ys.length) (h : stopB m ys k = false) : stopsB m ys = false := by
  rw [Bool.eq_false_iff]
  intro h'
  rw [stopsB, Bool.and_eq_true, List.all_eq_true] at h'
  have := h'.1 k (List.mem_range.2 hk)
  rw [h] at this
  cases this
theorem stopB_of {m : Int} {ys : List Int} {k : Nat} {y : Int} (h : ys[k]? = some y) : stopB m ys k = (inB y 0 (m - 1) && !(inL (ys.take k) y)) := by rw [stopB, stopAt_of h]
theorem stopsB_iff (m : Int) (ys : List Int) : stopsB m ys = true ↔ (∀ k, k < ys.length → stopB m ys k = true) ∧ 1 ≤ ys.length ∧ ys.length ≤ 5 := by
  rw [stopsB, Bool.and_eq_true, inB_iff]
  simp only [List.all_eq_true, List.mem_range]
  exact ⟨fun ⟨a, b, c⟩ => ⟨a, by omega, by omega⟩, fun ⟨a, b, c⟩ => ⟨a, by omega, by omega⟩⟩
/-- Stops that are ok are nodes, each once: no more is asked. -/
theorem stops_nodup {m : Int} {ys : List Int} : (∀ k, k < ys.length → stopB m ys k = true) ↔ (∀ y ∈ ys, inB y 0 (m - 1) = true) ∧ ys.Nodup := by
  constructor
  · intro h
    refine ⟨fun y hy => ?_, ?_⟩
    · obtain ⟨k, hk, rfl⟩ := List.getElem_of_mem hy
      have := h k hk
      rw [stopB_of (List.getElem?_eq_getElem hk), Bool.and_eq_true] at this
      exact this.1
    · rw [List.nodup_iff_pairwise_ne, List.pairwise_iff_getElem]
      intro i j hi hj hij e
      have := h j hj
      rw [stopB_of (List.getElem?_eq_getElem hj), Bool.and_eq_true, Bool.not_eq_true', inL_no] at this
      apply this.2
      rw [← e]
      exact List.mem_of_getElem? (i := i) (by rw [List.getElem?_take_of_lt hij]; exact List.getElem?_eq_getElem hi)
  · rintro ⟨h1, h2⟩ k hk
    rw [stopB_of (List.getElem?_eq_getElem hk), Bool.and_eq_true, Bool.not_eq_true', inL_no]
    refine ⟨h1 _ (List.getElem_mem hk), fun hm => ?_⟩
    obtain ⟨i, hi⟩ := List.mem_iff_getElem?.1 hm
    have hik : i < k := by
      have := (List.getElem?_eq_some_iff.1 hi).1
      rw [List.length_take] at this
      omega
    rw [List.getElem?_take_of_lt hik, List.getElem?_eq_getElem (by omega)] at hi
    injection hi with hi
    rw [List.nodup_iff_pairwise_ne, List.pairwise_iff_getElem] at h2
    exact h2 i k (by omega) hk hik hi

/-- What it costs from the stop k to the next, and from the last to the first. -/
def legI (M : Nat) (xs : List ArcD) (ys : List Int) (k : Nat) : Int := at_ (nearL M xs (stopAt ys k)) (stopAt ys ((k + 1) % ys.length))
def legsTo (M : Nat) (xs : List ArcD) (ys : List Int) : Nat → Int
  | 0 => 0
  | k + 1 => legsTo M xs ys k + legI M xs ys k
def legFar (M : Nat) (xs : List ArcD) (ys : List Int) : Bool := (List.range ys.length).any fun k => decide (99999 ≤ legI M xs ys k)
def tcB (m : Int) (xs : List ArcD) (ys : List Int) : Bool := netB m xs && stopsB m ys
def sumI (M : Nat) (xs : List ArcD) (ys : List Int) : Int := if legFar M xs ys then 99999 else legsTo M xs ys ys.length
def tcostI (m : Int) (xs : List ArcD) (ys : List Int) : Int := if tcB m xs ys then sumI m.toNat xs ys else -1
theorem tcostI_no {m : Int} {xs : List ArcD} {ys : List Int} (h : tcB m xs ys = false) : tcostI m xs ys = -1 := by rw [tcostI, h]; rfl
def NearTo_ (M : Nat) (xs : List ArcD) (ys : List Int) (k : Nat) : Prop := ∀ j, j < k → legI M xs ys j < 99999
theorem NearTo_.next {M : Nat} {xs : List ArcD} {ys : List Int} {k : Nat} (h : NearTo_ M xs ys k) (hk : legI M xs ys k < 99999) : NearTo_ M xs ys (k + 1) := fun j hj => by
  rcases Nat.lt_or_ge j k with hlt | hge
  · exact h j hlt
  · obtain rfl : j = k := by omega
    exact hk
theorem sumI_far {M : Nat} {xs : List ArcD} {ys : List Int} {k : Nat} (hk : k < ys.length) (h : 99999 ≤ legI M xs ys k) : sumI M xs ys = 99999 := by
  have : legFar M xs ys = true := by rw [legFar, List.any_eq_true]; exact ⟨k, List.mem_range.2 hk, by simpa using h⟩
  rw [sumI, this]; rfl
theorem sumI_near {M : Nat} {xs : List ArcD} {ys : List Int} (h : NearTo_ M xs ys ys.length) : sumI M xs ys = legsTo M xs ys ys.length := by
  have : legFar M xs ys = false := by
    rw [Bool.eq_false_iff]
    intro h'
    rw [legFar, List.any_eq_true] at h'
    obtain ⟨k, hk, hk2⟩ := h'
    have h1 := h k (List.mem_range.1 hk)
    have h2 := of_decide_eq_true hk2
    omega
  rw [sumI, this]; rfl
theorem leg_bd {M : Nat} {xs : List ArcD} {ys : List Int} {k : Nat} (hx : ArcsIn M xs) (hy : ∀ y ∈ ys, 0 ≤ y ∧ y < M) (hk : k < ys.length) : 0 ≤ legI M xs ys k ∧ legI M xs ys k ≤ 99999 := by
  have hm : (k + 1) % ys.length < ys.length := Nat.mod_lt _ (by omega)
  have a : 0 ≤ stopAt ys k ∧ stopAt ys k < M := by rw [stopAt_of (List.getElem?_eq_getElem hk)]; exact hy _ (List.getElem_mem hk)
  have b : 0 ≤ stopAt ys ((k + 1) % ys.length) ∧ stopAt ys ((k + 1) % ys.length) < M := by rw [stopAt_of (List.getElem?_eq_getElem hm)]; exact hy _ (List.getElem_mem hm)
  exact nearL_bound hx a b
theorem legs_bd {M : Nat} {xs : List ArcD} {ys : List Int} (hx : ArcsIn M xs) (hy : ∀ y ∈ ys, 0 ≤ y ∧ y < M) : ∀ k, k ≤ ys.length → 0 ≤ legsTo M xs ys k ∧ legsTo M xs ys k ≤ 99999 * (k : Int)
  | 0, _ => by simp [legsTo]
  | k + 1, hk => by
    have ih := legs_bd hx hy k (by omega)
    have h := leg_bd hx hy (k := k) (by omega)
    rw [legsTo]
    push_cast
    omega
theorem stops_in {m : Int} {ys : List Int} (h : stopsB m ys = true) : ∀ y ∈ ys, 0 ≤ y ∧ y < m := fun y hy => by
  have := (inB_iff _ _ _).1 ((stops_nodup.1 ((stopsB_iff m ys).1 h).1).1 y hy)
  omega
end Go.Proofs.Ytaojognjkiifmac
