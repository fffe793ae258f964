/-
  Plain mathematics of loads: the arcs over which so much may go, and the most that may go from a node to each. No program is named. No condition.
-/
import Derived.Test.YtaojognjkiifmabNear
import Derived.Test.YtaojognjkiifmabPWay
namespace Go.Proofs.Ytaojognjkiifmab

/-- The arcs over which so much may go. -/
def forL (xs : List ArcD) (load : Int) : List ArcD := xs.filter fun a => decide (load ≤ a.d)
theorem mem_forL {xs : List ArcD} {load : Int} {a : ArcD} : a ∈ forL xs load ↔ a ∈ xs ∧ load ≤ a.d := by simp [forL, List.mem_filter]
theorem forL_len (xs : List ArcD) (load : Int) : (forL xs load).length ≤ xs.length := List.length_filter_le _ _
theorem forL_in {m : Int} {xs : List ArcD} (h : ArcsIn m xs) (load : Int) : ArcsIn m (forL xs load) := fun a ha => h a (mem_forL.1 ha).1
theorem forL_net {m : Int} {xs : List ArcD} (h : netB m xs = true) (load : Int) : netB m (forL xs load) = true := by
  obtain ⟨h1, h2, h3⟩ := (netB_iff _ _).1 h
  exact (netB_iff _ _).2 ⟨h1, Nat.le_trans (forL_len _ _) h2, fun a ha => h3 a (mem_forL.1 ha).1⟩
theorem forL_hit {xs : List ArcD} {load : Int} {k : Nat} {a : ArcD} (ha : xs[k]? = some a) (h : load ≤ a.d) : forL (xs.take (k + 1)) load = forL (xs.take k) load ++ [a] := by
  rw [List.take_add_one, ha]; simp [forL, List.filter_append, h]
theorem forL_miss {xs : List ArcD} {load : Int} {k : Nat} {a : ArcD} (ha : xs[k]? = some a) (h : ¬ load ≤ a.d) : forL (xs.take (k + 1)) load = forL (xs.take k) load := by
  rw [List.take_add_one, ha]; simp [forL, List.filter_append, h]
theorem forL_again (xs : List ArcD) (load : Int) : forL (forL xs load) load = forL xs load := by simp [forL, List.filter_filter]
theorem forL_zero {m : Int} {xs : List ArcD} (h : netB m xs = true) : forL xs 0 = xs := by
  refine List.filter_eq_self.2 fun a ha => ?_
  have := ((netB_iff _ _).1 h).2.2 a ha
  simp only [arcB, Bool.and_eq_true, inB_iff] at this
  simp; omega

/-- Their numbers. -/
def numsTo (xs : List ArcD) (load : Int) : Nat → List Int
  | 0 => []
  | k + 1 => match xs[k]? with
    | some a => if load ≤ a.d then numsTo xs load k ++ [(k : Int)] else numsTo xs load k
    | none => numsTo xs load k
theorem numsTo_hit {xs : List ArcD} {load : Int} {k : Nat} {a : ArcD} (ha : xs[k]? = some a) (h : load ≤ a.d) : numsTo xs load (k + 1) = numsTo xs load k ++ [(k : Int)] := by rw [numsTo, ha]; simp [h]
theorem numsTo_miss {xs : List ArcD} {load : Int} {k : Nat} {a : ArcD} (ha : xs[k]? = some a) (h : ¬ load ≤ a.d) : numsTo xs load (k + 1) = numsTo xs load k := by rw [numsTo, ha]; simp [h]
/-- The arcs that have these numbers. -/
def pickA (xs : List ArcD) (ys : List Int) : List ArcD := ys.flatMap fun y => match xs[y.toNat]? with | some a => [a] | none => []
theorem pickA_snoc {xs : List ArcD} {ys : List Int} {y : Int} {a : ArcD} (ha : xs[y.toNat]? = some a) : pickA xs (ys ++ [y]) = pickA xs ys ++ [a] := by simp [pickA, ha]
theorem numsTo_pick {xs : List ArcD} {load : Int} : ∀ k, k ≤ xs.length → pickA xs (numsTo xs load k) = forL (xs.take k) load
  | 0, _ => by simp [numsTo, pickA, forL]
  | k + 1, hk => by
    have ih := numsTo_pick (xs := xs) (load := load) k (by omega)
    obtain ⟨a, ha⟩ : ∃ a, xs[k]? = some a := ⟨_, List.getElem?_eq_getElem (show k < xs.length by omega)⟩
    by_cases h : load ≤ a.d
    · rw [numsTo_hit ha h, forL_hit ha h, pickA_snoc (by simpa using ha), ih]
    · rw [numsTo_miss ha h, forL_miss ha h, ih]
def strongL (xs : List ArcD) (load : Int) : List Int := numsTo xs load xs.length
theorem strong_pick (xs : List ArcD) (load : Int) : pickA xs (strongL xs load) = forL xs load := by
  rw [strongL, numsTo_pick _ (Nat.le_refl _), List.take_length]
theorem numsTo_len (xs : List ArcD) (load : Int) : ∀ k, (numsTo xs load k).length ≤ k
  | 0 => by simp [numsTo]
  | k + 1 => by
    have ih := numsTo_len xs load k
    unfold numsTo
    split
    · split
      · rw [List.length_append, List.length_singleton]; omega
      · omega
    · omega
theorem numsTo_bd {xs : List ArcD} {load : Int} : ∀ k, k ≤ xs.length → ∀ y ∈ numsTo xs load k, 0 ≤ y ∧ y < (k : Int) ∧ ∃ a, xs[y.toNat]? = some a ∧ load ≤ a.d
  | 0, _ => by simp [numsTo]
  | k + 1, hk => by
    intro y hy
    have ih := numsTo_bd (xs := xs) (load := load) k (by omega)
    obtain ⟨a, ha⟩ : ∃ a, xs[k]? = some a := ⟨_, List.getElem?_eq_getElem (show k < xs.length by omega)⟩
    by_cases h : load ≤ a.d
    · rw [numsTo_hit ha h] at hy
      rcases List.mem_append.1 hy with hy | hy
      · have := ih y hy; exact ⟨this.1, by omega, this.2.2⟩
      · simp at hy; subst hy; exact ⟨by omega, by omega, a, by simpa using ha, h⟩
    · rw [numsTo_miss ha h] at hy
      have := ih y hy; exact ⟨this.1, by omega, this.2.2⟩

/-- A way for more is a way for less. -/
theorem Way.less {xs : List ArcD} {s v c x y : Int} {l : List Int} (h : Way (forL xs x) s v c l) (hy : y ≤ x) : Way (forL xs y) s v c l := by
  induction h with
  | nil => exact .nil
  | snoc _ ha e ih => exact .snoc ih (mem_forL.2 ⟨(mem_forL.1 ha).1, by have := (mem_forL.1 ha).2; omega⟩) e
theorem Way.whole {xs : List ArcD} {s v c x : Int} {l : List Int} (h : Way (forL xs x) s v c l) : Way xs s v c l := by
  induction h with
  | nil => exact .nil
  | snoc _ ha e ih => exact .snoc ih (mem_forL.1 ha).1 e

/-- Whether so much may go. -/
def goesB (M : Nat) (xs : List ArcD) (s v load : Int) : Bool := decide (at_ (nearL M (forL xs load) s) v < 99999)
/-- The last of the first k loads that may go; -1, if there is none. -/
def mostTo (M : Nat) (xs : List ArcD) (s v : Int) : Nat → Int
  | 0 => -1
  | k + 1 => if goesB M xs s v (k : Int) then (k : Int) else mostTo M xs s v k
theorem mostTo_hit {M : Nat} {xs : List ArcD} {s v : Int} {k : Nat} (h : goesB M xs s v (k : Int) = true) : mostTo M xs s v (k + 1) = (k : Int) := by rw [mostTo, if_pos h]
theorem mostTo_miss {M : Nat} {xs : List ArcD} {s v : Int} {k : Nat} (h : goesB M xs s v (k : Int) = false) : mostTo M xs s v (k + 1) = mostTo M xs s v k := by rw [mostTo, if_neg (by rw [h]; simp)]
theorem mostTo_bd (M : Nat) (xs : List ArcD) (s v : Int) : ∀ k, -1 ≤ mostTo M xs s v k ∧ mostTo M xs s v k < k
  | 0 => by simp [mostTo]
  | k + 1 => by have := mostTo_bd M xs s v k; unfold mostTo; split <;> omega
/-- If what goes is told by a bound, that is the most. -/
theorem mostTo_eq {M : Nat} {xs : List ArcD} {s v x : Int} (h : ∀ y : Int, 0 ≤ y → y ≤ 9 → (goesB M xs s v y = true ↔ y ≤ x)) (h0 : -1 ≤ x) (h9 : x ≤ 9) : mostTo M xs s v 10 = x := by
  have key : ∀ k : Nat, k ≤ 10 → mostTo M xs s v k = min x ((k : Int) - 1) := by
    intro k
    induction k with
    | zero => intro _; simp [mostTo]; omega
    | succ k ih =>
      intro hk
      have hh := h (k : Int) (by omega) (by omega)
      rw [mostTo]
      split
      · rename_i hg; have := hh.1 hg; omega
      · rename_i hg; have : ¬ (k : Int) ≤ x := fun h' => hg (hh.2 h'); rw [ih (by omega)]; omega
  rw [key 10 (by omega)]
  omega
def mostL (M : Nat) (xs : List ArcD) (s : Int) : List Int := (List.range M).map fun (v : Nat) => mostTo M xs s (v : Int) 10
theorem mostL_length (M : Nat) (xs : List ArcD) (s : Int) : (mostL M xs s).length = M := by simp [mostL]
theorem mostL_at {M : Nat} {xs : List ArcD} {s : Int} {v : Nat} (h : v < M) : (mostL M xs s)[v]? = some (mostTo M xs s (v : Int) 10) := by simp [mostL, h]
/-- The most that may go from a node to each. -/
def loadsI (m : Int) (xs : List ArcD) (s : Int) : List Int := if hereB m xs s then mostL m.toNat xs s else []
theorem loadsI_len (m : Int) (xs : List ArcD) (s : Int) : (loadsI m xs s).length ≤ 1048576 := by
  unfold loadsI
  split
  · rename_i h
    have := ((netB_iff _ _).1 ((hereB_iff _ _ _).1 h).1).1
    rw [mostL_length]; omega
  · simp

/-- What stands in the list may go, and where one begins anything may. -/
structure Wide (M : Nat) (xs : List ArcD) (s : Int) (d : List Int) : Prop where
  len : d.length = M
  bd : ∀ v : Int, 0 ≤ v → v < M → -1 ≤ at_ d v ∧ at_ d v ≤ 9
  way : ∀ v : Int, 0 ≤ v → v < M → 0 ≤ at_ d v → ∃ c l, Way (forL xs (at_ d v)) s v c l
  start : at_ d s = 9

theorem Wide.first {M : Nat} {xs : List ArcD} {s : Int} (hs : 0 ≤ s ∧ s < M) : Wide M xs s ((List.replicate M (-1)).set s.toNat 9) := by
  have hat : ∀ v : Int, 0 ≤ v → v < M → at_ ((List.replicate M (-1)).set s.toNat 9) v = if v = s then 9 else -1 := fun v h0 h1 => by
    rw [at_set _ _ _ _ hs.1 (by simp; omega) h0]
    split
    · rfl
    · unfold at_; rw [List.getD_eq_getElem?_getD, List.getElem?_replicate, if_pos (by omega)]; rfl
  refine ⟨by simp, fun v h0 h1 => ?_, fun v h0 h1 h => ?_, by rw [hat s hs.1 hs.2, if_pos rfl]⟩
  · rw [hat v h0 h1]; split <;> omega
  · rw [hat v h0 h1] at h ⊢
    split at h
    · rename_i e; subst e; exact ⟨0, [], .nil⟩
    · omega
theorem Wide.more {M : Nat} {xs : List ArcD} {s : Int} {d : List Int} (h : Wide M xs s d) (hN : netB (M : Int) xs = true) {a : ArcD} (ha : a ∈ xs) {x : Int} (hx : x = min (at_ d a.f) a.d) (hlt : at_ d a.t < x) :
    Wide M xs s (d.set a.t.toNat x) := by
  have hb := arcsIn_net hN a ha
  have hd := ((netB_iff _ _).1 hN).2.2 a ha
  simp only [arcB, Bool.and_eq_true, inB_iff] at hd
  have hf := h.bd a.f (by omega) (by omega)
  have ht := h.bd a.t (by omega) (by omega)
  have hat : ∀ v : Int, 0 ≤ v → v < M → at_ (d.set a.t.toNat x) v = if v = a.t then x else at_ d v := fun v h0 h1 => at_set _ _ _ _ (by omega) (by rw [h.len]; omega) h0
  have hst : ¬ s = a.t := fun e => by have := h.start; rw [e] at this; omega
  have hs0 : ∀ c l u, Way (forL xs (at_ d u)) s u c l → True := fun _ _ _ _ => trivial
  refine ⟨by rw [List.length_set]; exact h.len, fun v h0 h1 => ?_, fun v h0 h1 hv => ?_, ?_⟩
  · rw [hat v h0 h1]
    split
    · omega
    · exact h.bd v h0 h1
  · rw [hat v h0 h1] at hv ⊢
    split
    · rename_i e
      subst e
      obtain ⟨c, l, w⟩ := h.way a.f (by omega) (by omega) (by omega)
      exact ⟨_, _, .snoc (w.less (by omega)) (mem_forL.2 ⟨ha, by omega⟩) rfl⟩
    · rename_i e
      rw [if_neg e] at hv
      exact h.way v h0 h1 hv
  · unfold at_
    rw [List.getD_eq_getElem?_getD, List.getElem?_set]
    by_cases e : a.t.toNat = s.toNat
    · by_cases h0 : 0 ≤ s
      · exact absurd (by omega) hst
      · have := h.start
        unfold at_ at this
        rw [List.getD_eq_getElem?_getD] at this
        have hz : s.toNat = 0 := by omega
        have : at_ d a.t = 9 := by unfold at_; rw [List.getD_eq_getElem?_getD, e]; exact this
        omega
    · rw [if_neg e]
      have := h.start
      unfold at_ at this
      rw [List.getD_eq_getElem?_getD] at this
      exact this
/-- Where no arc brings more, all is told. -/
theorem Wide.all {M : Nat} {xs : List ArcD} {s : Int} {d : List Int} (h : Wide M xs s d) (hN : netB (M : Int) xs = true) (hs : 0 ≤ s ∧ s < M) (hc : ∀ a ∈ xs, ¬ at_ d a.t < min (at_ d a.f) a.d) : d = mostL M xs s := by
  have hx := arcsIn_net hN
  have hM : M ≤ 8 := by have := ((netB_iff _ _).1 hN).1; omega
  apply List.ext_getElem?
  intro i
  by_cases hi : i < M
  · rw [mostL_at hi, getElem_at d i (by rw [h.len]; exact hi)]
    congr 1
    obtain ⟨b0, b1⟩ := h.bd (i : Int) (by omega) (by omega)
    refine (mostTo_eq (fun y h0 h9 => ?_) b0 b1).symm
    simp only [goesB, decide_eq_true_eq]
    have hxl := forL_in hx y
    constructor
    · intro hn
      obtain ⟨l, w⟩ := ((nearL_sound hxl hs).2 (i : Int) (by omega) (by omega)).2.resolve_left (by unfold farI; omega)
      have : ∀ {v c : Int} {l : List Int}, Way (forL xs y) s v c l → y ≤ at_ d v := fun {v c l} w => by
        induction w with
        | nil => rw [h.start]; exact h9
        | @snoc u c l a _ ha e ih =>
          subst e
          obtain ⟨ha1, ha2⟩ := mem_forL.1 ha
          have := hc a ha1
          omega
      exact this w
    · intro hy
      obtain ⟨c, l, w⟩ := h.way (i : Int) (by omega) (by omega) (by omega)
      have w2 := w.less hy
      obtain ⟨c2, l2, h1, _, _, h4⟩ := w2.simple hxl
      have hf := h1.few hxl hs h4
      have hcc := h1.cost hxl
      have := nearL_le (by omega) hxl hs h1
      omega
  · rw [List.getElem?_eq_none (by rw [h.len]; omega), List.getElem?_eq_none (by rw [mostL_length]; omega)]

/-- How much may still come. -/
def restS (d : List Int) : Nat := (d.map fun x => (9 - x).toNat).sum
theorem restS_set : ∀ {d : List Int} {k : Nat} {x y : Int}, d[k]? = some y → y < x → x ≤ 9 → restS (d.set k x) < restS d
  | [], k, x, y, h, _, _ => by simp at h
  | z :: d, 0, x, y, h, h1, h2 => by
    simp at h
    subst h
    simp [restS]
    omega
  | z :: d, k + 1, x, y, h, h1, h2 => by
    have := restS_set (d := d) (k := k) (by simpa using h) h1 h2
    simp [restS] at this ⊢
    omega

end Go.Proofs.Ytaojognjkiifmab
