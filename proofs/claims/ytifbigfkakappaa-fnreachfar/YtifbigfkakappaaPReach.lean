/-
  What can be reached for no more: nodes, parts of arcs, the farthest node, nodes of one kind. Plain. No condition.
-/
import Derived.Test.YtifbigfkakappaaNear
import Derived.Test.YtifbigfkakappaaPWay
namespace Go.Proofs.Ytifbigfkakappaa
open Go.RowKit

/-- It can be reached, for no more. -/
def rchB (most z : Int) : Bool := decide (z < 99999) && decide (z ≤ most)
theorem rchB_iff (most z : Int) : rchB most z = true ↔ z < 99999 ∧ z ≤ most := by simp [rchB]
theorem rchB_no (most z : Int) : rchB most z = false ↔ ¬ (z < 99999 ∧ z ≤ most) := by rw [← rchB_iff, Bool.not_eq_true]
/-- Those of the first k nodes that can be reached for no more. -/
def inTo (d : List Int) (most : Int) : Nat → List Int
  | 0 => []
  | k + 1 => if rchB most (at_ d (k : Int)) then inTo d most k ++ [(k : Int)] else inTo d most k
theorem inTo_len (d : List Int) (most : Int) : ∀ k, (inTo d most k).length ≤ k
  | 0 => Nat.le_refl _
  | k + 1 => by
    have := inTo_len d most k
    unfold inTo
    split
    · simp; omega
    · omega
theorem inTo_hit {d : List Int} {most : Int} {k : Nat} (h : rchB most (at_ d (k : Int)) = true) : inTo d most (k + 1) = inTo d most k ++ [(k : Int)] := by rw [inTo, if_pos h]
theorem inTo_miss {d : List Int} {most : Int} {k : Nat} (h : rchB most (at_ d (k : Int)) = false) : inTo d most (k + 1) = inTo d most k := by rw [inTo, if_neg (by rw [h]; simp)]
theorem mem_inTo (d : List Int) (most : Int) (x : Int) : ∀ k, x ∈ inTo d most k ↔ 0 ≤ x ∧ x < (k : Int) ∧ rchB most (at_ d x) = true
  | 0 => by simp [inTo]; omega
  | k + 1 => by
    have ih := mem_inTo d most x k
    by_cases e : x = (k : Int)
    · subst e
      cases h : rchB most (at_ d (k : Int)) with
      | true => rw [inTo_hit h]; exact ⟨fun _ => ⟨by omega, by omega, rfl⟩, fun _ => by simp⟩
      | false => rw [inTo_miss h, ih]; simp [h]
    · cases h : rchB most (at_ d (k : Int)) with
      | true => rw [inTo_hit h, List.mem_append, ih]; simp [e]; omega
      | false => rw [inTo_miss h, ih]; refine ⟨fun ⟨a, b, c⟩ => ⟨a, by omega, c⟩, fun ⟨a, b, c⟩ => ⟨a, by omega, c⟩⟩
theorem inTo_more {d : List Int} {a b : Int} (h : a ≤ b) : ∀ k, (inTo d a k).length ≤ (inTo d b k).length
  | 0 => Nat.le_refl _
  | k + 1 => by
    have ih := inTo_more (d := d) h k
    cases hA : rchB a (at_ d (k : Int)) with
    | true =>
      have hB : rchB b (at_ d (k : Int)) = true := (rchB_iff _ _).2 ⟨((rchB_iff _ _).1 hA).1, Int.le_trans ((rchB_iff _ _).1 hA).2 h⟩
      rw [inTo_hit hA, inTo_hit hB, List.length_append, List.length_append]
      exact Nat.add_le_add_right ih _
    | false =>
      rw [inTo_miss hA]
      cases hB : rchB b (at_ d (k : Int)) with
      | true => rw [inTo_hit hB, List.length_append]; omega
      | false => rw [inTo_miss hB]; exact ih
/-- The nodes that can be reached for no more. -/
def reachI (m : Int) (xs : List ArcD) (s most : Int) : List Int := if hereB m xs s then inTo (nearL m.toNat xs s) most m.toNat else []
theorem reachI_len (m : Int) (xs : List ArcD) (s most : Int) : (reachI m xs s most).length ≤ 1048576 := by
  unfold reachI
  split
  · rename_i h
    obtain ⟨M, rfl, _, h8⟩ := here_nat ((hereB_iff _ _ _).1 h).1
    have := inTo_len (nearL (M : Int).toNat xs s) most (M : Int).toNat
    simp at this ⊢
    omega
  · simp

/-- How much of an arc can be gone for no more. -/
def partI (d : List Int) (most : Int) (a : ArcD) : Int := if rchB most (at_ d a.f) then (if most - at_ d a.f < a.c then most - at_ d a.f else a.c) else -1
def goneI (m : Int) (xs : List ArcD) (s most : Int) : List Int := if hereB m xs s then xs.map (partI (nearL m.toNat xs s) most) else []
theorem goneI_len (m : Int) (xs : List ArcD) (s most : Int) : (goneI m xs s most).length ≤ 1048576 := by
  unfold goneI
  split
  · rename_i h
    have := ((netB_iff _ _).1 ((hereB_iff _ _ _).1 h).1).2.1
    rw [List.length_map]
    omega
  · simp

/-- The most of the first k that can be reached, and of another number. -/
def farTo (d : List Int) (b : Int) : Nat → Int
  | 0 => b
  | k + 1 => if rchB 99999 (at_ d (k : Int)) && decide (farTo d b k < at_ d (k : Int)) then at_ d (k : Int) else farTo d b k
theorem farTo_up {d : List Int} {b : Int} {k : Nat} (h : rchB 99999 (at_ d (k : Int)) = true) (h2 : farTo d b k < at_ d (k : Int)) : farTo d b (k + 1) = at_ d (k : Int) := by rw [farTo, h]; simp [h2]
theorem farTo_no {d : List Int} {b : Int} {k : Nat} (h : rchB 99999 (at_ d (k : Int)) = false ∨ ¬ farTo d b k < at_ d (k : Int)) : farTo d b (k + 1) = farTo d b k := by
  rw [farTo]
  rcases h with h | h
  · simp [h]
  · simp [h]
theorem farTo_bound {d : List Int} {b : Int} (hb : 0 ≤ b ∧ b < 99999) : ∀ k, 0 ≤ farTo d b k ∧ farTo d b k < 99999
  | 0 => hb
  | k + 1 => by
    have ih := farTo_bound (d := d) hb k
    unfold farTo
    split
    · rename_i h
      simp only [Bool.and_eq_true, decide_eq_true_eq] at h
      have := (rchB_iff _ _).1 h.1
      omega
    · exact ih
theorem farTo_ge (d : List Int) (b : Int) : ∀ k, b ≤ farTo d b k
  | 0 => Int.le_refl _
  | k + 1 => by
    have ih := farTo_ge d b k
    unfold farTo
    split
    · rename_i h
      simp only [Bool.and_eq_true, decide_eq_true_eq] at h
      omega
    · exact ih
theorem farTo_at (d : List Int) (b : Int) : ∀ (k v : Nat), v < k → at_ d (v : Int) < 99999 → at_ d (v : Int) ≤ farTo d b k
  | 0, v, h, _ => absurd h (by omega)
  | k + 1, v, h, hz => by
    by_cases e : v = k
    · subst e
      unfold farTo
      split
      · omega
      · rename_i h'
        have hh : rchB 99999 (at_ d (v : Int)) = true := (rchB_iff _ _).2 ⟨hz, by omega⟩
        rw [hh] at h'
        simp at h'
        omega
    · have ih := farTo_at d b k v (by omega) hz
      unfold farTo
      split
      · rename_i h'
        simp only [Bool.and_eq_true, decide_eq_true_eq] at h'
        omega
      · exact ih
theorem farTo_is (d : List Int) (b : Int) : ∀ k, farTo d b k = b ∨ ∃ v : Nat, v < k ∧ at_ d (v : Int) < 99999 ∧ farTo d b k = at_ d (v : Int)
  | 0 => .inl rfl
  | k + 1 => by
    have ih := farTo_is d b k
    unfold farTo
    split
    · rename_i h
      simp only [Bool.and_eq_true, decide_eq_true_eq] at h
      exact .inr ⟨k, by omega, ((rchB_iff _ _).1 h.1).1, rfl⟩
    · rcases ih with h | ⟨v, h1, h2, h3⟩
      · exact .inl h
      · exact .inr ⟨v, by omega, h2, h3⟩
/-- The most of all that can be reached of the first i nodes. -/
def farR (M : Nat) (xs : List ArcD) : Nat → Int
  | 0 => 0
  | i + 1 => farTo (nearL M xs (i : Int)) (farR M xs i) M
theorem farR_bound (M : Nat) (xs : List ArcD) : ∀ i, 0 ≤ farR M xs i ∧ farR M xs i < 99999
  | 0 => ⟨Int.le_refl _, by unfold farR; omega⟩
  | i + 1 => farTo_bound (farR_bound M xs i) M
theorem farR_ge {M : Nat} {xs : List ArcD} : ∀ (i s : Nat) (v : Nat), s < i → v < M → at_ (nearL M xs (s : Int)) (v : Int) < 99999 → at_ (nearL M xs (s : Int)) (v : Int) ≤ farR M xs i
  | 0, s, v, h, _, _ => absurd h (by omega)
  | i + 1, s, v, h, hv, hz => by
    by_cases e : s = i
    · subst e
      exact farTo_at _ _ _ _ hv hz
    · exact Int.le_trans (farR_ge i s v (by omega) hv hz) (farTo_ge _ _ _)
theorem farR_is (M : Nat) (xs : List ArcD) : ∀ i, farR M xs i = 0 ∨ ∃ s v : Nat, s < i ∧ v < M ∧ at_ (nearL M xs (s : Int)) (v : Int) < 99999 ∧ farR M xs i = at_ (nearL M xs (s : Int)) (v : Int)
  | 0 => .inl rfl
  | i + 1 => by
    rcases farTo_is (nearL M xs (i : Int)) (farR M xs i) M with h | ⟨v, h1, h2, h3⟩
    · rcases farR_is M xs i with h' | ⟨s, v, h1, h2, h3, h4⟩
      · exact .inl (by rw [farR, h, h'])
      · exact .inr ⟨s, v, by omega, h2, h3, by rw [farR, h, h4]⟩
    · exact .inr ⟨i, v, by omega, h1, h2, h3⟩
def mostI (m : Int) (xs : List ArcD) : Int := if netB m xs then farR m.toNat xs m.toNat else -1

/-- The first of so many that is so; that many, if none is. -/
def firstB (p : Nat → Bool) : Nat → Nat
  | 0 => 0
  | n + 1 => if firstB p n < n then firstB p n else if p n then n else n + 1
theorem firstB_le (p : Nat → Bool) : ∀ n, firstB p n ≤ n
  | 0 => Nat.le_refl _
  | n + 1 => by
    unfold firstB
    split
    · omega
    · split <;> omega
theorem firstB_no (p : Nat → Bool) : ∀ n j, j < firstB p n → p j = false
  | 0, j, h => absurd h (by simp [firstB])
  | n + 1, j, h => by
    unfold firstB at h
    split at h
    · exact firstB_no p n j h
    · rename_i hge
      have hn := firstB_le p n
      have he : firstB p n = n := by omega
      split at h
      · exact firstB_no p n j (by omega)
      · rename_i hp
        by_cases e : j = n
        · subst e
          simpa using hp
        · exact firstB_no p n j (by omega)
theorem firstB_yes (p : Nat → Bool) : ∀ n, firstB p n < n → p (firstB p n) = true
  | 0, h => absurd h (by omega)
  | n + 1, h => by
    unfold firstB at h ⊢
    split
    · rename_i hlt
      exact firstB_yes p n hlt
    · rename_i hge
      rw [if_neg hge] at h
      split
      · assumption
      · rename_i hp
        rw [if_neg hp] at h
        omega
theorem firstB_here {p : Nat → Bool} {n k : Nat} (_hk : k < n) (h : p k = true) : firstB p n ≤ k := by
  rcases Nat.lt_or_ge k (firstB p n) with hlt | hge
  · rw [firstB_no p n k hlt] at h
    cases h
  · exact hge
theorem firstB_eq {p : Nat → Bool} {n k : Nat} (hk : k < n) (h : p k = true) (hno : ∀ j, j < k → p j = false) : firstB p n = k := by
  have h1 := firstB_here hk h
  rcases Nat.lt_or_ge (firstB p n) k with hlt | hge
  · have := firstB_yes p n (by omega)
    rw [hno _ hlt] at this
    cases this
  · omega
/-- Two nodes reach each other. -/
def bothB (M : Nat) (xs : List ArcD) (i k : Nat) : Bool := decide (at_ (nearL M xs (i : Int)) (k : Int) < 99999) && decide (at_ (nearL M xs (k : Int)) (i : Int) < 99999)
/-- Of each node the least that it can reach, and that can reach it. -/
def kindI (M : Nat) (xs : List ArcD) (i : Nat) : Nat := firstB (bothB M xs i) M
def kindsI (m : Int) (xs : List ArcD) : List Int := if netB m xs then (List.range m.toNat).map (fun i => (kindI m.toNat xs i : Int)) else []
theorem kindsI_len (m : Int) (xs : List ArcD) : (kindsI m xs).length ≤ 1048576 := by
  unfold kindsI
  split
  · rename_i h
    obtain ⟨M, rfl, _, h8⟩ := here_nat h
    simp
    omega
  · simp
theorem bothB_self {M : Nat} {xs : List ArcD} (hM : M ≤ 17) (hx : ArcsIn M xs) {i : Nat} (hi : i < M) : bothB M xs i i = true := by
  have := nearL_start hM hx (s := (i : Int)) ⟨by omega, by omega⟩
  simp [bothB, this]
theorem bothB_comm (M : Nat) (xs : List ArcD) (i k : Nat) : bothB M xs i k = bothB M xs k i := by unfold bothB; rw [Bool.and_comm]
theorem kindI_lt {M : Nat} {xs : List ArcD} (hM : M ≤ 17) (hx : ArcsIn M xs) {i : Nat} (hi : i < M) : kindI M xs i ≤ i := firstB_here hi (bothB_self hM hx hi)

end Go.Proofs.Ytifbigfkakappaa
