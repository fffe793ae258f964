/-
  Marks, each far from those ahead. Plain. No condition.
-/
import Derived.Test.YtgeoheeibebmcaaPMark
import Derived.Test.YtgeoheeibebmcaaPShare
import Derived.Test.YtgeoheeibebmcaaNear
namespace Go.Proofs.Ytgeoheeibebmcaa
open Go.RowKit

/-- What it costs at least from one of the first j of some nodes. -/
def wayTo (M : Nat) (xs : List ArcD) (ks : List Int) (v : Int) : Nat → Int
  | 0 => 99999
  | j + 1 => if at_ (nearL M xs (at_ ks (j : Int))) v < wayTo M xs ks v j then at_ (nearL M xs (at_ ks (j : Int))) v else wayTo M xs ks v j
/-- Node 0, if there are none. -/
def seeds (ks : List Int) : List Int := if ks = [] then [0] else ks
def capI (b : Int) : Int := if b = 99999 then 0 else b
def nearestI (M : Nat) (xs : List ArcD) (ks : List Int) (v : Int) : Int := capI (wayTo M xs (seeds ks) v (seeds ks).length)
/-- The farthest of the first k nodes that are no marks, and how far. -/
def pickTo (M : Nat) (xs : List ArcD) (ks : List Int) : Nat → Int × Int
  | 0 => (-1, -1)
  | k + 1 => if inL ks (k : Int) = false ∧ (pickTo M xs ks k).2 < nearestI M xs ks (k : Int) then ((k : Int), nearestI M xs ks (k : Int)) else pickTo M xs ks k
def pickL (M : Nat) (xs : List ArcD) : Nat → List Int
  | 0 => []
  | i + 1 => pickL M xs i ++ [(pickTo M xs (pickL M xs i) M).1]
def choseI (m : Int) (xs : List ArcD) (many : Int) : List Int := if netB m xs && inB many 0 m then pickL m.toNat xs many.toNat else []
theorem pickL_len (M : Nat) (xs : List ArcD) : ∀ i, (pickL M xs i).length = i
  | 0 => rfl
  | i + 1 => by rw [pickL, List.length_append, pickL_len M xs i]; rfl
theorem choseI_len (m : Int) (xs : List ArcD) (many : Int) : (choseI m xs many).length ≤ 1048576 := by
  unfold choseI
  split
  · rename_i h
    simp only [Bool.and_eq_true] at h
    obtain ⟨M, rfl, _, h8⟩ := here_nat h.1
    have := (inB_iff _ _ _).1 h.2
    rw [pickL_len]
    omega
  · simp
theorem wayTo_bound {M : Nat} {xs : List ArcD} {ks : List Int} {v : Int} (hx : ArcsIn M xs) (hk : ∀ y ∈ ks, 0 ≤ y ∧ y < M) (hv : 0 ≤ v ∧ v < M) : ∀ j, j ≤ ks.length → 0 ≤ wayTo M xs ks v j ∧ wayTo M xs ks v j ≤ 99999
  | 0, _ => by unfold wayTo; omega
  | j + 1, h => by
    have ih := wayTo_bound hx hk hv j (by omega)
    have := nearL_bound hx (hk _ (at_mem (ks := ks) (k := j) (by omega))) hv
    unfold farI at this
    unfold wayTo
    split <;> omega
theorem seeds_in {M : Nat} {ks : List Int} (hM : 1 ≤ M) (hk : ∀ y ∈ ks, 0 ≤ y ∧ y < (M : Int)) : ∀ y ∈ seeds ks, 0 ≤ y ∧ y < (M : Int) := by
  unfold seeds
  split
  · intro y hy
    simp at hy
    omega
  · exact hk
theorem nearestI_bound {M : Nat} {xs : List ArcD} {ks : List Int} {v : Int} (hM : 1 ≤ M) (hx : ArcsIn M xs) (hk : ∀ y ∈ ks, 0 ≤ y ∧ y < (M : Int)) (hv : 0 ≤ v ∧ v < M) : 0 ≤ nearestI M xs ks v ∧ nearestI M xs ks v ≤ 99999 := by
  have := wayTo_bound hx (seeds_in hM hk) hv _ (Nat.le_refl _)
  unfold nearestI capI
  split <;> omega
theorem pickTo_is {M : Nat} {xs : List ArcD} {ks : List Int} (hM : 1 ≤ M) (hx : ArcsIn M xs) (hk : ∀ y ∈ ks, 0 ≤ y ∧ y < (M : Int)) : ∀ k, k ≤ M →
    ((pickTo M xs ks k = (-1, -1) ∧ ∀ j : Nat, j < k → (j : Int) ∈ ks) ∨ (0 ≤ (pickTo M xs ks k).1 ∧ (pickTo M xs ks k).1 < (k : Int) ∧ (pickTo M xs ks k).1 ∉ ks ∧ 0 ≤ (pickTo M xs ks k).2))
  | 0, _ => .inl ⟨rfl, fun j h => absurd h (by omega)⟩
  | k + 1, h => by
    have ih := pickTo_is hM hx hk k (by omega)
    have hb := nearestI_bound hM hx hk (v := (k : Int)) ⟨by omega, by omega⟩
    unfold pickTo
    by_cases hc : inL ks (k : Int) = false ∧ (pickTo M xs ks k).2 < nearestI M xs ks (k : Int)
    · rw [if_pos hc]
      exact .inr ⟨by simp only; omega, by simp only; omega, (inL_no _ _).1 hc.1, hb.1⟩
    · rw [if_neg hc]
      rcases ih with ⟨e, hall⟩ | ⟨h1, h2, h3, h4⟩
      · by_cases hm : (k : Int) ∈ ks
        · refine .inl ⟨e, fun j hj => ?_⟩
          by_cases hjk : j = k
          · rw [hjk]; exact hm
          · exact hall j (by omega)
        · exfalso
          apply hc
          rw [e]
          exact ⟨(inL_no _ _).2 hm, by simp only; omega⟩
      · exact .inr ⟨h1, by omega, h3, h4⟩
theorem all_in_len : ∀ (M : Nat) (ks : List Int), (∀ j : Nat, j < M → (j : Int) ∈ ks) → M ≤ ks.length
  | 0, _, _ => Nat.zero_le _
  | M + 1, ks, h => by
    have ih := all_in_len M (ks.filter (fun x => decide (x ≠ (M : Int)))) (fun j hj => List.mem_filter.2 ⟨h j (by omega), by simp; omega⟩)
    have hlt : (ks.filter (fun x => decide (x ≠ (M : Int)))).length < ks.length := by
      rw [List.length_filter_lt_length_iff_exists]
      exact ⟨_, h M (by omega), by simp⟩
    omega
/-- As long as there are fewer marks than nodes, there is one more. -/
theorem pickTo_new {M : Nat} {xs : List ArcD} {ks : List Int} (hM : 1 ≤ M) (hx : ArcsIn M xs) (hk : ∀ y ∈ ks, 0 ≤ y ∧ y < (M : Int)) (hl : ks.length < M) :
    0 ≤ (pickTo M xs ks M).1 ∧ (pickTo M xs ks M).1 < (M : Int) ∧ (pickTo M xs ks M).1 ∉ ks := by
  rcases pickTo_is hM hx hk M (Nat.le_refl _) with ⟨_, hall⟩ | ⟨h1, h2, h3, _⟩
  · have := all_in_len M ks hall
    omega
  · exact ⟨h1, h2, h3⟩
theorem pickL_in {M : Nat} {xs : List ArcD} (hM : 1 ≤ M) (hx : ArcsIn M xs) : ∀ i, i ≤ M → ∀ y ∈ pickL M xs i, 0 ≤ y ∧ y < (M : Int)
  | 0, _, y, hy => by simp [pickL] at hy
  | i + 1, h, y, hy => by
    have ih := pickL_in hM hx i (by omega)
    have hn := pickTo_new hM hx ih (by rw [pickL_len]; omega)
    rw [pickL] at hy
    rcases List.mem_append.1 hy with hy | hy
    · exact ih y hy
    · simp at hy
      rw [hy]
      exact ⟨hn.1, hn.2.1⟩
theorem pickL_take (M : Nat) (xs : List ArcD) : ∀ (i j : Nat), j ≤ i → (pickL M xs i).take j = pickL M xs j
  | 0, j, h => by
    obtain rfl : j = 0 := by omega
    simp [pickL]
  | i + 1, j, h => by
    by_cases e : j = i + 1
    · subst e
      rw [List.take_of_length_le (by rw [pickL_len]; omega)]
    · rw [pickL, List.take_append_of_le_length (by rw [pickL_len]; omega), pickL_take M xs i j (by omega)]

end Go.Proofs.Ytgeoheeibebmcaa
