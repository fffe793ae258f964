/-
  What turns cost: the first of a list that says so, the last one, and both where no two are of the same arcs. Plain. No condition.
-/
import Derived.Test.YtaojognjkiifmabPTurn
import Derived.Test.YtaojognjkiifmabCost
namespace Go.Proofs.Ytaojognjkiifmab

/-- The first that says so. -/
def costF (ts : List TurnD) (a b : Int) : Int := match ts.find? (sameT a b) with | some t => t.x2 | none => 0
/-- The last one of the first k that says so. -/
def costLT (ts : List TurnD) (a b : Int) : Nat → Int
  | 0 => 0
  | k + 1 => match ts[k]? with | some t => if sameT a b t then t.x2 else costLT ts a b k | none => costLT ts a b k
theorem costLT_hit {ts : List TurnD} {a b : Int} {k : Nat} {t : TurnD} (h : ts[k]? = some t) (e : sameT a b t = true) : costLT ts a b (k + 1) = t.x2 := by
  rw [costLT, h]; simp [e]
theorem costLT_miss {ts : List TurnD} {a b : Int} {k : Nat} {t : TurnD} (h : ts[k]? = some t) (e : sameT a b t = false) : costLT ts a b (k + 1) = costLT ts a b k := by
  rw [costLT, h]; simp [e]
theorem sameT_iff {a b : Int} {t : TurnD} : sameT a b t = true ↔ t.x0 = a ∧ t.x1 = b := by simp [sameT]
theorem costF_take_snoc {ts : List TurnD} {k : Nat} {a b : Int} {t : TurnD} (h : ts[k]? = some t) :
    costF (ts.take (k + 1)) a b = if (ts.take k).any (sameT a b) then costF (ts.take k) a b else if sameT a b t then t.x2 else 0 := by
  unfold costF
  rw [List.take_add_one, h, List.find?_append]
  simp only [Option.toList_some, List.find?_cons, List.find?_nil]
  cases hf : (ts.take k).find? (sameT a b) with
  | none =>
    have : (ts.take k).any (sameT a b) = false := by
      rw [List.any_eq_false]
      intro x hx
      rw [List.find?_eq_none] at hf
      exact hf x hx
    rw [this]
    cases hs : sameT a b t <;> simp
  | some x =>
    have : (ts.take k).any (sameT a b) = true := by
      rw [List.any_eq_true]
      exact ⟨x, List.mem_of_find?_eq_some hf, List.find?_some hf⟩
    rw [this]
    simp
theorem costF_none {ts : List TurnD} {a b : Int} (h : ts.any (sameT a b) = false) : costF ts a b = 0 := by
  unfold costF
  have : ts.find? (sameT a b) = none := by
    rw [List.find?_eq_none]
    intro x hx e
    rw [List.any_eq_false] at h
    exact h x hx e
  rw [this]
theorem costF_first {ts : List TurnD} {a b : Int} {k : Nat} {t : TurnD} (h : ts[k]? = some t) (hno : (ts.take k).any (sameT a b) = false) (e : sameT a b t = true) : costF ts a b = t.x2 := by
  unfold costF
  have hk : k < ts.length := (List.getElem?_eq_some_iff.1 h).1
  have hd : ts = ts.take k ++ t :: ts.drop (k + 1) := by
    have h1 := (List.take_append_drop k ts).symm
    rw [List.drop_eq_getElem_cons hk] at h1
    have h2 : ts[k] = t := by have := (List.getElem?_eq_some_iff.1 h).2; exact this
    rw [h2] at h1
    exact h1
  rw [hd, List.find?_append]
  have : (ts.take k).find? (sameT a b) = none := by
    rw [List.find?_eq_none]
    intro x hx e'
    rw [List.any_eq_false] at hno
    exact hno x hx e'
  rw [this]
  simp [e]
theorem costLT_free (ts : List TurnD) (a b : Int) : ∀ k, k ≤ ts.length → freeB ts k = true → costLT ts a b k = costF (ts.take k) a b
  | 0, _, _ => by simp [costLT, costF]
  | k + 1, hk, hf => by
    obtain ⟨t, hx⟩ : ∃ t, ts[k]? = some t := ⟨_, List.getElem?_eq_getElem (by omega)⟩
    rw [freeB_next hx, Bool.and_eq_true] at hf
    have ih := costLT_free ts a b k (by omega) hf.1
    rw [costF_take_snoc hx]
    cases hs : sameT a b t with
    | true =>
      obtain ⟨rfl, rfl⟩ := sameT_iff.1 hs
      have := hf.2
      rw [Bool.not_eq_true'] at this
      rw [costLT_hit hx hs, this]
      simp
    | false =>
      rw [costLT_miss hx hs, ih]
      cases hany : (ts.take k).any (sameT a b) with
      | true => simp
      | false => simp [costF_none hany]
theorem costLT_all (ts : List TurnD) (a b : Int) (hf : freeB ts ts.length = true) : costLT ts a b ts.length = costF ts a b := by
  rw [costLT_free ts a b _ (Nat.le_refl _) hf, List.take_length]
theorem costF_bd {xs : List ArcD} {ts : List TurnD} (h : ts.all (turnB xs) = true) (a b : Int) : -1 ≤ costF ts a b ∧ costF ts a b ≤ 99 := by
  unfold costF
  cases hf : ts.find? (sameT a b) with
  | none => simp
  | some t =>
    have := List.all_eq_true.1 h t (List.mem_of_find?_eq_some hf)
    simp only [turnB, Bool.and_eq_true, inB_iff] at this
    simp only
    omega

/-- What the turns of a walk cost, up to its k-th. -/
def turnSum (ts : List TurnD) (ys : List Int) : Nat → Int
  | 0 => 0
  | k + 1 => turnSum ts ys k + costF ts (numOf ys k) (numOf ys (k + 1))
/-- One of them is forbidden. -/
def turnBad (ts : List TurnD) (ys : List Int) : Nat → Bool
  | 0 => false
  | k + 1 => turnBad ts ys k || decide (costF ts (numOf ys k) (numOf ys (k + 1)) < 0)
theorem turnSum_bd {xs : List ArcD} {ts : List TurnD} (h : ts.all (turnB xs) = true) (ys : List Int) : ∀ k : Nat, -(k : Int) ≤ turnSum ts ys k ∧ turnSum ts ys k ≤ 99 * k
  | 0 => by simp [turnSum]
  | k + 1 => by
    have ih := turnSum_bd h ys k
    have := costF_bd h (numOf ys k) (numOf ys (k + 1))
    simp only [turnSum]
    omega
theorem turnBad_mono (ts : List TurnD) (ys : List Int) : ∀ n k, k ≤ n → turnBad ts ys k = true → turnBad ts ys n = true
  | 0, k, h, e => by obtain rfl : k = 0 := by omega
                     exact e
  | n + 1, k, h, e => by
    by_cases hk : k = n + 1
    · rw [← hk]; exact e
    · rw [turnBad, turnBad_mono ts ys n k (by omega) e, Bool.true_or]
/-- What a walk costs with its turns; -1: it is none, or a turn is forbidden. -/
def twalkI (m : Int) (xs : List ArcD) (ts : List TurnD) (ys : List Int) : Int :=
  if turnsB m xs ts && okB m xs ys then (if turnBad ts ys (ys.length - 1) then -1 else sumTo xs ys ys.length + turnSum ts ys (ys.length - 1)) else -1
theorem twalkI_turns {m : Int} {xs : List ArcD} {ts : List TurnD} {ys : List Int} (h : turnsB m xs ts = false) : twalkI m xs ts ys = -1 := by simp [twalkI, h]
theorem twalkI_walk {m : Int} {xs : List ArcD} {ts : List TurnD} {ys : List Int} (h : okB m xs ys = false) : twalkI m xs ts ys = -1 := by simp [twalkI, h]
theorem twalkI_ok {m : Int} {xs : List ArcD} {ts : List TurnD} {ys : List Int} (h : turnsB m xs ts = true) (h2 : okB m xs ys = true) : twalkI m xs ts ys = if turnBad ts ys (ys.length - 1) then -1 else sumTo xs ys ys.length + turnSum ts ys (ys.length - 1) := by
  simp [twalkI, h, h2]
theorem twalkI_bad {m : Int} {xs : List ArcD} {ts : List TurnD} {ys : List Int} {k : Nat} (h : turnsB m xs ts = true) (h2 : okB m xs ys = true) (hk : k + 1 < ys.length) (hb : costF ts (numOf ys k) (numOf ys (k + 1)) < 0) : twalkI m xs ts ys = -1 := by
  rw [twalkI_ok h h2, if_pos]
  refine turnBad_mono ts ys _ (k + 1) (by omega) ?_
  rw [turnBad]
  simp [hb]
theorem turnsB_all {m : Int} {xs : List ArcD} {ts : List TurnD} (h : turnsB m xs ts = true) : netB m xs = true ∧ ts.length ≤ 12 ∧ ts.all (turnB xs) = true ∧ freeB ts ts.length = true := by
  simp only [turnsB, Bool.and_eq_true, decide_eq_true_eq] at h
  exact ⟨h.1, h.2.1, h.2.2.1, h.2.2.2⟩

end Go.Proofs.Ytaojognjkiifmab
