/-
  Turns: each is ok by itself, no two are of the same arcs. Plain. No condition.
-/
import Derived.Test.YtaojognjkiifmabRTurn
import Derived.Test.YtaojognjkiifmabPNear
namespace Go.Proofs.Ytaojognjkiifmab

def sameT (a b : Int) (t : TurnD) : Bool := decide (t.x0 = a) && decide (t.x1 = b)
/-- How many different ones there are among the first k. -/
def distT (ts : List TurnD) : Nat → Nat
  | 0 => 0
  | k + 1 => distT ts k + (match ts[k]? with | some t => if (ts.take k).any (sameT t.x0 t.x1) then 0 else 1 | none => 0)
/-- Among the first k no two are of the same arcs. -/
def freeB (ts : List TurnD) : Nat → Bool
  | 0 => true
  | k + 1 => freeB ts k && (match ts[k]? with | some t => !(ts.take k).any (sameT t.x0 t.x1) | none => true)

theorem distT_le (ts : List TurnD) : ∀ k, distT ts k ≤ k
  | 0 => Nat.le_refl _
  | k + 1 => by
    have ih := distT_le ts k
    unfold distT
    split
    · split <;> omega
    · omega
theorem distT_free (ts : List TurnD) : ∀ k, k ≤ ts.length → decide (distT ts k = k) = freeB ts k
  | 0, _ => rfl
  | k + 1, hk => by
    have ih := distT_free ts k (by omega)
    have hle := distT_le ts k
    obtain ⟨t, hx⟩ : ∃ t, ts[k]? = some t := ⟨_, List.getElem?_eq_getElem (by omega)⟩
    rw [freeB, distT, hx]
    simp only
    rw [← ih]
    rcases Bool.eq_false_or_eq_true ((ts.take k).any (sameT t.x0 t.x1)) with hd | hd
    · simp only [hd, if_true, Bool.not_true, Bool.and_false, Nat.add_zero, decide_eq_false_iff_not]
      omega
    · simp only [hd, Bool.false_eq_true, if_false, Bool.not_false, Bool.and_true, Nat.add_right_cancel_iff]

theorem distT_next {ts : List TurnD} {k : Nat} {t : TurnD} (h : ts[k]? = some t) : distT ts (k + 1) = if (ts.take k).any (sameT t.x0 t.x1) then distT ts k else distT ts k + 1 := by
  rw [distT, h]
  simp only
  split <;> rfl
theorem freeB_next {ts : List TurnD} {k : Nat} {t : TurnD} (h : ts[k]? = some t) : freeB ts (k + 1) = (freeB ts k && !(ts.take k).any (sameT t.x0 t.x1)) := by
  rw [freeB, h]
theorem freeB_mono (ts : List TurnD) : ∀ n k, k ≤ n → freeB ts n = true → freeB ts k = true
  | 0, k, h, e => by
    have hk : k = 0 := Nat.le_zero.1 h
    rw [hk]
    exact e
  | n + 1, k, h, e => by
    by_cases hk : k = n + 1
    · rw [hk]; exact e
    · rw [freeB, Bool.and_eq_true] at e
      exact freeB_mono ts n k (by omega) e.1

/-- An arc by its number. -/
def arcAt (xs : List ArcD) (i : Int) : ArcD := xs.getD i.toNat default
/-- A turn is ok by itself. -/
def turnB (xs : List ArcD) (t : TurnD) : Bool :=
  inB t.x0 0 ((xs.length : Int) - 1) && (inB t.x1 0 ((xs.length : Int) - 1) && (decide ((arcAt xs t.x0).t = (arcAt xs t.x1).f) && inB t.x2 (-1) 99))
/-- Turns are ok. -/
def turnsB (m : Int) (xs : List ArcD) (ts : List TurnD) : Bool := netB m xs && (decide (ts.length ≤ 12) && (ts.all (turnB xs) && freeB ts ts.length))

end Go.Proofs.Ytaojognjkiifmab
