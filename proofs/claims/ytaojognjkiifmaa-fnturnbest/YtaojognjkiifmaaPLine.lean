/-
  The net whose nodes are arcs and whose arcs are the turns that may be. Plain. No condition.
-/
import Derived.Test.YtaojognjkiifmaaPTurn2
import Derived.Test.YtaojognjkiifmaaBack
import Derived.Test.YtaojognjkiifmaaOwnL
namespace Go.Proofs.Ytaojognjkiifmaa
open Go.RowKit

/-- From an arc to another one: the arc of the line net, if there is one. -/
def lineArc (xs : List ArcD) (ts : List TurnD) (i k : Nat) : List ArcD := match xs[i]?, xs[k]? with
  | some a, some b => if a.t = b.f ∧ 0 ≤ costF ts i k then [⟨i, k, costF ts i k + b.c, 0, 9⟩] else []
  | _, _ => []
def rowL (xs : List ArcD) (ts : List TurnD) (i : Nat) : Nat → List ArcD
  | 0 => []
  | k + 1 => rowL xs ts i k ++ lineArc xs ts i k
def lineTo (xs : List ArcD) (ts : List TurnD) (n : Nat) : Nat → List ArcD
  | 0 => []
  | i + 1 => lineTo xs ts n i ++ rowL xs ts i n
def lineL (xs : List ArcD) (ts : List TurnD) : List ArcD := lineTo xs ts xs.length xs.length

theorem lineArc_hit {xs : List ArcD} {ts : List TurnD} {i k : Nat} {a b : ArcD} (ha : xs[i]? = some a) (hb : xs[k]? = some b) (h1 : a.t = b.f) (h2 : 0 ≤ costF ts i k) : lineArc xs ts i k = [⟨i, k, costF ts i k + b.c, 0, 9⟩] := by
  simp [lineArc, ha, hb, h1, h2]
theorem lineArc_turn {xs : List ArcD} {ts : List TurnD} {i k : Nat} {a b : ArcD} (ha : xs[i]? = some a) (hb : xs[k]? = some b) (h1 : a.t ≠ b.f) : lineArc xs ts i k = [] := by
  simp [lineArc, ha, hb, h1]
theorem lineArc_no {xs : List ArcD} {ts : List TurnD} {i k : Nat} {a b : ArcD} (ha : xs[i]? = some a) (hb : xs[k]? = some b) (h2 : ¬ 0 ≤ costF ts i k) : lineArc xs ts i k = [] := by
  simp [lineArc, ha, hb, h2]
theorem lineArc_len (xs : List ArcD) (ts : List TurnD) (i k : Nat) : (lineArc xs ts i k).length ≤ 1 := by
  unfold lineArc
  split
  · split <;> simp
  · simp
theorem rowL_len (xs : List ArcD) (ts : List TurnD) (i : Nat) : ∀ k, (rowL xs ts i k).length ≤ k
  | 0 => by simp [rowL]
  | k + 1 => by
    have h1 := rowL_len xs ts i k
    have h2 := lineArc_len xs ts i k
    simp [rowL]
    omega
theorem lineTo_len (xs : List ArcD) (ts : List TurnD) (n : Nat) : ∀ i, (lineTo xs ts n i).length ≤ i * n
  | 0 => by simp [lineTo]
  | i + 1 => by
    have h1 := lineTo_len xs ts n i
    have h2 := rowL_len xs ts i n
    simp [lineTo, Nat.add_mul]
    omega

/-- A net of turns. -/
def tnetB (m : Int) (xs : List ArcD) (ts : List TurnD) : Bool := turnsB m xs ts && netB (xs.length : Int) (lineL xs ts)
def tnetL (m : Int) (xs : List ArcD) (ts : List TurnD) : List ArcD := if tnetB m xs ts then lineL xs ts else []
def tnetN (m : Int) (xs : List ArcD) (ts : List TurnD) : Int := if tnetB m xs ts then (xs.length : Int) else 0
theorem tnet_no {m : Int} {xs : List ArcD} {ts : List TurnD} (h : tnetB m xs ts = false) : tnetL m xs ts = [] ∧ tnetN m xs ts = 0 := by simp [tnetL, tnetN, h]
theorem tnet_yes {m : Int} {xs : List ArcD} {ts : List TurnD} (h : tnetB m xs ts = true) : tnetL m xs ts = lineL xs ts ∧ tnetN m xs ts = (xs.length : Int) := by simp [tnetL, tnetN, h]
theorem tnet_turns {m : Int} {xs : List ArcD} {ts : List TurnD} (h : turnsB m xs ts = false) : tnetB m xs ts = false := by simp [tnetB, h]
theorem tnet_many {m : Int} {xs : List ArcD} {ts : List TurnD} (h : inB (xs.length : Int) 1 8 = false) : tnetB m xs ts = false := by simp [tnetB, netB, h]
theorem tnet_line {m : Int} {xs : List ArcD} {ts : List TurnD} (h : turnsB m xs ts = true) : tnetB m xs ts = netB (xs.length : Int) (lineL xs ts) := by simp [tnetB, h]
theorem tnetL_len16 (m : Int) (xs : List ArcD) (ts : List TurnD) : (tnetL m xs ts).length ≤ 16 := by
  cases h : tnetB m xs ts with
  | false => rw [(tnet_no h).1]; simp
  | true =>
    rw [(tnet_yes h).1]
    simp only [tnetB, Bool.and_eq_true] at h
    exact ((netB_iff _ _).1 h.2).2.1

/-- A net and a truth are handed back. -/
def GivesNB (w : World) (m : Int) (xs : List ArcD) (b : Bool) (e : Ending) (w' : World) : Prop :=
  ∃ A c, e = .returned (.tuple #[.agg #[.int .i64 m, .slice A xs.length c], .bool b]) ∧ ArcsAt w' A xs ∧ OwnAt w' w.heap.size A 52 5 xs.length ∧ Below w.heap.size w w'
theorem givesNB_no {w w' : World} {m : Int} {xs : List ArcD} {ts : List TurnD} {e : Ending} (h : tnetB m xs ts = false) (he : e = .returned (.tuple #[.agg #[.int .i64 0, .slice none 0 0], .bool false])) (hb : Below w.heap.size w w') : GivesNB w (tnetN m xs ts) (tnetL m xs ts) (tnetB m xs ts) e w' := by
  obtain ⟨h1, h2⟩ := tnet_no h
  refine ⟨none, 0, by rw [h2, h1, h]; exact he, by rw [h1]; exact fun k a hk => by simp at hk, by rw [h1]; exact .inl ⟨rfl, rfl⟩, hb⟩
theorem givesNB_yes {w w' : World} {m : Int} {xs : List ArcD} {ts : List TurnD} {v : Value} {n lo : Nat} {cs : List Value} (h : tnetB m xs ts = true) (hn : n = xs.length) (hlo : w.heap.size ≤ lo) (k : Nat) (hk : k = (lineL xs ts).length) (hcs : cs = cellsOf (lineL xs ts)) (hv : w'.ownsRow lo 52 5 v k cs) (hb : Below w.heap.size w w') :
    GivesNB w (tnetN m xs ts) (tnetL m xs ts) (tnetB m xs ts) (.returned (.tuple #[.agg #[.int .i64 (n : Int), v], .bool true])) w' := by
  obtain ⟨h1, h2⟩ := tnet_yes h
  subst hk hcs
  have hr : ResA w' w.heap.size v (lineL xs ts) := ResA.lower (lo := lo) hv hlo
  obtain ⟨A, c, rfl, hx, ho⟩ := hr.form
  exact ⟨A, c, by rw [h2, h1, h, hn], by rw [h1]; exact hx, by rw [h1]; exact ho, hb⟩

end Go.Proofs.Ytaojognjkiifmaa
