/-
  When a net with news is ok (plain). No condition.
-/
import Derived.Test.YtaojognjkiifmabOk
import Derived.Test.YtaojognjkiifmabRNews
namespace Go.Proofs.Ytaojognjkiifmab

def newsB (n : Nat) (a : NewsD) : Bool := inB a.x0 1 999 && (inB a.x1 0 ((n : Int) - 1) && inB a.x2 (-1) 99)
def nwAt (ns : List NewsD) (k : Nat) : NewsD := (ns[k]?).getD ⟨0, 0, 0⟩
def nwB (n : Nat) (ns : List NewsD) (k : Nat) : Bool := newsB n (nwAt ns k) && (k == 0 || decide ((nwAt ns (k - 1)).x0 < (nwAt ns k).x0))
def newssB (n : Nat) (ns : List NewsD) : Bool := (List.range ns.length).all (nwB n ns)
def liveB (m : Int) (xs : List ArcD) (ns : List NewsD) : Bool := netB m xs && (decide (ns.length ≤ 6) && newssB xs.length ns)
theorem newssB_iff (n : Nat) (ns : List NewsD) : newssB n ns = true ↔ ∀ k, k < ns.length → nwB n ns k = true := by simp [newssB]
theorem liveB_iff (m : Int) (xs : List ArcD) (ns : List NewsD) : liveB m xs ns = true ↔ netB m xs = true ∧ ns.length ≤ 6 ∧ newssB xs.length ns = true := by simp [liveB]
theorem nwAt_of {ns : List NewsD} {k : Nat} {a : NewsD} (h : ns[k]? = some a) : nwAt ns k = a := by simp [nwAt, h]
theorem nwB_first {n : Nat} {ns : List NewsD} {a : NewsD} (h : ns[0]? = some a) : nwB n ns 0 = newsB n a := by simp [nwB, nwAt_of h]
theorem nwB_next {n : Nat} {ns : List NewsD} {k : Nat} {a b : NewsD} (hk : k ≠ 0) (h : ns[k]? = some a) (hp : ns[k - 1]? = some b) : nwB n ns k = (newsB n a && decide (b.x0 < a.x0)) := by
  have h0 : (k == 0) = false := by simpa using hk
  rw [nwB, nwAt_of h, nwAt_of hp, h0, Bool.false_or]
theorem nwB_no {n : Nat} {ns : List NewsD} {k : Nat} {a : NewsD} (h : ns[k]? = some a) (hB : newsB n a = false) : nwB n ns k = false := by
  rw [nwB, nwAt_of h, hB, Bool.false_and]
theorem newssB_bad {n : Nat} {ns : List NewsD} {k : Nat} (hk : k < ns.length) (h : nwB n ns k = false) : newssB n ns = false := by
  rw [Bool.eq_false_iff]
  intro h'
  rw [(newssB_iff n ns).1 h' k hk] at h
  cases h
theorem liveB_bad {m : Int} {xs : List ArcD} {ns : List NewsD} {k : Nat} (hk : k < ns.length) (h : nwB xs.length ns k = false) : liveB m xs ns = false := by
  rw [liveB, newssB_bad hk h, Bool.and_false, Bool.and_false]
def NwTo (n : Nat) (ns : List NewsD) (k : Nat) : Prop := ∀ j, j < k → nwB n ns j = true
theorem NwTo.next {n : Nat} {ns : List NewsD} {k : Nat} (h : NwTo n ns k) (hk : nwB n ns k = true) : NwTo n ns (k + 1) := fun j hj => by
  rcases Nat.lt_or_ge j k with hlt | hge
  · exact h j hlt
  · obtain rfl : j = k := by omega
    exact hk
theorem NwTo.end_ {m : Int} {xs : List ArcD} {ns : List NewsD} (h : NwTo xs.length ns ns.length) : liveB m xs ns = (netB m xs && decide (ns.length ≤ 6)) := by
  rw [liveB, (newssB_iff _ _).2 h, Bool.and_true]
theorem newsB_no0 {n : Nat} {a : NewsD} (h : inB a.x0 1 999 = false) : newsB n a = false := by rw [newsB, h, Bool.false_and]
theorem newsB_no1 {n : Nat} {a : NewsD} (h : inB a.x1 0 ((n : Int) - 1) = false) : newsB n a = false := by rw [newsB, h, Bool.false_and, Bool.and_false]
theorem newsB_no2 {n : Nat} {a : NewsD} (h : inB a.x2 (-1) 99 = false) : newsB n a = false := by rw [newsB, h, Bool.and_false, Bool.and_false]
theorem newsB_yes {n : Nat} {a : NewsD} (h0 : inB a.x0 1 999 = true) (h1 : inB a.x1 0 ((n : Int) - 1) = true) (h2 : inB a.x2 (-1) 99 = true) : newsB n a = true := by rw [newsB, h0, h1, h2]; rfl
theorem newsB_iff (n : Nat) (a : NewsD) : newsB n a = true ↔ (1 ≤ a.x0 ∧ a.x0 ≤ 999) ∧ (0 ≤ a.x1 ∧ a.x1 ≤ (n : Int) - 1) ∧ -1 ≤ a.x2 ∧ a.x2 ≤ 99 := by simp [newsB, inB_iff]
theorem newssB_at {n : Nat} {ns : List NewsD} {k : Nat} {a : NewsD} (h : newssB n ns = true) (ha : ns[k]? = some a) : newsB n a = true := by
  have := (newssB_iff n ns).1 h k (List.getElem?_eq_some_iff.1 ha).1
  cases hB : newsB n a with
  | true => rfl
  | false => rw [nwB_no ha hB] at this; cases this

/-! The net as it is. -/
/-- What the first k of the news say of an arc: how much more, and whether one shuts it. -/
def moreTo (ns : List NewsD) (i : Int) : Nat → Int
  | 0 => 0
  | k + 1 => moreTo ns i k + (match ns[k]? with | some a => if a.x1 = i ∧ ¬ a.x2 < 0 then a.x2 else 0 | none => 0)
def shutTo (ns : List NewsD) (i : Int) : Nat → Bool
  | 0 => false
  | k + 1 => shutTo ns i k || (match ns[k]? with | some a => decide (a.x1 = i ∧ a.x2 < 0) | none => false)
theorem moreTo_next {ns : List NewsD} {i : Int} {k : Nat} {a : NewsD} (h : ns[k]? = some a) : moreTo ns i (k + 1) = moreTo ns i k + (if a.x1 = i ∧ ¬ a.x2 < 0 then a.x2 else 0) := by rw [moreTo, h]
theorem shutTo_next {ns : List NewsD} {i : Int} {k : Nat} {a : NewsD} (h : ns[k]? = some a) : shutTo ns i (k + 1) = (shutTo ns i k || decide (a.x1 = i ∧ a.x2 < 0)) := by rw [shutTo, h]
theorem moreTo_bd {n : Nat} {ns : List NewsD} (hb : newssB n ns = true) (i : Int) : ∀ k, 0 ≤ moreTo ns i k ∧ moreTo ns i k ≤ 99 * (k : Int)
  | 0 => by simp [moreTo]
  | k + 1 => by
    have ih := moreTo_bd hb i k
    rw [moreTo]
    cases ha : ns[k]? with
    | none => simp only; omega
    | some a =>
      have := (newsB_iff n a).1 (newssB_at hb ha)
      simp only
      split <;> omega
theorem shutTo_mono {ns : List NewsD} {i : Int} {k : Nat} (h : shutTo ns i k = true) : ∀ j, k ≤ j → shutTo ns i j = true
  | 0, hj => by obtain rfl : k = 0 := by omega
                exact h
  | j + 1, hj => by
    rcases Nat.lt_or_ge k (j + 1) with hlt | hge
    · rw [shutTo, shutTo_mono h j (by omega), Bool.true_or]
    · obtain rfl : k = j + 1 := by omega
      exact h
/-- The arcs that are open, at what they cost. -/
def nowA (ns : List NewsD) (i : Nat) (a : ArcD) : List ArcD := if shutTo ns i ns.length then [] else [⟨a.f, a.t, min (a.c + moreTo ns i ns.length) 99, a.l, a.d⟩]
def nowTo (xs : List ArcD) (ns : List NewsD) : Nat → List ArcD
  | 0 => []
  | k + 1 => nowTo xs ns k ++ (match xs[k]? with | some a => nowA ns k a | none => [])
theorem nowTo_shut {xs : List ArcD} {ns : List NewsD} {k : Nat} {a : ArcD} (h : xs[k]? = some a) (hs : shutTo ns k ns.length = true) : nowTo xs ns (k + 1) = nowTo xs ns k := by
  rw [nowTo, h]; simp only; rw [nowA, hs, if_pos rfl, List.append_nil]
theorem nowTo_open {xs : List ArcD} {ns : List NewsD} {k : Nat} {a : ArcD} (h : xs[k]? = some a) (hs : shutTo ns k ns.length = false) : nowTo xs ns (k + 1) = nowTo xs ns k ++ [⟨a.f, a.t, min (a.c + moreTo ns k ns.length) 99, a.l, a.d⟩] := by
  rw [nowTo, h]; simp only; rw [nowA, hs, if_neg (by simp)]
theorem nowTo_len (xs : List ArcD) (ns : List NewsD) : ∀ k, (nowTo xs ns k).length ≤ k
  | 0 => by simp [nowTo]
  | k + 1 => by
    have ih := nowTo_len xs ns k
    rw [nowTo, List.length_append]
    have : (match xs[k]? with | some a => nowA ns k a | none => []).length ≤ 1 := by
      cases xs[k]? with
      | none => simp
      | some a => simp only; rw [nowA]; split <;> simp
    omega
def nowL (xs : List ArcD) (ns : List NewsD) : List ArcD := nowTo xs ns xs.length
def lnowN (m : Int) (xs : List ArcD) (ns : List NewsD) : Int := if liveB m xs ns then m else 0
def lnowL (m : Int) (xs : List ArcD) (ns : List NewsD) : List ArcD := if liveB m xs ns then nowL xs ns else []
theorem lnow_no {m : Int} {xs : List ArcD} {ns : List NewsD} (h : liveB m xs ns = false) : lnowN m xs ns = 0 ∧ lnowL m xs ns = [] := by simp [lnowN, lnowL, h]
theorem lnow_yes {m : Int} {xs : List ArcD} {ns : List NewsD} (h : liveB m xs ns = true) : lnowN m xs ns = m ∧ lnowL m xs ns = nowL xs ns := by simp [lnowN, lnowL, h]
theorem lnowL_len (m : Int) (xs : List ArcD) (ns : List NewsD) : (lnowL m xs ns).length ≤ 16 := by
  cases h : liveB m xs ns with
  | false => rw [(lnow_no h).2]; simp
  | true =>
    rw [(lnow_yes h).2]
    exact Nat.le_trans (nowTo_len _ _ _) ((netB_iff _ _).1 ((liveB_iff _ _ _).1 h).1).2.1
theorem mem_nowTo {xs : List ArcD} {ns : List NewsD} : ∀ k, ∀ b ∈ nowTo xs ns k, ∃ (i : Nat) (a : ArcD), xs[i]? = some a ∧ b = ⟨a.f, a.t, min (a.c + moreTo ns i ns.length) 99, a.l, a.d⟩
  | 0 => by simp [nowTo]
  | k + 1 => fun b hb => by
    rw [nowTo, List.mem_append] at hb
    rcases hb with hb | hb
    · exact mem_nowTo k b hb
    · cases ha : xs[k]? with
      | none => rw [ha] at hb; simp at hb
      | some a =>
        rw [ha] at hb
        simp only [nowA] at hb
        split at hb
        · simp at hb
        · rw [List.mem_singleton] at hb
          exact ⟨k, a, ha, hb⟩
end Go.Proofs.Ytaojognjkiifmab
