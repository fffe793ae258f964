/-
  The least costs to the nodes, as the implementation goes: the start's own at the end. Plain. No condition.
-/
import Derived.Test.YtaojognjkiifmaaTAllS
namespace Go.Proofs.Ytaojognjkiifmaa

/-- Each arc's cost at its end, if it is less. -/
def minTo (xs : List ArcD) (d o : List Int) : Nat → List Int
  | 0 => o
  | k + 1 => match xs[k]? with
    | some a => (minTo xs d o k).set a.t.toNat (min (at_ (minTo xs d o k) a.t) (at_ d (k : Int)))
    | none => minTo xs d o k
theorem minTo_length (xs : List ArcD) (d o : List Int) : ∀ k, (minTo xs d o k).length = o.length
  | 0 => rfl
  | k + 1 => by
    have h := minTo_length xs d o k
    unfold minTo
    split
    · rw [List.length_set]; exact h
    · exact h
theorem minTo_next {xs : List ArcD} {d o : List Int} {k : Nat} {a : ArcD} (ha : xs[k]? = some a) : minTo xs d o (k + 1) = (minTo xs d o k).set a.t.toNat (min (at_ (minTo xs d o k) a.t) (at_ d (k : Int))) := by
  rw [minTo, ha]
theorem set_self_at {o : List Int} {t : Int} : o.set t.toNat (at_ o t) = o := by
  unfold at_
  apply List.ext_getElem?
  intro j
  rw [List.getElem?_set]
  split
  · rename_i e
    subst e
    split
    · rename_i h
      rw [List.getElem?_eq_getElem h]
      simp [h]
    · rename_i h
      rw [List.getElem?_eq_none (by omega)]
  · rfl

theorem minTo_into {m : Nat} {xs : List ArcD} {d : List Int} {s : Int} (hx : ArcsIn m xs) (hd : InR d) (hs : 0 ≤ s ∧ s < m) : ∀ k, (minTo xs d (List.replicate m farI) k).set s.toNat 0 = intoTo xs d (start m s) k
  | 0 => rfl
  | k + 1 => by
    have ih := minTo_into hx hd hs k
    cases ha : xs[k]? with
    | none => rw [minTo, intoTo, ha]; exact ih
    | some a =>
      have hb := hx a (List.mem_of_getElem? ha)
      have hl : (minTo xs d (List.replicate m farI) k).length = m := by rw [minTo_length]; simp
      have hk := hd.at_ (k : Int)
      rw [minTo_next ha, intoTo_next ha, ← ih]
      rw [at_set _ s a.t 0 hs.1 (by omega) (by omega)]
      by_cases e : a.t = s
      · rw [if_pos e, if_neg (by omega), e, List.set_set]
      · have hne : a.t.toNat ≠ s.toNat := by omega
        rw [if_neg e]
        split
        · rename_i h
          rw [Int.min_eq_right (by omega), List.set_comm _ _ hne]
        · rename_i h
          rw [Int.min_eq_left (by omega), set_self_at]

/-- What the implementation hands back. -/
theorem tall_of_near {M : Nat} {m : Int} {xs : List ArcD} {ts : List TurnD} {s : Int} (hT : turnsB m xs ts = true) (hM : m = M) (hs : 0 ≤ s ∧ s < m) :
    (minTo xs ((nearL (xs.length + 1) (turnArcs xs ts s) (xs.length : Int)).take xs.length) (List.replicate M farI) xs.length).set s.toNat 0 = tallL M xs ts s := by
  have hN := (turnsB_all hT).1
  have hB := (turnsB_all hT).2.2.1
  subst hM
  have hx := arcsIn_net hN
  rw [arcs_near hN hB, List.take_left' (arcsL_length xs ts s), tallL]
  refine minTo_into hx ?_ hs _
  exact (startA_in s hN).rounds (fun a ha => by
    obtain ⟨i, j, h⟩ := lineTo_mem _ ha
    exact lineArc_c hN h) _

end Go.Proofs.Ytaojognjkiifmaa
