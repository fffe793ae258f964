/-
  A walk with no turns at all costs what it costs; what turns cost, one after the other. Plain. No condition.
-/
import Derived.Test.YtaojognjkiifmaaPTurn2
namespace Go.Proofs.Ytaojognjkiifmaa

theorem turnsB_nil (m : Int) (xs : List ArcD) : turnsB m xs [] = netB m xs := by simp [turnsB, freeB]
theorem turnSum_nil (ys : List Int) : ∀ k, turnSum [] ys k = 0
  | 0 => rfl
  | k + 1 => by rw [turnSum, turnSum_nil ys k]; simp [costF]
theorem turnBad_nil (ys : List Int) : ∀ k, turnBad [] ys k = false
  | 0 => rfl
  | k + 1 => by rw [turnBad, turnBad_nil ys k]; simp [costF]
theorem twalkI_nil (m : Int) (xs : List ArcD) (ys : List Int) : twalkI m xs [] ys = costI m xs ys := by
  cases ho : okB m xs ys with
  | true =>
    have hn : turnsB m xs [] = true := by rw [turnsB_nil]; exact ((okB_iff _ _ _).1 ho).1
    rw [twalkI_ok hn ho, turnBad_nil, turnSum_nil, costI, ho]
    simp
  | false => rw [twalkI_walk ho, costI, ho]; simp
theorem costL_bd {xs : List ArcD} {ts : List TurnD} (h : ts.all (turnB xs) = true) (a b : Int) : ∀ k, -1 ≤ costL ts a b k ∧ costL ts a b k ≤ 99
  | 0 => by simp [costL]
  | k + 1 => by
    have ih := costL_bd h a b k
    cases ht : ts[k]? with
    | none => rw [costL, ht]; exact ih
    | some t =>
      cases hs : sameT a b t with
      | true =>
        rw [costL_hit ht hs]
        have := List.all_eq_true.1 h t (List.mem_of_getElem? ht)
        simp only [turnB, Bool.and_eq_true, inB_iff] at this
        omega
      | false => rw [costL_miss ht hs]; exact ih
theorem costL_first {ts : List TurnD} {a b : Int} {k : Nat} {t : TurnD} (h : ts[k]? = some t) (hf : freeB ts ts.length = true) (e : sameT a b t = true) : costL ts a b k = 0 := by
  have hk : k < ts.length := (List.getElem?_eq_some_iff.1 h).1
  have h1 := freeB_mono ts _ (k + 1) hk hf
  have h2 := freeB_mono ts _ k (by omega) hf
  rw [freeB_next h, Bool.and_eq_true, Bool.not_eq_true'] at h1
  obtain ⟨rfl, rfl⟩ := sameT_iff.1 e
  rw [costL_free ts _ _ k (by omega) h2, costF_none h1.2]
theorem okB_long {m : Int} {xs : List ArcD} {ys : List Int} (h : okB m xs ys = true) : costI m xs ys = sumTo xs ys ys.length := by rw [costI, if_pos h]

end Go.Proofs.Ytaojognjkiifmaa
