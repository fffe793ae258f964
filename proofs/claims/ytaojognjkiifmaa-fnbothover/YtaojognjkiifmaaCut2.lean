/-
  What a walk costs is what its pieces cost.
-/
import Derived.Test.YtaojognjkiifmaaCut
namespace Go.Proofs.Ytaojognjkiifmaa
open Go.RowKit

theorem sumTo_take (xs : List ArcD) (ys : List Int) (K : Nat) : ∀ k, k ≤ K → sumTo xs (ys.take K) k = sumTo xs ys k
  | 0, _ => rfl
  | k + 1, hk => by rw [sumTo, sumTo, sumTo_take xs ys K k (by omega), numOf_take (by omega)]

theorem sumTo_drop (xs : List ArcD) (ys : List Int) (K : Nat) : ∀ k, sumTo xs ys K + sumTo xs (ys.drop K) k = sumTo xs ys (K + k)
  | 0 => by simp [sumTo]
  | k + 1 => by
    have := sumTo_drop xs ys K k
    rw [sumTo, numOf_drop, ← Int.add_assoc, this]
    rfl

theorem cost_cut {m : Int} {xs : List ArcD} {ys : List Int} (h : okB m xs ys = true) {K : Nat} (hK : K ≤ ys.length) : costI m xs (ys.take K) + costI m xs (ys.drop K) = costI m xs ys := by
  have ht : (ys.take K).length = K := by rw [List.length_take]; omega
  rw [costI, if_pos (ok_take h K), costI, if_pos (ok_drop h K), costI, if_pos h, ht, List.length_drop, sumTo_take _ _ _ _ (Nat.le_refl K), sumTo_drop, show K + (ys.length - K) = ys.length by omega]

theorem cost_bd {m : Int} {xs : List ArcD} {ys : List Int} (h : okB m xs ys = true) : 0 ≤ costI m xs ys ∧ costI m xs ys ≤ 1980 := by
  rw [costI, if_pos h]
  have := sumTo_bd h ys.length (Nat.le_refl _)
  have := ok_len h
  omega

end Go.Proofs.Ytaojognjkiifmaa
