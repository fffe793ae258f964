/-
  What two walks share: of pieces as much as of the whole; of a walk with itself all; of none nothing. Plain. No condition.
-/
import Derived.Test.YtgeoheeibebmcabPShare
import Derived.Test.YtgeoheeibebmcabCut2
namespace Go.Proofs.Ytgeoheeibebmcab
open Go.RowKit

theorem shareTo_take (xs : List ArcD) (ys zs : List Int) (K : Nat) : ∀ k, k ≤ K → shareTo xs (ys.take K) zs k = shareTo xs ys zs k
  | 0, _ => rfl
  | k + 1, h => by rw [shareTo, shareTo, shareTo_take xs ys zs K k (by omega), numOf_take (show k < K by omega)]
theorem shareTo_drop (xs : List ArcD) (ys zs : List Int) (K : Nat) : ∀ k, shareTo xs ys zs K + shareTo xs (ys.drop K) zs k = shareTo xs ys zs (K + k)
  | 0 => by simp [shareTo]
  | k + 1 => by
    have ih := shareTo_drop xs ys zs K k
    rw [show K + (k + 1) = (K + k) + 1 by omega, shareTo, shareTo, numOf_drop]
    split
    · omega
    · exact ih
theorem share_cut {m : Int} {xs : List ArcD} {ys zs : List Int} (h : okB m xs ys = true) (h' : okB m xs zs = true) {K : Nat} (hK : K ≤ ys.length) : shareI m xs (ys.take K) zs + shareI m xs (ys.drop K) zs = shareI m xs ys zs := by
  have e1 : (ys.take K).length = K := by rw [List.length_take]; omega
  rw [shareI, shareI, shareI, ok_take h, ok_drop h, h, h', if_pos (by rfl), if_pos (by rfl), if_pos (by rfl), e1, shareTo_take _ _ _ _ _ (Nat.le_refl _), shareTo_drop, List.length_drop]
  congr 1
  omega
theorem shareTo_le {m : Int} {xs : List ArcD} {ys zs : List Int} (h : okB m xs ys = true) : ∀ k, k ≤ ys.length → shareTo xs ys zs k ≤ sumTo xs ys k
  | 0, _ => by simp [shareTo, sumTo]
  | k + 1, hk => by
    have ih := shareTo_le (zs := zs) h k (by omega)
    obtain ⟨j, a, _, _, h0, h1, e⟩ := ok_arc h (List.getElem?_eq_getElem (show k < ys.length by omega))
    rw [shareTo, sumTo]
    split
    · omega
    · rw [e]; omega
theorem shareTo_self {xs : List ArcD} {ys : List Int} : ∀ k, k ≤ ys.length → shareTo xs ys ys k = sumTo xs ys k
  | 0, _ => rfl
  | k + 1, hk => by
    have hm : inL ys (numOf ys k) = true := by
      rw [inL_iff, numOf_get (List.getElem?_eq_getElem (show k < ys.length by omega))]
      exact List.getElem_mem _
    rw [shareTo, sumTo, if_pos hm, shareTo_self k (by omega)]
theorem shareTo_nil (xs : List ArcD) (ys : List Int) : ∀ k, shareTo xs ys [] k = 0
  | 0 => rfl
  | k + 1 => by
    rw [shareTo, if_neg (by simp [inL]), shareTo_nil xs ys k]
theorem ok_nil {m : Int} {xs : List ArcD} {ys : List Int} (h : okB m xs ys = true) : okB m xs [] = true := by
  have := ok_take h 0
  simpa using this

end Go.Proofs.Ytgeoheeibebmcab
