/-
  What a walk costs: spec.WalkCost. No condition.
-/
import Derived.Test.YtaojognjkiifmaaCost
namespace Go.Proofs.Ytaojognjkiifmaa
open Go.RowKit

set_option maxHeartbeats 1000000 in
theorem l2Cost_any (m : Int) (A B : Option Addr) (n c l cb : Nat) (xs : List ArcD) (ys : List Int) (w : World) (hnx : xs.length = n) (hny : ys.length = l) (hx : ArcsAt w A xs) (hy : IntsAt w B ys) (ho : okB m xs ys = true) :
    Calls Try.prog 112 #[.agg #[.int .i64 m, .slice A n c], .slice B l cb] w fun e w' => e = .returned (.int .i64 (sumTo xs ys l)) ∧ Below w.heap.size w w' := by
  have h20 := ok_len ho
  have h16 := ok_num ho
  rw [hny] at h20
  rw [hnx] at h16
  have HX := Lib.hid hnx
  have HY := Lib.hid hny
  have HO := Lib.hid ho
  clear hnx hny ho
  have hb0 : Past w (w.alloc (.cells #[.int .i64 m, .slice A n c] 32)) := (Past.refl _).alloc _
  go_enter Try.func112, Try.ntmps112
  go_wp2
  go_loopw [5, 6] (fun s i wr => ∃ k : Nat, k ≤ l ∧ i = .int .i64 k ∧ s = .int .i64 (sumTo xs ys k) ∧ Past (w.alloc (.cells #[.int .i64 m, .slice A n c] 32)) wr) (fun _ i _ => l - (intOf i).toNat)
  case atStart => exact ⟨0, by omega, rfl, rfl, Past.refl _⟩
  case round =>
    obtain ⟨k, hk, rfl, rfl, hb⟩ := hrel
    have hz := hb.lt
    have b0 := cell_in (p := ⟨w.heap.size, 0, none⟩) (v := .int .i64 m) hb (by go_simp)
    have b1 := cell_in (p := ⟨w.heap.size, 1, none⟩) (v := .slice A n c) hb (by go_simp)
    have hs := sumTo_bd HO.out k (by rw [HY.out]; exact hk)
    by_cases hlt : k < l
    · obtain ⟨y, ha⟩ : ∃ a, ys[k]? = some a := ⟨_, List.getElem?_eq_getElem (by have := HY.out; omega)⟩
      obtain ⟨g, o, rfl, c0⟩ := ((hy.below hb0).below hb) k _ ha
      obtain ⟨j, ⟨f, t, c', l', d⟩, rfl, hj, q0, q1, he⟩ := ok_arc HO.out ha
      obtain ⟨g', o', rfl, d0, d1, d2, d3, d4⟩ := ((hx.below hb0).below hb) j _ hj
      have hjn : j < n := by rw [← HX.out]; exact (List.getElem?_eq_some_iff.1 hj).1
      have HE := Lib.hid he
      clear ha hj he
      simp only at q0 q1
      have i0 : (0 : Int) ≤ (k : Int) := by omega
      have i1 : (k : Int) < (l : Int) := by omega
      have j0 : (0 : Int) ≤ (j : Int) := by omega
      have j1 : (j : Int) < (n : Int) := by omega
      have hw : IntKind.i64.wrap (sumTo xs ys k + c') = sumTo xs ys k + c' := IntWalk.i64_in _ (by omega)
      go_wp2_with fail
      go_quiet (fail)
      go_wp2
      go_roundw
      case rel => exact ⟨k + 1, by omega, by go_num, by simp only [sumTo, HE.out], hb.drewN _⟩
      case measure => simp [intOf]; omega
    · obtain rfl : l = k := by omega
      go_wp2
      go_ret
      exact ⟨rfl, hb0.trans hb⟩


end Go.Proofs.Ytaojognjkiifmaa
