/-
  What a walk costs: spec.l2Cost, impl's walk.cost, spec.WalkCost, impl.WalkCost.
-/
import Derived.Test.YtaojognjkiifmabWalk2
namespace Go.Proofs.Ytaojognjkiifmab
open Go.RowKit

/-- What the first k arcs cost. -/
def sumTo (xs : List ArcD) (ys : List Int) : Nat → Int
  | 0 => 0
  | k + 1 => sumTo xs ys k + (arcOf xs (numOf ys k)).c

/-- What arcs cost; -1: they are no walk. -/
def costI (m : Int) (xs : List ArcD) (ys : List Int) : Int := if okB m xs ys then sumTo xs ys ys.length else -1

theorem okB_iff (m : Int) (xs : List ArcD) (ys : List Int) : okB m xs ys = true ↔ netB m xs = true ∧ walkB xs ys = true := by simp [okB]

/-- An arc of a walk: it is there, and costs 0 to 99. -/
theorem ok_arc {m : Int} {xs : List ArcD} {ys : List Int} {k : Nat} {y : Int} (h : okB m xs ys = true) (hy : ys[k]? = some y) : ∃ (j : Nat) (a : ArcD), y = j ∧ xs[j]? = some a ∧ 0 ≤ a.c ∧ a.c ≤ 99 ∧ arcOf xs (numOf ys k) = a := by
  obtain ⟨h1, h2⟩ := (okB_iff _ _ _).1 h
  obtain ⟨j, a, rfl, ha⟩ := stepB_arc (((walkB_iff _ _).1 h2).2 k (List.getElem?_eq_some_iff.1 hy).1) hy
  have hb := ((netB_iff _ _).1 h1).2.2 a (List.mem_of_getElem? ha)
  have hc : 0 ≤ a.c ∧ a.c ≤ 99 := by
    simp [arcB, inB_iff] at hb
    exact hb.2.2.2.1
  exact ⟨j, a, rfl, ha, hc.1, hc.2, by simp [arcOf, numOf, List.getD_eq_getElem?_getD, hy, ha]⟩

theorem sumTo_bd {m : Int} {xs : List ArcD} {ys : List Int} (h : okB m xs ys = true) : ∀ k, k ≤ ys.length → 0 ≤ sumTo xs ys k ∧ sumTo xs ys k ≤ 99 * k
  | 0, _ => by simp [sumTo]
  | k + 1, hk => by
    have ih := sumTo_bd h k (by omega)
    obtain ⟨j, a, _, _, h0, h1, e⟩ := ok_arc h (List.getElem?_eq_getElem (show k < ys.length by omega))
    simp only [sumTo, e]
    omega

theorem ok_len {m : Int} {xs : List ArcD} {ys : List Int} (h : okB m xs ys = true) : ys.length ≤ 20 := ((walkB_iff _ _).1 ((okB_iff _ _ _).1 h).2).1
theorem ok_num {m : Int} {xs : List ArcD} {ys : List Int} (h : okB m xs ys = true) : xs.length ≤ 16 := ((netB_iff _ _).1 ((okB_iff _ _ _).1 h).1).2.1

set_option maxHeartbeats 1000000 in
theorem walkCost_any (m : Int) (A B : Option Addr) (n c l cb : Nat) (xs : List ArcD) (ys : List Int) (w : World) (hnx : xs.length = n) (hny : ys.length = l) (hx : ArcsAt w A xs) (hy : IntsAt w B ys) (ho : okB m xs ys = true) :
    Calls Try.prog 68 #[.agg #[.int .i64 m, .slice A n c, .slice B l cb]] w fun e w' => e = .returned (.int .i64 (sumTo xs ys l)) ∧ Below w.heap.size w w' := by
  have h20 := ok_len ho
  have h16 := ok_num ho
  rw [hny] at h20
  rw [hnx] at h16
  have HX := Lib.hid hnx
  have HY := Lib.hid hny
  have HO := Lib.hid ho
  clear hnx hny ho
  have hb0 : Past w (w.alloc (.cells #[.int .i64 m, .slice A n c, .slice B l cb] 90)) := (Past.refl _).alloc _
  go_enter Try.func68, Try.ntmps68
  go_wp2
  go_loopw [3, 9] (fun s i wr => ∃ k : Nat, k ≤ l ∧ i = .int .i64 k ∧ s = .int .i64 (sumTo xs ys k) ∧ Past (w.alloc (.cells #[.int .i64 m, .slice A n c, .slice B l cb] 90)) wr) (fun _ i _ => l - (intOf i).toNat)
  case atStart => exact ⟨0, by omega, rfl, rfl, Past.refl _⟩
  case round =>
    obtain ⟨k, hk, rfl, rfl, hb⟩ := hrel
    have hz := hb.lt
    have b0 := cell_in (p := ⟨w.heap.size, 0, none⟩) (v := .int .i64 m) hb (by go_simp)
    have b1 := cell_in (p := ⟨w.heap.size, 1, none⟩) (v := .slice A n c) hb (by go_simp)
    have b2 := cell_in (p := ⟨w.heap.size, 2, none⟩) (v := .slice B l cb) hb (by go_simp)
    have hs := sumTo_bd HO.out k (by rw [HY.out]; exact hk)
    by_cases hlt : k < l
    · obtain ⟨y, ha⟩ : ∃ a, ys[k]? = some a := ⟨_, List.getElem?_eq_getElem (by have := HY.out; omega)⟩
      obtain ⟨g, o, rfl, c0⟩ := ((hy.below hb0).below hb) k _ ha
      obtain ⟨j, ⟨f, t, c', l', d⟩, rfl, hj, q0, q1, he⟩ := ok_arc HO.out ha
      obtain ⟨g', o', rfl, d0, d1, d2, d3, d4⟩ := ((hx.below hb0).below hb) j _ hj
      have hjn : j < n := by rw [← HX.out]; exact (List.getElem?_eq_some_iff.1 hj).1
      have HE := Lib.hid he
      clear ha hj he
      simp only at q0 q1
      have i0 : (0 : Int) ≤ (k : Int) := by omega
      have i1 : (k : Int) < (l : Int) := by omega
      have j0 : (0 : Int) ≤ (j : Int) := by omega
      have j1 : (j : Int) < (n : Int) := by omega
      go_wp2
      go_roundw
      case rel => exact ⟨k + 1, by omega, by go_num, by simp only [sumTo, HE.out], hb⟩
      case measure => simp [intOf]; omega
    · obtain rfl : l = k := by omega
      go_wp2
      go_ret
      exact ⟨rfl, hb0.trans hb⟩

set_option maxHeartbeats 400000 in
theorem implWalkCost_any (m : Int) (A B : Option Addr) (n c l cb : Nat) (xs : List ArcD) (ys : List Int) (w : World) (hn : n ≤ 1048576) (hl : l ≤ 1048576) (hnx : xs.length = n) (hny : ys.length = l) (hx : ArcsAt w A xs) (hy : IntsAt w B ys) :
    Calls Try.prog 24 #[.agg #[.int .i64 m, .slice A n c], .slice B l cb] w fun e w' => e = .returned (.int .i64 (costI m xs ys)) ∧ Below w.heap.size w w' := by
  have HX := Lib.hid hnx
  have HY := Lib.hid hny
  clear hnx hny
  have hb0 : Past w (w.alloc (.cells #[.int .i64 m, .slice A n c] 25)) := (Past.refl _).alloc _
  go_enter Try.func24, Try.ntmps24
  go_wp2_with fail
  refine (implWalkOk_any m A B n c l cb xs ys _ hn hl HX.out HY.out (hx.below hb0) (hy.below hb0)).mono ?_
  rintro e w1 ⟨rfl, hb1⟩
  have b0 := cell_in (p := ⟨w.heap.size, 0, none⟩) (v := .int .i64 m) hb1 (by go_simp)
  have b1 := cell_in (p := ⟨w.heap.size, 1, none⟩) (v := .slice A n c) hb1 (by go_simp)
  cases hB : okB m xs ys with
  | false =>
    have HB := Lib.hid hB
    clear hB
    go_wp2
    go_ret
    exact ⟨ret_int (by simp [costI, HB.out]), hb0.trans hb1⟩
  | true =>
    have HB := Lib.hid hB
    clear hB
    go_wp2_with fail
    refine (walkCost_any m A B n c l cb xs ys _ HX.out HY.out ((hx.below hb0).below hb1) ((hy.below hb0).below hb1) HB.out).mono ?_
    rintro e w2 ⟨rfl, hb2⟩
    go_wp2
    go_ret
    exact ⟨ret_int (by rw [costI, if_pos HB.out, HY.out]), hb0.trans (Past.trans hb1 hb2)⟩

end Go.Proofs.Ytaojognjkiifmab
