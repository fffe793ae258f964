/-
  impl's walk.ok and impl.WalkOk answer by 'okB'.
-/
import Derived.Test.YtaojognjkiifmabWalk
namespace Go.Proofs.Ytaojognjkiifmab
open Go.RowKit

theorem flip_eq {a b : Int} (h : (a != b) = false) : (b == a) = true := by simp at h; simp [h]
theorem flip_ne {a b : Int} (h : (a != b) = true) : (b == a) = false := by simp at h; simp; exact fun e => h e.symm

set_option maxHeartbeats 1000000 in
theorem walkOk_any (m : Int) (A B : Option Addr) (n c l cb : Nat) (xs : List ArcD) (ys : List Int) (w : World) (hn : n ≤ 1048576) (hl : l ≤ 2097152) (hnx : xs.length = n) (hny : ys.length = l) (hx : ArcsAt w A xs) (hy : IntsAt w B ys) :
    Calls Try.prog 102 #[.agg #[.int .i64 m, .slice A n c, .slice B l cb]] w fun e w' => e = .returned (.bool (okB m xs ys)) ∧ Below w.heap.size w w' := by
  have HX := Lib.hid hnx
  have HY := Lib.hid hny
  clear hnx hny
  have hb0 : Past w (w.alloc (.cells #[.int .i64 m, .slice A n c, .slice B l cb] 90)) := (Past.refl _).alloc _
  go_enter Try.func102, Try.ntmps102
  go_wp2_with fail
  refine (implNetOk_any m A n c xs _ hn HX.out (hx.below hb0)).mono ?_
  rintro e w1 ⟨rfl, hb1⟩
  have b0 := cell_in (p := ⟨w.heap.size, 0, none⟩) (v := .int .i64 m) hb1 (by go_simp)
  have b1 := cell_in (p := ⟨w.heap.size, 1, none⟩) (v := .slice A n c) hb1 (by go_simp)
  have b2 := cell_in (p := ⟨w.heap.size, 2, none⟩) (v := .slice B l cb) hb1 (by go_simp)
  cases hB : netB m xs with
  | false =>
    have HB := Lib.hid hB
    clear hB
    go_wp2
    go_ret
    exact ⟨ret_bool (by simp [okB, HB.out]), hb0.trans hb1⟩
  | true =>
    have HB := Lib.hid hB
    clear hB
    by_cases h20 : 20 < l
    · have h20' : (20 : Int) < (l : Int) := by omega
      go_wp2
      go_ret
      exact ⟨ret_bool (by simp [okB, HB.out, walkB_long (xs := xs) (ys := ys) (by rw [HY.out]; exact h20)]), hb0.trans hb1⟩
    have h20' : ¬ (20 : Int) < (l : Int) := by omega
    have hx1 := (hx.below hb0).below hb1
    have hy1 := (hy.below hb0).below hb1
    have hb01 := hb0.trans hb1
    clear hb1 hb0 hx hy
    go_wp2
    go_loopw [18] (fun i wr => ∃ k : Nat, k ≤ l ∧ i = .int .i64 k ∧ Past w1 wr ∧ StepsTo xs ys k) (fun i _ => l - (intOf i).toNat)
    case atStart => exact ⟨0, by omega, rfl, Past.refl _, fun j h => absurd h (by omega)⟩
    case round =>
      obtain ⟨k, hk, rfl, hb, hok⟩ := hrel
      have b0 := cell_in hb b0
      have b1 := cell_in hb b1
      have b2 := cell_in hb b2
      by_cases hlt : k < l
      · obtain ⟨y, ha⟩ : ∃ a, ys[k]? = some a := ⟨_, List.getElem?_eq_getElem (by have := HY.out; omega)⟩
        obtain ⟨g, o, rfl, c0⟩ := (hy1.below hb) k _ ha
        have HA := Lib.hid ha
        clear ha
        have i0 : (0 : Int) ≤ (k : Int) := by omega
        have i1 : (k : Int) < (l : Int) := by omega
        cases hB : inB y 0 ((n : Int) - 1) with
        | false =>
          have HB' := Lib.hid hB
          clear hB
          go_wp2_with fail
          refine (within_any _ _ _).mono ?_
          rintro e w2 ⟨rfl, rfl⟩
          rw [HB'.out]
          go_wp2
          go_ret
          exact ⟨ret_bool (by simp [okB, walkB_bad (xs := xs) (k := k) (by have := HY.out; omega) (stepB_out HA.out (by rw [HX.out]; exact HB'.out))]), hb01.trans hb⟩
        | true =>
          obtain ⟨j, ⟨f, t, c', l', d⟩, rfl, hj⟩ := in_arc (xs := xs) (y := y) (by rw [HX.out]; exact hB)
          obtain ⟨g', o', rfl, d0, d1, d2, d3, d4⟩ := (hx1.below hb) j _ hj
          have hjn : j < n := by rw [← HX.out]; exact (List.getElem?_eq_some_iff.1 hj).1
          have HJ := Lib.hid hj
          have HB' := Lib.hid hB
          clear hB hj
          have j0 : (0 : Int) ≤ (j : Int) := by omega
          have j1 : (j : Int) < (n : Int) := by omega
          go_wp2_with fail
          refine (within_any _ _ _).mono ?_
          rintro e w2 ⟨rfl, rfl⟩
          rw [HB'.out]
          by_cases hk0 : k = 0
          · have k1 : decide (0 < k) = false := by simp; omega
            have HK := Lib.hid hk0
            clear hk0
            go_wp2_with fail
            go_quiet (fail)
            go_wp2
            go_roundw
            case rel => exact ⟨k + 1, by omega, by go_num, hb.drewN _, hok.next (by have e := HK.out; subst e; exact stepB_first HA.out (by rw [HX.out]; exact HB'.out))⟩
            case measure => simp [intOf]; omega
          · have hp : stepB xs ys (k - 1) = true := hok (k - 1) (by omega)
            obtain ⟨y', ha'⟩ : ∃ a, ys[k - 1]? = some a := ⟨_, List.getElem?_eq_getElem (by have := HY.out; omega)⟩
            obtain ⟨j', ⟨f', t', c'', l'', d'⟩, rfl, hj'⟩ := stepB_arc hp ha'
            obtain ⟨g'', o'', eg, e0, e1', e2, e3, e4⟩ := (hx1.below hb) j' _ hj'
            injection eg with eg
            injection eg with eg1 eg2
            subst eg1 eg2
            obtain ⟨g3, o3, eg, c1⟩ := (hy1.below hb) (k - 1) _ ha'
            injection eg with eg
            injection eg with eg1 eg2
            subst eg1 eg2
            have hjn' : j' < n := by rw [← HX.out]; exact (List.getElem?_eq_some_iff.1 hj').1
            have HS := Lib.hid (stepB_in hk0 HA.out ha' HJ.out hj')
            clear ha' hj' hp
            have k1 : decide (0 < k) = true := by simp; omega
            have k2 : IntKind.i64.wrap ((k : Int) - 1) = (k : Int) - 1 := IntWalk.i64_in _ (by omega)
            have k3 : (0 : Int) ≤ (k : Int) - 1 := by omega
            have k4 : (k : Int) - 1 < (l : Int) := by omega
            have k5 : ((k : Int) - 1).toNat = k - 1 := by omega
            have j2 : (0 : Int) ≤ (j' : Int) := by omega
            have j3 : (j' : Int) < (n : Int) := by omega
            go_wp2_with fail
            go_quiet (fail)
            go_wp2
            case roundEnd =>
              go_roundw
              case rel => exact ⟨k + 1, by omega, by go_num, hb.drewN _, hok.next (by rw [HS.out]; exact flip_eq (a := t') (b := f) (by assumption))⟩
              case measure => simp [intOf]; omega
            all_goals go_ret
            all_goals exact ⟨ret_bool (by rw [okB, walkB_bad (k := k) (by have := HY.out; omega) (by rw [HS.out]; exact flip_ne (a := t') (b := f) (by assumption))]; simp), hb01.trans (hb.drewN _)⟩
      · obtain rfl : l = k := by omega
        go_wp2
        go_ret
        refine ⟨ret_bool ?_, hb01.trans hb⟩
        have hy' := HY.out
        rw [okB, HB.out, (walkB_iff xs ys).2 ⟨by omega, by rw [hy']; exact hok⟩]
        rfl

set_option maxHeartbeats 400000 in
theorem implWalkOk_wide (m : Int) (A B : Option Addr) (n c l cb : Nat) (xs : List ArcD) (ys : List Int) (w : World) (hn : n ≤ 1048576) (hl : l ≤ 2097152) (hnx : xs.length = n) (hny : ys.length = l) (hx : ArcsAt w A xs) (hy : IntsAt w B ys) :
    Calls Try.prog 67 #[.agg #[.int .i64 m, .slice A n c], .slice B l cb] w fun e w' => e = .returned (.bool (okB m xs ys)) ∧ Below w.heap.size w w' := by
  have HX := Lib.hid hnx
  have HY := Lib.hid hny
  clear hnx hny
  have hb0 : Past w (w.alloc (.cells #[.int .i64 m, .slice A n c] 25)) := (Past.refl _).alloc _
  go_enter Try.func67, Try.ntmps67
  go_wp2_with fail
  refine (walkOk_any m A B n c l cb xs ys _ hn hl HX.out HY.out (hx.below hb0) (hy.below hb0)).mono ?_
  rintro e w1 ⟨rfl, hb1⟩
  go_wp2
  go_ret
  exact ⟨rfl, hb0.trans hb1⟩

theorem implWalkOk_any (m : Int) (A B : Option Addr) (n c l cb : Nat) (xs : List ArcD) (ys : List Int) (w : World) (hn : n ≤ 1048576) (hl : l ≤ 1048576) (hnx : xs.length = n) (hny : ys.length = l) (hx : ArcsAt w A xs) (hy : IntsAt w B ys) :
    Calls Try.prog 67 #[.agg #[.int .i64 m, .slice A n c], .slice B l cb] w fun e w' => e = .returned (.bool (okB m xs ys)) ∧ Below w.heap.size w w' :=
  implWalkOk_wide m A B n c l cb xs ys w hn (by omega) hnx hny hx hy

end Go.Proofs.Ytaojognjkiifmab
