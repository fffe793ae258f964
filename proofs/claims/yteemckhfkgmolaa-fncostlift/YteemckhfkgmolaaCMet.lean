/-
  Whether there is a cost for each arc: spec.l9Ok, impl.eachWithin, impl.metricOk. No condition.
-/
import Derived.Test.YteemckhfkgmolaaMList
import Derived.Test.YteemckhfkgmolaaPLift
namespace Go.Proofs.Yteemckhfkgmolaa
open Go.RowKit

set_option maxRecDepth 100000 in
set_option maxHeartbeats 1000000 in
theorem l9Ok_any (m : Int) (A : Option Addr) (n c : Nat) (B : Option Addr) (l cb : Nat) (ys : List Int) (w : World) (hly : ys.length = l) (hl : l ≤ 1048576) (hy : IntsAt w B ys) :
    Calls Try.prog 48 #[.agg #[.int .i64 m, .slice A n c], .slice B l cb] w fun e w' => e = .returned (.bool (decide (ys.length = n) && allB ys)) ∧ Below w.heap.size w w' := by
  have HL := Lib.hid hly
  clear hly
  have hb0 : Past w (w.alloc (.cells #[.int .i64 m, .slice A n c] 25)) := (Past.refl _).alloc _
  go_enter Try.func48, Try.ntmps48
  go_wp2
  go_loopw [5] (fun i wr => ∃ k : Nat, k ≤ l ∧ i = .int .i64 k ∧ Past (w.alloc (.cells #[.int .i64 m, .slice A n c] 25)) wr ∧ (ys.take k).all (fun z => inB z 0 99) = true) (fun i _ => l - (intOf i).toNat)
  case atStart => exact ⟨0, by omega, rfl, Past.refl _, by simp⟩
  case round =>
    obtain ⟨k, hk, rfl, hb, hok⟩ := hrel
    have HK := Lib.hid hok
    clear hok
    have b1 := cell_in (p := ⟨w.heap.size, 1, none⟩) (v := .slice A n c) hb (by go_simp)
    by_cases hlt : k < l
    · obtain ⟨y, ha⟩ : ∃ a, ys[k]? = some a := ⟨_, List.getElem?_eq_getElem (by have := HL.out; omega)⟩
      obtain ⟨g, o, rfl, c0⟩ := ((hy.below hb0).below hb) k _ ha
      have HA := Lib.hid ha
      clear ha
      have i0 : (0 : Int) ≤ (k : Int) := by omega
      have i1 : (k : Int) < (l : Int) := by omega
      go_wp2_with fail
      refine (l1In_any y 0 99 _).mono ?_
      rintro e w1 ⟨rfl, rfl⟩
      cases hB : inB y 0 99 with
      | false =>
        have HB := Lib.hid hB
        clear hB
        go_wp2
        go_ret
        exact ⟨ret_bool (by rw [allB, all_bad HA.out HB.out]; simp), hb0.trans hb⟩
      | true =>
        have HB := Lib.hid hB
        clear hB
        go_wp2
        go_roundw
        case rel => exact ⟨k + 1, by omega, by go_num, hb, all_next HK.out HA.out HB.out⟩
        case measure => simp [intOf]; omega
    · obtain rfl : l = k := by omega
      by_cases hln : l = n
      · have e1 : ((l : Int) == (n : Int)) = true := by simp; omega
        go_wp2
        go_ret
        exact ⟨ret_bool (by rw [allB, ally_done HK.out HL.out, HL.out, decide_eq_true hln]; rfl), hb0.trans hb⟩
      · have e1 : ((l : Int) == (n : Int)) = false := by simp; omega
        go_wp2
        go_ret
        exact ⟨ret_bool (by rw [HL.out, decide_eq_false hln]; rfl), hb0.trans hb⟩

set_option maxRecDepth 100000 in
set_option maxHeartbeats 1000000 in
theorem eachWithinM_any (B : Option Addr) (l cb : Nat) (ys : List Int) (u mo : Int) (w : World) (hl : l ≤ 1048576) (hly : ys.length = l) (hy : IntsAt w B ys) :
    Calls Try.prog 43 #[.slice B l cb, .int .i64 u, .int .i64 mo] w fun e w' => e = .returned (.bool (decide ((ys.length : Int) = u) && ys.all (fun z => inB z 0 mo))) ∧ Below w.heap.size w w' := by
  have HL := Lib.hid hly
  clear hly
  by_cases hlu : (l : Int) = u
  · subst hlu
    go_enter Try.func43, Try.ntmps43
    go_wp2_with fail
    refine (allWithin_any B l cb ys mo _ hl HL.out hy).mono ?_
    rintro e w1 ⟨rfl, hb1⟩
    go_wp2
    go_ret
    exact ⟨ret_bool (by rw [HL.out]; simp), hb1⟩
  · have e1 : ((l : Int) == u) = false := by simpa using hlu
    go_enter Try.func43, Try.ntmps43
    go_wp2
    go_ret
    exact ⟨ret_bool (by rw [HL.out, decide_eq_false hlu]; rfl), Below.refl _ _⟩
theorem eachWithin_any (B : Option Addr) (l cb : Nat) (ys : List Int) (u : Int) (w : World) (hl : l ≤ 1048576) (hly : ys.length = l) (hy : IntsAt w B ys) :
    Calls Try.prog 43 #[.slice B l cb, .int .i64 u, .int .i64 99] w fun e w' => e = .returned (.bool (decide ((ys.length : Int) = u) && allB ys)) ∧ Below w.heap.size w w' :=
  eachWithinM_any B l cb ys u 99 w hl hly hy

set_option maxRecDepth 100000 in
set_option maxHeartbeats 1000000 in
theorem metricOk_any (m : Int) (A : Option Addr) (n c : Nat) (xs : List ArcD) (B : Option Addr) (l cb : Nat) (ys : List Int) (w : World) (hn : n ≤ 1048576) (hnx : xs.length = n) (hx : ArcsAt w A xs) (hl : l ≤ 1048576) (hly : ys.length = l) (hy : IntsAt w B ys) :
    Calls Try.prog 46 #[.agg #[.int .i64 m, .slice A n c], .slice B l cb] w fun e w' => e = .returned (.bool (metricB m xs ys)) ∧ Below w.heap.size w w' := by
  have HX := Lib.hid hnx
  have HL := Lib.hid hly
  clear hnx hly
  have hb0 : Past w (w.alloc (.cells #[.int .i64 m, .slice A n c] 25)) := (Past.refl _).alloc _
  go_enter Try.func46, Try.ntmps46
  go_wp2_with fail
  refine (implNetOk_any m A n c xs _ hn HX.out (hx.below hb0)).mono ?_
  rintro e w1 ⟨rfl, hb1⟩
  have b1 := cell_in (p := ⟨w.heap.size, 1, none⟩) (v := .slice A n c) hb1 (by go_simp)
  have hp1 := hb0.trans hb1
  cases hB : netB m xs with
  | false =>
    have HB := Lib.hid hB
    clear hB
    go_wp2
    go_ret
    exact ⟨ret_bool (by rw [metricB, HB.out]; rfl), hp1⟩
  | true =>
    have HB := Lib.hid hB
    clear hB
    go_wp2_with fail
    refine (eachWithin_any B l cb ys (n : Int) _ hl HL.out (hy.below hp1)).mono ?_
    rintro e w2 ⟨rfl, hb2⟩
    go_wp2
    go_ret
    exact ⟨ret_bool (by rw [metricB, HB.out, HX.out, Bool.true_and]; congr 1; simp; omega), hp1.trans hb2⟩

end Go.Proofs.Yteemckhfkgmolaa
