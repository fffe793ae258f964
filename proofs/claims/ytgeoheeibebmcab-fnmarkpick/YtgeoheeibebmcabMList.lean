/-
  Whether numbers are nodes of a net: spec.l11Nodes, impl.listOk. No condition.
-/
import Derived.Test.YtgeoheeibebmcabNCosts
import Derived.Test.YtgeoheeibebmcabPMany
namespace Go.Proofs.Ytgeoheeibebmcab
open Go.RowKit

theorem all_next {f : Int → Bool} {ys : List Int} {k : Nat} {y : Int} (h : (ys.take k).all f = true) (hy : ys[k]? = some y) (hf : f y = true) : (ys.take (k + 1)).all f = true := by
  rw [List.take_add_one, List.all_append, h, hy]
  simp [hf]
theorem all_bad {f : Int → Bool} {ys : List Int} {k : Nat} {y : Int} (hy : ys[k]? = some y) (hf : f y = false) : ys.all f = false := by
  rw [List.all_eq_false]
  exact ⟨y, List.mem_of_getElem? hy, by rw [hf]; simp⟩
theorem ally_done {f : Int → Bool} {ys : List Int} {k : Nat} (h : (ys.take k).all f = true) (hk : ys.length = k) : ys.all f = true := by
  rw [List.take_of_length_le (by omega)] at h
  exact h

set_option maxRecDepth 100000 in
set_option maxHeartbeats 1000000 in
theorem l11Nodes_any (m : Int) (A : Option Addr) (n c : Nat) (B : Option Addr) (l cb : Nat) (ys : List Int) (w : World) (hm : 1 ≤ m ∧ m ≤ 8) (hl : l ≤ 1048576) (hly : ys.length = l) (hy : IntsAt w B ys) :
    Calls Try.prog 75 #[.agg #[.int .i64 m, .slice A n c], .slice B l cb] w fun e w' => e = .returned (.bool (decide (ys.length ≤ 8) && ys.all (fun z => inB z 0 (m - 1)))) ∧ Below w.heap.size w w' := by
  have HL := Lib.hid hly
  clear hly
  have hb0 : Past w (w.alloc (.cells #[.int .i64 m, .slice A n c] 25)) := (Past.refl _).alloc _
  have hw : IntKind.i64.wrap (m - 1) = m - 1 := IntWalk.i64_in _ (by omega)
  go_enter Try.func75, Try.ntmps75
  go_wp2
  go_loopw [5] (fun i wr => ∃ k : Nat, k ≤ l ∧ i = .int .i64 k ∧ Past (w.alloc (.cells #[.int .i64 m, .slice A n c] 25)) wr ∧ (ys.take k).all (fun z => inB z 0 (m - 1)) = true) (fun i _ => l - (intOf i).toNat)
  case atStart => exact ⟨0, by omega, rfl, Past.refl _, by simp⟩
  case round =>
    obtain ⟨k, hk, rfl, hb, hok⟩ := hrel
    have HK := Lib.hid hok
    clear hok
    have b0 := cell_in (p := ⟨w.heap.size, 0, none⟩) (v := .int .i64 m) hb (by go_simp)
    by_cases hlt : k < l
    · obtain ⟨y, ha⟩ : ∃ a, ys[k]? = some a := ⟨_, List.getElem?_eq_getElem (by have := HL.out; omega)⟩
      obtain ⟨g, o, rfl, c0⟩ := ((hy.below hb0).below hb) k _ ha
      have HA := Lib.hid ha
      clear ha
      have i0 : (0 : Int) ≤ (k : Int) := by omega
      have i1 : (k : Int) < (l : Int) := by omega
      cases hB : inB y 0 (m - 1) with
      | false =>
        have HB := Lib.hid hB
        clear hB
        have e1 : (!inB y 0 (m - 1)) = true := by simp [HB.out]
        go_wp2_with fail
        go_quiet ((go_at_call 59; exact Calls.quiet_of_same ((l1In_any _ _ _ _).mono fun _ _ h => ⟨h.1, h.2.symm⟩)))
        go_wp2
        go_ret
        exact ⟨ret_bool (by rw [all_bad HA.out HB.out]; simp), hb0.trans (hb.drewN _)⟩
      | true =>
        have HB := Lib.hid hB
        clear hB
        have e1 : (!inB y 0 (m - 1)) = false := by simp [HB.out]
        go_wp2_with fail
        go_quiet ((go_at_call 59; exact Calls.quiet_of_same ((l1In_any _ _ _ _).mono fun _ _ h => ⟨h.1, h.2.symm⟩)))
        go_wp2
        go_roundw
        case rel => exact ⟨k + 1, by omega, by go_num, hb.drewN _, all_next HK.out HA.out HB.out⟩
        case measure => simp [intOf]; omega
    · obtain rfl : l = k := by omega
      go_wp2
      go_ret
      refine ⟨ret_bool ?_, hb0.trans hb⟩
      rw [ally_done HK.out HL.out, HL.out]
      simp
      try omega

set_option maxRecDepth 100000 in
set_option maxHeartbeats 1000000 in
theorem listOk_any (m : Int) (A : Option Addr) (n c : Nat) (xs : List ArcD) (B : Option Addr) (l cb : Nat) (ys : List Int) (w : World) (hn : n ≤ 1048576) (hnx : xs.length = n) (hx : ArcsAt w A xs) (hl : l ≤ 1048576) (hly : ys.length = l) (hy : IntsAt w B ys) :
    Calls Try.prog 73 #[.agg #[.int .i64 m, .slice A n c], .slice B l cb] w fun e w' => e = .returned (.bool (listB m xs ys)) ∧ Below w.heap.size w w' := by
  have HX := Lib.hid hnx
  have HL := Lib.hid hly
  clear hnx hly
  have hb0 : Past w (w.alloc (.cells #[.int .i64 m, .slice A n c] 25)) := (Past.refl _).alloc _
  by_cases h8 : l ≤ 8
  · have h8' : (l : Int) ≤ 8 := by omega
    go_enter Try.func73, Try.ntmps73
    go_wp2_with fail
    refine (netHas_any m A n c xs B l cb ys _ hn HX.out (hx.below hb0) hl HL.out (hy.below hb0)).mono ?_
    rintro e w1 ⟨rfl, hb1⟩
    go_wp2
    go_ret
    exact ⟨ret_bool (by rw [listB, HL.out, decide_eq_true h8, Bool.true_and]), hb0.trans hb1⟩
  · have h8' : ¬ (l : Int) ≤ 8 := by omega
    go_enter Try.func73, Try.ntmps73
    go_wp2
    go_ret
    exact ⟨ret_bool (by rw [listB, HL.out, decide_eq_false h8]; simp), hb0⟩

end Go.Proofs.Ytgeoheeibebmcab
