/-
  What a walk costs with its turns: spec.l4Cost, spec.l4Walk, spec.TurnWalk. No condition.
-/
import Derived.Test.YtaojognjkiifmaaTOkS
import Derived.Test.YtaojognjkiifmaaCostS
import Derived.Test.YtaojognjkiifmaaPTurn2
namespace Go.Proofs.Ytaojognjkiifmaa
open Go.RowKit

theorem numOf_at {ys : List Int} {k : Nat} {y : Int} (h : ys[k]? = some y) : numOf ys k = y := by simp [numOf, List.getD_eq_getElem?_getD, h]

set_option maxRecDepth 100000 in
set_option maxHeartbeats 2000000 in
theorem l4Cost_any (B : Option Addr) (l cb : Nat) (ts : List TurnD) (a b : Int) (w : World) (hl : l ≤ 1048576) (hlt : ts.length = l) (ht : TurnsAt w B ts) :
    Calls Try.prog 82 #[.slice B l cb, .int .i64 a, .int .i64 b] w fun e w' => e = .returned (.int .i64 (costF ts a b)) ∧ w = w' := by
  have HL := Lib.hid hlt
  clear hlt
  go_enter Try.func82, Try.ntmps82
  go_wp2
  go_loop [7] (fun i => ∃ k : Nat, k ≤ l ∧ i = .int .i64 k ∧ (ts.take k).any (sameT a b) = false) (fun i => l - (intOf i).toNat)
  case atStart => exact ⟨0, by omega, rfl, by simp⟩
  case round =>
    obtain ⟨k, hk, rfl, hno⟩ := hrel
    have HN := Lib.hid hno
    clear hno
    by_cases hkl : k < l
    · obtain ⟨⟨x0, x1, x2⟩, ha⟩ : ∃ a, ts[k]? = some a := ⟨_, List.getElem?_eq_getElem (by have := HL.out; omega)⟩
      obtain ⟨g, o, rfl, c0, c1, c2⟩ := ht k _ ha
      have HA := Lib.hid ha
      have i0 : (0 : Int) ≤ (k : Int) := by omega
      have i1 : (k : Int) < (l : Int) := by omega
      clear ha
      by_cases h1 : x0 = a
      · have q1 : (x0 == a) = true := by simpa using h1
        by_cases h2 : x1 = b
        · have q2 : (x1 == b) = true := by simpa using h2
          have HV := Lib.hid (costF_first HA.out HN.out (by simp [sameT, h1, h2]))
          clear h1 h2
          go_wp2
          go_ret
          exact ⟨ret_int HV.out.symm, rfl⟩
        · have q2 : (x1 == b) = false := by simpa using h2
          have HM := Lib.hid (any_next HN.out HA.out (by simp [sameT, h2]))
          clear h1 h2
          go_wp2
          go_round
          case rel => exact ⟨k + 1, by omega, by go_num, HM.out⟩
          case measure => simp [intOf]; omega
      · have q1 : (x0 == a) = false := by simpa using h1
        have HM := Lib.hid (any_next HN.out HA.out (by simp [sameT, h1]))
        clear h1
        go_wp2
        go_round
        case rel => exact ⟨k + 1, by omega, by go_num, HM.out⟩
        case measure => simp [intOf]; omega
    · obtain rfl : l = k := by omega
      go_wp2
      go_ret
      exact ⟨ret_int (costF_none (by have := HN.out; rwa [List.take_of_length_le (by have := HL.out; omega)] at this)).symm, rfl⟩

set_option maxRecDepth 100000 in
set_option maxHeartbeats 2000000 in
theorem l4Walk_any (m : Int) (A : Option Addr) (n c : Nat) (xs : List ArcD) (B : Option Addr) (l cb : Nat) (ts : List TurnD) (E : Option Addr) (r ce : Nat) (ys : List Int) (w : World) (hnx : xs.length = n) (hx : ArcsAt w A xs) (hl : l ≤ 1048576) (hlt : ts.length = l) (ht : TurnsAt w B ts) (hry : ys.length = r) (hy : IntsAt w E ys)
    (ho : okB m xs ys = true) (hts : turnsB m xs ts = true) :
    Calls Try.prog 80 #[.agg #[.int .i64 m, .slice A n c], .slice B l cb, .slice E r ce] w fun e w' => e = .returned (.int .i64 (twalkI m xs ts ys)) ∧ Below w.heap.size w w' := by
  have h20 := ok_len ho
  rw [hry] at h20
  have HX := Lib.hid hnx
  have HL := Lib.hid hlt
  have HR := Lib.hid hry
  have HO := Lib.hid ho
  have HT := Lib.hid hts
  clear hnx hlt hry ho hts
  have hb0 : Past w (w.alloc (.cells #[.int .i64 m, .slice A n c] 32)) := (Past.refl _).alloc _
  go_enter Try.func80, Try.ntmps80
  go_wp2_with fail
  refine (l2Cost_any m A E n c r ce xs ys _ HX.out HR.out (hx.below hb0) (hy.below hb0) HO.out).mono ?_
  rintro e w1 ⟨rfl, hb1⟩
  have hp1 := hb0.trans hb1
  have ht1 := ht.below hp1
  have hy1 := hy.below hp1
  have hs := sumTo_bd HO.out r (by rw [HR.out]; exact Nat.le_refl _)
  obtain ⟨S, hS⟩ : ∃ S, S = sumTo xs ys r := ⟨_, rfl⟩
  rw [← hS] at hs ⊢
  have HS := Lib.hid hS
  clear hS hb0 hb1 ht hy hx
  go_wp2
  by_cases hr0 : r = 0
  · subst hr0
    have HV : Hid (twalkI m xs ts ys = S) := by
      rw [Hid, twalkI_ok HT.out HO.out, HR.out, HS.out]
      simp [turnBad, turnSum]
    go_loopw [7, 8] (fun s i wr => i = .int .i64 1 ∧ s = .int .i64 S ∧ Past w1 wr) (fun _ _ _ => 0)
    case atStart => exact ⟨rfl, rfl, Past.refl _⟩
    case round =>
      obtain ⟨rfl, rfl, hb⟩ := hrel
      go_wp2
      go_ret
      exact ⟨ret_int HV.out.symm, hp1.trans hb⟩
  go_loopw [7, 8] (fun s i wr => ∃ k : Nat, k + 1 ≤ r ∧ i = .int .i64 ((k : Int) + 1) ∧ s = .int .i64 (S + turnSum ts ys k) ∧ Past w1 wr ∧ turnBad ts ys k = false) (fun _ i _ => r - (intOf i).toNat)
  case atStart => exact ⟨0, by omega, rfl, by simp [turnSum], Past.refl _, rfl⟩
  case round =>
    obtain ⟨k, hk, rfl, rfl, hb, hno⟩ := hrel
    have HN := Lib.hid hno
    clear hno
    have hsum := turnSum_bd (turnsB_all HT.out).2.2.1 ys k
    by_cases hkr : k + 1 < r
    · obtain ⟨y, ha⟩ : ∃ a, ys[k]? = some a := ⟨_, List.getElem?_eq_getElem (by have := HR.out; omega)⟩
      obtain ⟨y', ha'⟩ : ∃ a, ys[k + 1]? = some a := ⟨_, List.getElem?_eq_getElem (by have := HR.out; omega)⟩
      obtain ⟨g, o, rfl, c0⟩ := (hy1.below hb) k _ ha
      obtain ⟨g', o', eg, c1⟩ := (hy1.below hb) (k + 1) _ ha'
      injection eg with eg
      injection eg with eg1 eg2
      subst eg1 eg2
      have htr := ht1.below hb
      have cT := fun n => l4Cost_any B l cb ts y y' (wr.drewN n) hl HL.out htr
      have HC : Hid (costF ts (numOf ys k) (numOf ys (k + 1)) = costF ts y y') := by rw [Hid, numOf_at ha, numOf_at ha']
      have hcb := costF_bd (turnsB_all HT.out).2.2.1 y y'
      obtain ⟨C, hC⟩ : ∃ C, C = costF ts y y' := ⟨_, rfl⟩
      rw [← hC] at hcb HC
      simp only [← hC] at cT
      clear ha ha' hC
      have i0 : (0 : Int) ≤ (k : Int) := by omega
      have i1 : (k : Int) < (r : Int) := by omega
      have i2 : (0 : Int) ≤ (k : Int) + 1 := by omega
      have i3 : (k : Int) + 1 < (r : Int) := by omega
      have e1 : ((k : Int) + 1).toNat = k + 1 := by omega
      have e2 : IntKind.i64.wrap ((k : Int) + 1 - 1) = (k : Int) := by rw [IntWalk.i64_in _ (by omega)]; omega
      go_wp2_with fail
      go_quiet ((go_at_call 82; with_reducible exact Calls.quiet_of_same ((cT _).mono fun _ _ h => ⟨h.1, h.2.symm⟩)))
      clear cT e1 e2
      by_cases hneg : C < 0
      · have HV : Hid (twalkI m xs ts ys = -1) := twalkI_bad HT.out HO.out (by rw [HR.out]; exact hkr) (by rw [HC.out]; exact hneg)
        go_wp2
        go_ret
        exact ⟨ret_int HV.out.symm, hp1.trans (hb.drewN _)⟩
      · have HM : Hid (turnBad ts ys (k + 1) = false) := by rw [Hid, turnBad, HN.out, HC.out]; simpa using hneg
        have HU : Hid (turnSum ts ys (k + 1) = turnSum ts ys k + C) := by rw [Hid, turnSum, HC.out]
        go_wp2
        go_roundw
        case rel => exact ⟨k + 1, by omega, by go_num, by rw [HU.out]; go_num, hb.drewN _, HM.out⟩
        case measure => simp [intOf]; omega
    · obtain rfl : r = k + 1 := by omega
      have HV : Hid (twalkI m xs ts ys = S + turnSum ts ys k) := by
        rw [Hid, twalkI_ok HT.out HO.out, HR.out, HS.out]
        simp only [Nat.add_sub_cancel]
        rw [HN.out]; simp
      have g1 : ¬ (k : Int) + 1 < ((k + 1 : Nat) : Int) := by omega
      go_wp2
      go_ret
      exact ⟨ret_int HV.out.symm, hp1.trans hb⟩

set_option maxHeartbeats 1000000 in
theorem specTurnWalk_any (m : Int) (A : Option Addr) (n c : Nat) (xs : List ArcD) (B : Option Addr) (l cb : Nat) (ts : List TurnD) (E : Option Addr) (r ce : Nat) (ys : List Int) (w : World) (hn : n ≤ 1048576) (hnx : xs.length = n) (hx : ArcsAt w A xs) (hl : l ≤ 1048576) (hlt : ts.length = l) (ht : TurnsAt w B ts) (hr : r ≤ 1048576) (hry : ys.length = r) (hy : IntsAt w E ys) :
    Calls Try.prog 33 #[.agg #[.int .i64 m, .slice A n c], .slice B l cb, .slice E r ce] w fun e w' => e = .returned (.int .i64 (twalkI m xs ts ys)) ∧ Below w.heap.size w w' := by
  have HX := Lib.hid hnx
  have HL := Lib.hid hlt
  have HR := Lib.hid hry
  clear hnx hlt hry
  have hb0 : Past w (w.alloc (.cells #[.int .i64 m, .slice A n c] 32)) := (Past.refl _).alloc _
  go_enter Try.func33, Try.ntmps33
  go_wp2_with fail
  refine (l1Ok_any m A n c xs _ hn HX.out (hx.below hb0)).mono ?_
  rintro e w1 ⟨rfl, hb1⟩
  have b0 := cell_in (p := ⟨w.heap.size, 0, none⟩) (v := .int .i64 m) hb1 (by go_simp)
  have b1 := cell_in (p := ⟨w.heap.size, 1, none⟩) (v := .slice A n c) hb1 (by go_simp)
  have hp1 := hb0.trans hb1
  clear hb0 hb1
  cases hB : netB m xs with
  | false =>
    have HF : Hid (twalkI m xs ts ys = -1) := twalkI_turns (by rw [turnsB_list, hB]; rfl)
    clear hB
    go_wp2
    go_ret
    exact ⟨ret_int HF.out.symm, hp1⟩
  | true =>
    have HF : Hid (turnsB m xs ts = tlistB xs ts) := by rw [Hid, turnsB_list, hB]; rfl
    have HB := Lib.hid hB
    clear hB
    go_wp2_with fail
    refine (l4Ok_any m A n c xs B l cb ts _ hn HX.out (hx.below hp1) hl HL.out (ht.below hp1)).mono ?_
    rintro e w2 ⟨rfl, hb2⟩
    have b0 := cell_in hb2 b0
    have b1 := cell_in hb2 b1
    have hp2 := hp1.trans hb2
    clear hb2 hp1
    cases hC : tlistB xs ts with
    | false =>
      have HV : Hid (twalkI m xs ts ys = -1) := twalkI_turns (by rw [HF.out, hC])
      clear hC
      go_wp2
      go_ret
      exact ⟨ret_int HV.out.symm, hp2⟩
    | true =>
      have HT : Hid (turnsB m xs ts = true) := by rw [Hid, HF.out, hC]
      clear hC
      go_wp2_with fail
      refine (l2Ok_any m A E n c r ce xs ys _ hn hr HX.out HR.out (hx.below hp2) (hy.below hp2)).mono ?_
      rintro e w3 ⟨rfl, hb3⟩
      have b0 := cell_in hb3 b0
      have b1 := cell_in hb3 b1
      have hp3 := hp2.trans hb3
      clear hb3 hp2
      cases hD : walkB xs ys with
      | false =>
        have HV : Hid (twalkI m xs ts ys = -1) := twalkI_walk (by rw [okB, hD, Bool.and_false])
        clear hD
        go_wp2
        go_ret
        exact ⟨ret_int HV.out.symm, hp3⟩
      | true =>
        have HO : Hid (okB m xs ys = true) := by rw [Hid, okB, hD, HB.out]; rfl
        clear hD
        go_wp2_with fail
        refine (l4Walk_any m A n c xs B l cb ts E r ce ys _ HX.out (hx.below hp3) hl HL.out (ht.below hp3) HR.out (hy.below hp3) HO.out HT.out).mono ?_
        rintro e w4 ⟨rfl, hb4⟩
        go_wp2
        go_ret
        exact ⟨rfl, hp3.trans hb4⟩

end Go.Proofs.Ytaojognjkiifmaa
