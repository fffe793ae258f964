/-
  What a walk costs with its turns: impl.TurnWalk. No condition.
-/
import Derived.Test.YtjocbjjkihgcdaaTOk
import Derived.Test.YtjocbjjkihgcdaaTWalkS
namespace Go.Proofs.Ytjocbjjkihgcdaa
open Go.RowKit Go.Maps

set_option maxRecDepth 100000 in
set_option maxHeartbeats 2000000 in
theorem implTurnWalk_any (m : Int) (A : Option Addr) (n c : Nat) (xs : List ArcD) (B : Option Addr) (l cb : Nat) (ts : List TurnD) (E : Option Addr) (r ce : Nat) (ys : List Int) (w : World) (hn : n ≤ 1048576) (hnx : xs.length = n) (hx : ArcsAt w A xs) (hl : l ≤ 1048576) (hlt : ts.length = l) (ht : TurnsAt w B ts) (hr : r ≤ 1048576) (hry : ys.length = r) (hy : IntsAt w E ys) :
    Calls Try.prog 25 #[.agg #[.int .i64 m, .slice A n c], .slice B l cb, .slice E r ce] w fun e w' => e = .returned (.int .i64 (twalkI m xs ts ys)) ∧ Below w.heap.size w w' := by
  have HX := Lib.hid hnx
  have HL := Lib.hid hlt
  have HR := Lib.hid hry
  clear hnx hlt hry
  have hb0 : Past w (w.alloc (.cells #[.int .i64 m, .slice A n c] 31)) := (Past.refl _).alloc _
  go_enter Try.func25, Try.ntmps25
  go_wp2_with fail
  refine (implTurnsOk_any m A n c xs B l cb ts _ hn HX.out (hx.below hb0) hl HL.out (ht.below hb0)).mono ?_
  rintro e w1 ⟨rfl, hb1⟩
  have b0 := cell_in (p := ⟨w.heap.size, 0, none⟩) (v := .int .i64 m) hb1 (by go_simp)
  have b1 := cell_in (p := ⟨w.heap.size, 1, none⟩) (v := .slice A n c) hb1 (by go_simp)
  have hp1 := hb0.trans hb1
  clear hb0 hb1
  cases hT : turnsB m xs ts with
  | false =>
    have HV : Hid (twalkI m xs ts ys = -1) := twalkI_turns hT
    clear hT
    go_wp2
    go_ret
    exact ⟨ret_int HV.out.symm, hp1⟩
  | true =>
    have HT := Lib.hid hT
    clear hT
    go_wp2_with fail
    refine (implWalkOk_any m A E n c r ce xs ys _ hn hr HX.out HR.out (hx.below hp1) (hy.below hp1)).mono ?_
    rintro e w2 ⟨rfl, hb2⟩
    have b0 := cell_in hb2 b0
    have b1 := cell_in hb2 b1
    have hp2 := hp1.trans hb2
    clear hb2 hp1
    cases hO : okB m xs ys with
    | false =>
      have HV : Hid (twalkI m xs ts ys = -1) := twalkI_walk hO
      clear hO
      go_wp2
      go_ret
      exact ⟨ret_int HV.out.symm, hp2⟩
    | true =>
      have HO := Lib.hid hO
      have h20 := ok_len hO
      rw [HR.out] at h20
      clear hO
      have h16 := ok_num HO.out
      go_wp2_with fail
      refine (turnCosts_any B l cb ts _ hl HL.out (ht.below hp2) (fun t hm => turn_wf h16 (List.all_eq_true.1 (turnsB_all HT.out).2.2.1 t hm))).mono ?_
      clear h16
      rintro e w3 ⟨P, D, rfl, hown, hM, hb3⟩
      have b0 := cell_in hb3 b0
      have b1 := cell_in hb3 b1
      have hp3 := hp2.trans hb3
      clear hb3 hp2
      have HD := Lib.hid hM.vals
      clear hM
      go_wp2_with fail
      refine (walkCost_any m A E n c r ce xs ys _ HX.out HR.out (hx.below hp3) (hy.below hp3) HO.out).mono ?_
      rintro e w4 ⟨rfl, hb4⟩
      have hown := hown.kept (grown_of_below hb4 none) (by simp)
      have hp4 := hp3.trans hb4
      have hy4 := hy.below hp4
      have hs := sumTo_bd HO.out r (by rw [HR.out]; exact Nat.le_refl _)
      obtain ⟨S, hS⟩ : ∃ S, S = sumTo xs ys r := ⟨_, rfl⟩
      rw [← hS] at hs ⊢
      have HS := Lib.hid hS
      clear hS hp3 hb4 ht hy hx b0 b1
      go_wp2
      by_cases hr0 : r = 0
      · subst hr0
        have HV : Hid (twalkI m xs ts ys = S) := by
          rw [Hid, twalkI_ok HT.out HO.out, HR.out, HS.out]
          simp [turnBad, turnSum]
        go_loopw [8, 9] (fun s i wr => i = .int .i64 1 ∧ s = .int .i64 S ∧ Past w4 wr) (fun _ _ _ => 0)
        case atStart => exact ⟨rfl, rfl, Past.refl _⟩
        case round =>
          obtain ⟨rfl, rfl, hb⟩ := hrel
          go_wp2
          go_ret
          exact ⟨ret_int HV.out.symm, hp4.trans hb⟩
      go_loopw [8, 9] (fun s i wr => ∃ k : Nat, k + 1 ≤ r ∧ i = .int .i64 ((k : Int) + 1) ∧ s = .int .i64 (S + turnSum ts ys k) ∧ Past w4 wr ∧ turnBad ts ys k = false) (fun _ i _ => r - (intOf i).toNat)
      case atStart => exact ⟨0, by omega, rfl, by simp [turnSum], Past.refl _, rfl⟩
      case round =>
        obtain ⟨k, hk, rfl, rfl, hb, hno⟩ := hrel
        have HN := Lib.hid hno
        clear hno
        have hsum := turnSum_bd (turnsB_all HT.out).2.2.1 ys k
        have hown := hown.kept (grown_of_below hb none) (by simp)
        by_cases hkr : k + 1 < r
        · obtain ⟨y, ha⟩ : ∃ a, ys[k]? = some a := ⟨_, List.getElem?_eq_getElem (by have := HR.out; omega)⟩
          obtain ⟨y', ha'⟩ : ∃ a, ys[k + 1]? = some a := ⟨_, List.getElem?_eq_getElem (by have := HR.out; omega)⟩
          obtain ⟨g, o, rfl, c0⟩ := (hy4.below hb) k _ ha
          obtain ⟨g', o', eg, c1⟩ := (hy4.below hb) (k + 1) _ ha'
          injection eg with eg
          injection eg with eg1 eg2
          subst eg1 eg2
          have HC : Hid (costF ts (numOf ys k) (numOf ys (k + 1)) = costF ts y y') := by rw [Hid, numOf_at ha, numOf_at ha']
          have hcb := costF_bd (turnsB_all HT.out).2.2.1 y y'
          obtain ⟨j, a1, e5, hj, _⟩ := ok_arc HO.out ha
          obtain ⟨j', a2, e6, hj', _⟩ := ok_arc HO.out ha'
          have hj16 : j < xs.length := (List.getElem?_eq_some_iff.1 hj).1
          have hj16' : j' < xs.length := (List.getElem?_eq_some_iff.1 hj').1
          have h16 := ok_num HO.out
          obtain ⟨K, hkey⟩ := pair_key y y' (WalkArith.wf_i64 (by omega)) (WalkArith.wf_i64 (by omega))
          have hlook : ∀ q, ∃ c, (Instr.lookup 74 (.map (some P)) (.agg #[.int .i64 y, .int .i64 y']) false).run Try.prog (wr.drewN q) = .ok (.int .i64 c) (wr.drewN q) ∧ D.atKey K (.lit (.int .i64 0)) = .lit (.int .i64 c) := fun q => by
            obtain ⟨c, h1, h2, _⟩ := World.ownsMap.lookup_int (w := wr.drewN q) (q := .i64) (t := 74) (e := 3) hown pairLaw Try.underlying74 Try.underlying3 (by kernel_rfl) hkey
            exact ⟨c, h1, h2⟩
          have hrun : ∀ q, (Instr.lookup 74 (.map (some P)) (.agg #[.int .i64 y, .int .i64 y']) false).run Try.prog (wr.drewN q) = .ok (.int .i64 (costF ts y y')) (wr.drewN q) := fun q => by
            obtain ⟨c, h1, h2⟩ := hlook q
            rw [HD.out y y' K hkey, ← HL.out, costL_all ts y y' (turnsB_all HT.out).2.2.2] at h2
            have h3 : costF ts y y' = c := by simpa using h2
            rw [h1, h3]
          clear hlook hj hj' e5 e6 hj16 hj16' h16 hkey
          obtain ⟨C, hC⟩ : ∃ C, C = costF ts y y' := ⟨_, rfl⟩
          rw [← hC] at hcb HC
          simp only [← hC] at hrun
          clear ha ha' hC
          have i0 : (0 : Int) ≤ (k : Int) := by omega
          have i1 : (k : Int) < (r : Int) := by omega
          have i2 : (0 : Int) ≤ (k : Int) + 1 := by omega
          have i3 : (k : Int) + 1 < (r : Int) := by omega
          have e1 : ((k : Int) + 1).toNat = k + 1 := by omega
          have e2 : IntKind.i64.wrap ((k : Int) + 1 - 1) = (k : Int) := by rw [IntWalk.i64_in _ (by omega)]; omega
          go_wp2_with fail
          go_quiet (fail)
          clear hrun e1 e2
          by_cases hneg : C = -1
          · have q1 : (C == -1) = true := by simpa using hneg
            have HV : Hid (twalkI m xs ts ys = -1) := twalkI_bad HT.out HO.out (by rw [HR.out]; exact hkr) (by rw [HC.out]; omega)
            clear hneg
            go_wp2
            go_ret
            exact ⟨ret_int HV.out.symm, hp4.trans (hb.drewN _)⟩
          · have q1 : (C == -1) = false := by simpa using hneg
            have HM : Hid (turnBad ts ys (k + 1) = false) := by rw [Hid, turnBad, HN.out, HC.out]; simp; omega
            have HU : Hid (turnSum ts ys (k + 1) = turnSum ts ys k + C) := by rw [Hid, turnSum, HC.out]
            have hneg' : 0 ≤ C := by omega
            clear hneg
            go_wp2
            go_roundw
            case rel => exact ⟨k + 1, by omega, by go_num, by rw [HU.out]; go_num, hb.drewN _, HM.out⟩
            case measure => simp [intOf]; omega
        · obtain rfl : r = k + 1 := by omega
          have HV : Hid (twalkI m xs ts ys = S + turnSum ts ys k) := by
            rw [Hid, twalkI_ok HT.out HO.out, HR.out, HS.out]
            simp only [Nat.add_sub_cancel]
            rw [HN.out]; simp
          have g1 : ¬ (k : Int) + 1 < ((k + 1 : Nat) : Int) := by omega
          go_wp2
          go_ret
          exact ⟨ret_int HV.out.symm, hp4.trans hb⟩

end Go.Proofs.Ytjocbjjkihgcdaa
