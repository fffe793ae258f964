/-
  FnTurnWalk answers true at every input: a walk with its turns costs no less than without; with what is forbidden it cannot be gone. No condition.
-/
import Derived.Test.YtjocbjjkihgcdaaTWalk
import Derived.Test.YtjocbjjkihgcdaaPTurn3
import Derived.Test.YtjocbjjkihgcdaaDrawTurnWalk
import Derived.Test.YtjocbjjkihgcdaaOpenB
import Derived.Test.YtjocbjjkihgcdaaQPast
import Derived.Test.YtjocbjjkihgcdaaForm2
namespace Go.Proofs.Ytjocbjjkihgcdaa
open Go.ChangeShapes Go.WideShapes Go.ChangeAt Go.RowKit

theorem at_nilT (w : World) : TurnsAt w none [] := fun k a h => by simp at h

set_option maxRecDepth 100000 in
set_option maxHeartbeats 20000000 in
theorem fnTurnWalk_walk (A : Option Addr) (n c : Nat) (w : World) (hn : n ≤ c) (hc : c ≤ maxLen) (hb : BytesAt w A n) :
    Calls Try.prog 7 #[.slice A n c] w fun e w' => e = .returned (.bool true) ∧ Below w.heap.size w w' := by
  by_cases h1 : 1048576 < n
  · have h1' : (1048576 : Int) < (n : Int) := by omega
    go_enter Try.func7, Try.ntmps7
    go_wp2
    go_ret
    exact ⟨rfl, Below.refl _ _⟩
  have h1' : ¬ (1048576 : Int) < (n : Int) := by omega
  go_enter Try.func7, Try.ntmps7
  go_wp2_with fail
  refine (drawTurnWalk_any A n c w hn hc hb).mono ?_
  rintro e w1 ⟨m, B, k, cap, xs, u, ts, v, ys, rfl, hxk, hk, hx1, htl, hu, hzl, hv, hb1⟩
  obtain ⟨E, ce, rfl, ht1, _⟩ := hu.form
  obtain ⟨F, cf, rfl, hy1, _⟩ := hv.form2
  obtain ⟨l, hl⟩ : ∃ l, l = ts.length := ⟨_, rfl⟩
  obtain ⟨r, hr⟩ : ∃ r, r = ys.length := ⟨_, rfl⟩
  rw [← hl] at htl ⊢
  rw [← hr] at hzl ⊢
  have HX := Lib.hid hxk
  have HT := Lib.hid hl.symm
  have HY := Lib.hid hr.symm
  clear hl hr hxk hu hv hn hc hb
  obtain ⟨W, hW⟩ : ∃ W, W = w1.alloc (.cells #[.int .i64 m, .slice B k cap] 31) := ⟨_, rfl⟩
  have hpW : Past w1 W := by rw [hW]; exact (Past.refl w1).alloc _
  have b0 : W.cell? ⟨w1.heap.size, 0, none⟩ = some (.int .i64 m) := by rw [hW]; go_simp
  have b1 : W.cell? ⟨w1.heap.size, 1, none⟩ = some (.slice B k cap) := by rw [hW]; go_simp
  have hxW := hx1.below hpW
  have htW := ht1.below hpW
  have hyW := hy1.below hpW
  have hbW : Past w W := Past.trans hb1 hpW
  go_wp2_with fail
  rw [← hW]
  clear hW hx1 ht1 hy1 hpW hb1
  -- every call that is made, in a later world
  have C1 := Lib.hid (fun q : PastOf W => implTurnWalk_any m B k cap xs E l ce ts F r cf ys q.W (by omega) HX.out (hxW.below q.h) (by omega) HT.out (htW.below q.h) (by omega) HY.out (hyW.below q.h))
  have C2 := Lib.hid (fun q : PastOf W => specTurnWalk_any m B k cap xs E l ce ts F r cf ys q.W (by omega) HX.out (hxW.below q.h) (by omega) HT.out (htW.below q.h) (by omega) HY.out (hyW.below q.h))
  have C3 := Lib.hid (fun q : PastOf W => implTurnsOk_any m B k cap xs E l ce ts q.W (by omega) HX.out (hxW.below q.h) (by omega) HT.out (htW.below q.h))
  have C4 := Lib.hid (fun q : PastOf W => implWalkOk_any m B F k cap r cf xs ys q.W (by omega) (by omega) HX.out HY.out (hxW.below q.h) (hyW.below q.h))
  have C5 := Lib.hid (fun q : PastOf W => implWalkCost_any m B F k cap r cf xs ys q.W (by omega) (by omega) HX.out HY.out (hxW.below q.h) (hyW.below q.h))
  have C6 := Lib.hid (fun q : PastOf W => implTurnWalk_any m B k cap xs none 0 0 [] F r cf ys q.W (by omega) HX.out (hxW.below q.h) (by omega) rfl (at_nilT _) (by omega) HY.out (hyW.below q.h))
  rw [twalkI_nil] at C6
  have q0 : PastOf W := ⟨W, Past.refl _⟩
  refine (C1.out ⟨W, Past.refl _⟩).mono ?_
  rintro e w2 ⟨rfl, hb2⟩
  have hp2 : Past W w2 := hb2
  have b0' := cell_in hp2 b0
  have b1' := cell_in hp2 b1
  obtain ⟨C, hC⟩ : ∃ C, C = twalkI m xs ts ys := ⟨_, rfl⟩
  rw [← hC] at C1 C2 ⊢
  have HC := Lib.hid hC
  clear hC hb2
  go_wp2_with fail
  refine (C2.out ⟨w2, hp2⟩).mono ?_
  rintro e w3 ⟨rfl, hb3⟩
  have hp3 : Past W w3 := Past.trans hp2 hb3
  have b0' := cell_in hb3 b0'
  have b1' := cell_in hb3 b1'
  clear hb3 hp2
  go_wp2_with fail
  refine (C3.out ⟨w3, hp3⟩).mono ?_
  rintro e w4 ⟨rfl, hb4⟩
  have hp4 : Past W w4 := Past.trans hp3 hb4
  have b0' := cell_in hb4 b0'
  have b1' := cell_in hb4 b1'
  clear hb4 hp3
  cases hTO : turnsB m xs ts with
  | false =>
    clear hTO
    go_wp2_with fail
    refine (C2.out ⟨w4, hp4⟩).mono ?_
    rintro e w5 ⟨rfl, hb5⟩
    go_wp2
    go_ret
    exact ⟨rfl, hbW.trans (hp4.trans hb5)⟩
  | true =>
  have HTO := Lib.hid hTO
  clear hTO
  go_wp2_with fail
  refine (C4.out ⟨w4, hp4⟩).mono ?_
  rintro e w5 ⟨rfl, hb5⟩
  have hp5 : Past W w5 := Past.trans hp4 hb5
  have b0' := cell_in hb5 b0'
  have b1' := cell_in hb5 b1'
  clear hb5 hp4
  cases hOK : okB m xs ys with
  | false =>
    clear hOK
    go_wp2_with fail
    refine (C2.out ⟨w5, hp5⟩).mono ?_
    rintro e w6 ⟨rfl, hb6⟩
    go_wp2
    go_ret
    exact ⟨rfl, hbW.trans (hp5.trans hb6)⟩
  | true =>
  have HO := Lib.hid hOK
  clear hOK
  have hS0 := sumTo_bd HO.out r (by rw [HY.out]; exact Nat.le_refl _)
  have hr20 := ok_len HO.out
  rw [HY.out] at hr20
  have hcs := okB_long HO.out
  rw [HY.out] at hcs
  obtain ⟨S, hS⟩ : ∃ S, S = sumTo xs ys r := ⟨_, rfl⟩
  rw [← hS] at hS0 hcs
  rw [hcs] at C5 C6
  have HS := Lib.hid hS
  clear hS hcs
  go_wp2_with fail
  refine (C5.out ⟨w5, hp5⟩).mono ?_
  rintro e w6 ⟨rfl, hb6⟩
  have hp6 : Past W w6 := Past.trans hp5 hb6
  clear hb6 hp5 b0' b1' C3 C4 C1 C2
  have B0 := past_cell b0
  have B1 := past_cell b1
  have hCb : ∀ (bb : Bool) (T : Int), C = (if bb then -1 else S + T) → True := fun _ _ _ => trivial
  clear hCb
  go_wp2
  by_cases hr0 : r = 0
  · subst hr0
    have hCS : C = S := by
      rw [HC.out, twalkI_ok HTO.out HO.out, HY.out, ← HS.out]
      simp [turnBad, turnSum]
    subst hCS
    go_loopw [7, 8, 9] (fun b s i wr => b = .bool false ∧ i = .int .i64 1 ∧ s = .int .i64 C ∧ Past W wr) (fun _ _ _ _ => 0)
    case atStart => exact ⟨rfl, rfl, rfl, hp6⟩
    case round =>
      obtain ⟨rfl, rfl, rfl, hb⟩ := hrel
      have D5 := Lib.hid (fun q : PastOf wr => C5.out ⟨q.W, hb.trans q.h⟩)
      have D6 := Lib.hid (fun q : PastOf wr => C6.out ⟨q.W, hb.trans q.h⟩)
      have B0 := past_cell (cell_in hb b0)
      have B1 := past_cell (cell_in hb b1)
      clear b0 b1
      go_wp2_with fail
      refine wp_region_past (by kernel_rfl) (by kernel_rfl) ?_
      repeat (go_big_quiet_step (with_reducible exact rfl))
      go_big_quiet_step ((go_at_call 25; exact past_call (D6.out _)))
      repeat (go_big_quiet_step (with_reducible exact rfl))
      go_big_quiet_step ((go_at_call 38; exact past_call (D5.out _)))
      repeat (go_big_quiet_step (with_reducible exact rfl))
      refine wpQuiet_nil ?_
      rintro _ ⟨⟨W8, hW8⟩, rfl⟩
      go_wp2
      go_ret
      exact ⟨rfl, hbW.trans (hb.trans hW8)⟩
  clear B0 B1
  have hall := (turnsB_all HTO.out).2.2.1
  have hfree := (turnsB_all HTO.out).2.2.2
  have HALL := Lib.hid hall
  have HFREE := Lib.hid hfree
  clear hall hfree
  go_loopw [7, 8, 9] (fun b s i wr => ∃ (j : Nat) (bb : Bool), j + 1 ≤ r ∧ i = .int .i64 ((j : Int) + 1) ∧ s = .int .i64 (S + turnSum ts ys j) ∧ b = .bool bb ∧ Hid (bb = turnBad ts ys j) ∧ Past W wr) (fun _ _ i _ => r - (intOf i).toNat)
  case atStart => exact ⟨0, false, by omega, rfl, by simp [turnSum], rfl, rfl, hp6⟩
  case round =>
    obtain ⟨j, bb, hj, rfl, rfl, rfl, HBB, hb⟩ := hrel
    have hsum := turnSum_bd HALL.out ys j
    by_cases hjr : j + 1 < r
    · obtain ⟨y, ha⟩ : ∃ a, ys[j]? = some a := ⟨_, List.getElem?_eq_getElem (by have := HY.out; omega)⟩
      obtain ⟨y', ha'⟩ : ∃ a, ys[j + 1]? = some a := ⟨_, List.getElem?_eq_getElem (by have := HY.out; omega)⟩
      obtain ⟨g, o, rfl, c0⟩ := (hyW.below hb) j _ ha
      obtain ⟨g', o', eg, c1⟩ := (hyW.below hb) (j + 1) _ ha'
      injection eg with eg
      injection eg with eg1 eg2
      subst eg1 eg2
      have HNX : Hid (turnSum ts ys (j + 1) = turnSum ts ys j + costF ts y y') := by
        have e1 := numOf_at ha
        have e2 := numOf_at ha'
        rw [Hid, turnSum, e1, e2]
      have HNB : Hid (turnBad ts ys (j + 1) = (bb || decide (costF ts y y' < 0))) := by
        have e1 := numOf_at ha
        have e2 := numOf_at ha'
        rw [Hid, turnBad, e1, e2, HBB.out]
      obtain ⟨T, hT⟩ : ∃ T, T = turnSum ts ys j := ⟨_, rfl⟩
      rw [← hT] at hsum ⊢
      rw [← hT] at HNX
      clear ha ha' hT HBB
      have i0 : (0 : Int) ≤ (j : Int) := by omega
      have i1 : (j : Int) < (r : Int) := by omega
      have i2 : (0 : Int) ≤ (j : Int) + 1 := by omega
      have i3 : (j : Int) + 1 < (r : Int) := by omega
      have htr := htW.below hb
      go_wp2
      go_loopw [7, 8, 10] (fun b s q wi => ∃ (i : Nat) (bi : Bool), i ≤ l ∧ q = .int .i64 i ∧ s = .int .i64 (S + T + costL ts y y' i) ∧ b = .bool bi ∧ Hid (bi = (bb || decide (costL ts y y' i < 0))) ∧ Past wr wi) (fun _ _ q _ => l - (intOf q).toNat)
      case atStart => exact ⟨0, bb, Nat.zero_le _, rfl, by simp [costL], rfl, by simp [Hid, costL], Past.refl _⟩
      case round =>
        obtain ⟨i, bi, hil, rfl, rfl, rfl, HBI, hbi⟩ := hrel
        have hcl := costL_bd HALL.out y y' i
        have c0 := cell_in hbi c0
        have c1 := cell_in hbi c1
        by_cases hlt : i < l
        · obtain ⟨⟨s0, s1, s2⟩, hs⟩ : ∃ a, ts[i]? = some a := ⟨_, List.getElem?_eq_getElem (by have := HT.out; omega)⟩
          obtain ⟨g5, o5, rfl, z0, z1, z2⟩ := (htr.below hbi) i _ hs
          have n0 : (0 : Int) ≤ (i : Int) := by omega
          have n1 : (i : Int) < (l : Int) := by omega
          have e1 : ((j : Int) + 1).toNat = j + 1 := by omega
          have e2 : IntKind.i64.wrap ((j : Int) + 1 - 1) = (j : Int) := by rw [IntWalk.i64_in _ (by omega)]; omega
          by_cases hmiss : s0 = y ∧ s1 = y'
          · have hsame : sameT y y' ⟨s0, s1, s2⟩ = true := sameT_iff.2 hmiss
            have hz := costL_first hs HFREE.out hsame
            have hnx := costL_hit hs hsame
            simp only at hnx
            have hs2 := costL_bd HALL.out y y' (i + 1)
            rw [hnx] at hs2
            have q1 : (s0 == y) = true := by simpa using hmiss.1
            have q2 : (s1 == y') = true := by simpa using hmiss.2
            have HBN : Hid (bi = bb) := by
              have := HBI.out
              rw [hz] at this
              rw [Hid]
              simpa using this
            have HN := Lib.hid hnx
            have HZ := Lib.hid hz
            clear hmiss hz hnx hs hcl HBI
            rw [HZ.out]
            go_wp2_with fail
            go_quiet (fail)
            clear e1 e2
            cases bi with
            | true =>
              go_wp2
              go_roundw
              case rel => exact ⟨i + 1, true, by omega, by go_num, by rw [HN.out], rfl, by have := HBN.out; rw [Hid, ← this]; rfl, hbi.drewN _⟩
              case measure => simp [intOf]; omega
            | false =>
              by_cases hneg : s2 < 0
              · go_wp2
                go_roundw
                case rel => exact ⟨i + 1, true, by omega, by go_num, by rw [HN.out], rfl, by rw [Hid, HN.out]; simp [hneg], hbi.drewN _⟩
                case measure => simp [intOf]; omega
              · go_wp2
                go_roundw
                case rel => exact ⟨i + 1, false, by omega, by go_num, by rw [HN.out], rfl, by have := HBN.out; rw [Hid, HN.out, ← this]; simp; omega, hbi.drewN _⟩
                case measure => simp [intOf]; omega
          · have hsame : sameT y y' ⟨s0, s1, s2⟩ = false := by rw [Bool.eq_false_iff]; exact fun h => hmiss (sameT_iff.1 h)
            have hnx := costL_miss hs hsame
            have HN := Lib.hid hnx
            clear hnx hs
            by_cases h1 : s0 = y
            · have q1 : (s0 == y) = true := by simpa using h1
              have q2 : (s1 == y') = false := by simpa using fun e => hmiss ⟨h1, e⟩
              clear hmiss h1
              go_wp2_with fail
              go_quiet (fail)
              clear e1 e2
              go_wp2
              go_roundw
              case rel => exact ⟨i + 1, bi, by omega, by go_num, by rw [HN.out], rfl, by rw [HN.out]; exact HBI, hbi.drewN _⟩
              case measure => simp [intOf]; omega
            · have q1 : (s0 == y) = false := by simpa using h1
              clear hmiss h1
              go_wp2_with fail
              go_quiet (fail)
              clear e1 e2
              go_wp2
              go_roundw
              case rel => exact ⟨i + 1, bi, by omega, by go_num, by rw [HN.out], rfl, by rw [HN.out]; exact HBI, hbi.drewN _⟩
              case measure => simp [intOf]; omega
        · obtain rfl : i = l := by omega
          have hcf : costL ts y y' i = costF ts y y' := by rw [← HT.out]; exact costL_all ts y y' HFREE.out
          rw [hcf] at HBI hcl ⊢
          clear hcf
          go_wp2
          go_roundw
          case rel => exact ⟨j + 1, bi, by omega, by go_num, by rw [HNX.out]; go_num, rfl, by rw [Hid, HNB.out]; exact HBI.out, hb.trans hbi⟩
          case measure => simp [intOf]; omega
    · obtain rfl : r = j + 1 := by omega
      have hCv : C = if bb then -1 else S + turnSum ts ys j := by
        rw [HC.out, twalkI_ok HTO.out HO.out, HY.out, HBB.out, HS.out]
        simp only [Nat.add_sub_cancel]
      obtain ⟨T, hT⟩ : ∃ T, T = turnSum ts ys j := ⟨_, rfl⟩
      rw [← hT] at hsum hCv ⊢
      have g1 : ¬ (j : Int) + 1 < ((j + 1 : Nat) : Int) := by omega
      have D5 := Lib.hid (fun q : PastOf wr => C5.out ⟨q.W, hb.trans q.h⟩)
      have D6 := Lib.hid (fun q : PastOf wr => C6.out ⟨q.W, hb.trans q.h⟩)
      have B0 := past_cell (cell_in hb b0)
      have B1 := past_cell (cell_in hb b1)
      clear b0 b1 hT HC
      cases bb with
      | true =>
        rw [if_pos rfl] at hCv
        subst hCv
        go_wp2_with fail
        refine wp_region_past (by kernel_rfl) (by kernel_rfl) ?_
        repeat (go_big_quiet_step (with_reducible exact rfl))
        go_big_quiet_step ((go_at_call 25; exact past_call (D6.out _)))
        repeat (go_big_quiet_step (with_reducible exact rfl))
        go_big_quiet_step ((go_at_call 38; exact past_call (D5.out _)))
        repeat (go_big_quiet_step (with_reducible exact rfl))
        refine wpQuiet_nil ?_
        rintro _ ⟨⟨W8, hW8⟩, rfl⟩
        go_wp2
        go_ret
        exact ⟨rfl, hbW.trans (hb.trans hW8)⟩
      | false =>
        rw [if_neg (by simp)] at hCv
        subst hCv
        go_wp2_with fail
        refine wp_region_past (by kernel_rfl) (by kernel_rfl) ?_
        repeat (go_big_quiet_step (with_reducible exact rfl))
        go_big_quiet_step ((go_at_call 25; exact past_call (D6.out _)))
        repeat (go_big_quiet_step (with_reducible exact rfl))
        go_big_quiet_step ((go_at_call 38; exact past_call (D5.out _)))
        repeat (go_big_quiet_step (with_reducible exact rfl))
        refine wpQuiet_nil ?_
        rintro _ ⟨⟨W8, hW8⟩, rfl⟩
        go_wp2
        go_ret
        exact ⟨rfl, hbW.trans (hb.trans hW8)⟩

set_option maxRecDepth 100000 in
theorem fnTurnWalk_lifted (os : Os) (started : os.Started) (H : Type) (enc : TypeId × Value → H) :
    ReturnsInHanded {} Try.checked os 7 .any (Rows.fnTurnWalkSpec.pre6 enc Try.prog Try.f7 Rows.fnTurnWalkRow.domain false) (Rows.fnTurnWalkSpec.post enc Try.prog Try.f7 false true false false) := by
  refine returnsInHanded_of_change (C := Try.checked) own started (by kernel_rfl) Try.func7
    (ChangeSpec.witness6 (enc := enc) (C := Try.checked) false ⟨#[], #[.slice none 0 0], []⟩ 8 (by kernel_rfl) (by kernel_rfl) (by kernel_rfl) (by kernel_rfl)) ?_
  intro W base args ds gs before hval0 hW hcnd _
  have hval : ∀ (j : Nat) t v, Try.f7.params[j]? = some t → args[j]? = some v → Value.okWide Try.prog W .any base t v := hval0
  have hW' := hW
  obtain ⟨p, q, hA0, hV, rfl, hfz, hnd⟩ := hW
  have hA : DataW.TrodAll enc Try.prog W 0 (fun _ => true) true Try.f7.params.toList args.toList ds p := hA0
  rw [Try.params7] at hA hval
  obtain ⟨v0, vs0, d0, ds0, p0, q0, hargs, rfl, rfl, h0, r0⟩ := trodAll_cons hA
  obtain ⟨rfl, rfl, rfl⟩ := trodAll_nil r0
  obtain rfl : args = #[v0] := by cases args; simp_all
  obtain ⟨rfl, rfl⟩ := trodVars_none hV
  have k0 := h0
  have lt0 := places_lt k0
  obtain ⟨A0, n0, c0, rfl, hn0, hc0, hb0⟩ := open_bytes (hval 0 50 v0 rfl rfl) h0
  clear hA0 hval0
  refine (fnTurnWalk_walk A0 n0 c0 W hn0 hc0 hb0).mono fun e W' ⟨he, bel⟩ => ?_
  subst he
  exact ⟨_, rfl, _, _, _, [], _, [], hW', trodAll_mk1 (shut_bool Try.underlying4 _), (trodAll_cons_mk (Below.trod laidOut (by kernel_rfl) (of_decide_eq_true (by kernel_rfl)) k0 bel lt0) trodAll_mk0), rfl, bel.frame _, fun h => by cases h⟩

/-- The given statement. -/
theorem fnTurnWalk_proved : Rows.FnTurnWalkSaid :=
  OpenClaim.holds_of_wide 7 Try.f7 rfl rfl rfl rfl rfl rfl rfl ⟨rfl, rfl, rfl, rfl, rfl⟩ rfl rfl rfl rfl rfl (by kernel_rfl) Try.func7 (by kernel_rfl)
    (of_decide_eq_true (by kernel_rfl)) (by unfold Func.isWrapper; first | (rw [if_pos (by decide +kernel)]; kernel_rfl) | (rw [if_neg (by decide +kernel)]; exact ⟨rfl, rfl⟩))
    (fun os started H enc _ => fnTurnWalk_lifted os started H enc)

end Go.Proofs.Ytjocbjjkihgcdaa
