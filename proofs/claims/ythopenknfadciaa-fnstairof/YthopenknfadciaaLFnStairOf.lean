/-
  FnStairOf answers true at every input: a stair has at each time the earliest of its steps. No condition.
-/
import Derived.Test.YthopenknfadciaaDrawStairO
import Derived.Test.YthopenknfadciaaStairOf
import Derived.Test.YthopenknfadciaaStairAtI
import Derived.Test.YthopenknfadciaaPStair2
import Derived.Test.YthopenknfadciaaWkSteps
namespace Go.Proofs.Ythopenknfadciaa
open Go.ChangeShapes Go.WideShapes Go.ChangeAt Go.RowKit

theorem ofB_iff (xs : List StepD) : ofB xs = true ↔ (∀ s ∈ xs, stOk s = true) ∧ (tidy xs).length ≤ 12 := by simp [ofB, allOk]
theorem ofL_rev {xs : List StepD} (h : ofB xs = true) : ofL xs.reverse = tidy xs ∧ ofB xs.reverse = true := by
  have h2 : ofB xs.reverse = true := by
    rw [ofB_iff] at h ⊢
    exact ⟨fun s hs => h.1 s (by simpa using hs), by rw [tidy_reverse]; exact h.2⟩
  exact ⟨by rw [ofL, h2, tidy_reverse]; rfl, h2⟩
theorem ofL_tidy {xs : List StepD} (h : ofB xs = true) : ofL (tidy xs) = tidy xs ∧ ofB (tidy xs) = true := by
  obtain ⟨h1, h3⟩ := (ofB_iff xs).1 h
  have h2 : ofB (tidy xs) = true := (ofB_iff _).2 ⟨fun s hs => tidy_ok h1 hs, by rw [tidy_tidy h1]; exact h3⟩
  exact ⟨by rw [ofL, h2, tidy_tidy h1]; rfl, h2⟩
theorem drop_rev {α : Type} {xs : List α} {k : Nat} {x : α} (h : xs[k]? = some x) : (xs.drop k).reverse = (xs.drop (k + 1)).reverse ++ [x] := by
  obtain ⟨hk, rfl⟩ := List.getElem?_eq_some_iff.1 h
  rw [List.drop_eq_getElem_cons hk, List.reverse_cons]

def TurnInv (w5 : World) (zs : List StepD) (v i : Value) (wr : World) : Prop :=
  ∃ (j D c : Nat) (A : Option Addr) (I : Int), j ≤ zs.length ∧ i = .int .i64 I ∧ I = (j : Int) - 1 ∧ v = .slice A D c ∧ D = zs.length - j ∧ ResStep wr w5.heap.size (.slice A D c) (zs.drop j).reverse ∧ Past w5 wr

set_option maxRecDepth 100000 in
set_option maxHeartbeats 4000000 in
theorem fnStairOf_walk (A : Option Addr) (n c : Nat) (w : World) (hn : n ≤ c) (hc : c ≤ maxLen) (hb : BytesAt w A n) :
    Calls Try.prog 13 #[.slice A n c] w fun e w' => e = .returned (.bool true) ∧ Below w.heap.size w w' := by
  obtain ⟨i0, hi, hz0, hz1, hz2⟩ := info_parts infoStep
  by_cases h1 : 1048576 < n
  · have h1' : (1048576 : Int) < (n : Int) := by omega
    go_enter Try.func13, Try.ntmps13
    go_wp2
    go_ret
    exact ⟨rfl, Below.refl _ _⟩
  have h1' : ¬ (1048576 : Int) < (n : Int) := by omega
  go_enter Try.func13, Try.ntmps13
  go_wp2_with fail
  refine (drawStairOf_any A n c w hn hc hb).mono ?_
  rintro e w1 ⟨v, zs, rfl, hzl, hv, hb1⟩
  obtain ⟨D, cd, rfl, hx1, _⟩ := hv.form
  obtain ⟨L, hL⟩ : ∃ L, L = zs.length := ⟨_, rfl⟩
  rw [← hL] at hzl ⊢
  have HL := Lib.hid hL.symm
  clear hL hv hb hn hc
  go_wp2_with fail
  refine (implStairOf_any D L cd zs _ (by omega) HL.out hx1).mono ?_
  rintro e w2 ⟨v2, rfl, hv2, hb2⟩
  obtain ⟨ok, hok⟩ : ∃ ok, ok = ofB zs := ⟨_, rfl⟩
  rw [← hok]
  have HK := Lib.hid hok
  clear hok
  obtain ⟨E, ce, rfl, hs2, _⟩ := hv2.form
  obtain ⟨ss, hss⟩ : ∃ ss, ss = ofL zs := ⟨_, rfl⟩
  rw [← hss] at hs2 ⊢
  obtain ⟨N, hN⟩ : ∃ N, N = ss.length := ⟨_, rfl⟩
  have hN1 : N ≤ 1048576 := by rw [hN, hss]; exact ofL_len zs
  rw [← hN]
  have HSS := Lib.hid hss
  have HN := Lib.hid hN.symm
  have hx2 := hx1.below hb2
  have hp2 := Past.trans hb1 hb2
  clear hss hN hv2 hx1 hb1 hb2
  go_wp2_with fail
  refine (specStairOf_any D L cd zs _ (by omega) HL.out hx2).mono ?_
  rintro e w3 ⟨v3, rfl, hv3, hb3⟩
  rw [← HK.out]
  obtain ⟨F, cf, rfl, hs3, _⟩ := hv3.form
  rw [← HSS.out] at hs3 ⊢
  rw [HN.out]
  have hx3 := hx2.below hb3
  have hs23 := hs2.below hb3
  have hp3 := Past.trans hp2 hb3
  clear hv3 hx2 hs2 hb3 hp2
  go_wp2_with fail
  refine (wkSteps_same E F N ce cf ss _ hN1 HN.out hs23 hs3).mono ?_
  rintro e w4 ⟨rfl, hb4⟩
  have hx4 := hx3.below hb4
  have hs4 := hs23.below hb4
  have ht4 := hs3.below hb4
  have hp4 := Past.trans hp3 hb4
  clear hx3 hs23 hs3 hb4 hp3
  cases ok with
  | false =>
    go_wp2_with fail
    refine (wkSteps_same E F N ce cf ss _ hN1 HN.out hs4 ht4).mono ?_
    rintro e w5 ⟨rfl, hb5⟩
    go_wp2
    go_ret
    exact ⟨rfl, Past.trans hp4 hb5⟩
  | true =>
    have hob := HK.out.symm
    have hst : ss = tidy zs := by rw [HSS.out, ofL, hob]; rfl
    obtain ⟨hall, h12⟩ := (ofB_iff zs).1 hob
    have hsb : stairB ss = true := by rw [hst, tidy_stair hall]; simpa using h12
    have hN12 : N ≤ 12 := by rw [← HN.out, hst]; exact h12
    have HAT : Hid (∀ a : Nat, a ≤ 200 → atB ss (a : Int) = bestOf zs (a : Int)) := fun a ha => by rw [atB, hsb, hst]; exact tidy_at hall h12 a ha
    have HX : Hid (ofL zs.reverse = ss) := by rw [Hid, (ofL_rev hob).1, hst]
    have HY : Hid (ofL ss = ss) := by rw [Hid, hst, (ofL_tidy hob).1]
    have HSB := Lib.hid hsb
    clear hob hst hall h12 hsb
    have hres0 : ResStep (w4.alloc (.cells #[] 42)) w4.heap.size (.slice (some ⟨w4.heap.size, 0, none⟩) 0 0) [] := World.ownsRow_made w4 _ 0 (Nat.le_refl _) (by unfold maxLen; omega) rfl
    have HR0 := Lib.hid hres0
    clear hres0
    go_wp2
    go_loopw [8, 9] (fun v i wr => TurnInv w4 zs v i wr) (fun _ i _ => (intOf i + 1).toNat)
    case atStart => exact ⟨zs.length, 0, 0, _, _, Nat.le_refl _, rfl, by rw [HL.out], rfl, by omega, by simpa using HR0.out, (Past.refl _).alloc _⟩
    case round =>
      obtain ⟨j, D2, c2, A2, I, hj, rfl, hI, rfl, hD2, hv, hbr⟩ := hrel
      rw [HL.out] at hj hD2
      have HI := Lib.hid hI
      have HD2 := Lib.hid hD2
      have hxr := hx4.below hbr
      have hbs := hbr.size
      by_cases hI0 : 0 ≤ I
      · obtain ⟨⟨x0, x1⟩, ha⟩ : ∃ a, zs[j - 1]? = some a := ⟨_, List.getElem?_eq_getElem (by have := HL.out; omega)⟩
        obtain ⟨g, o, rfl, c0, c1⟩ := hxr (j - 1) _ ha
        have hdr := drop_rev ha
        rw [show j - 1 + 1 = j by omega] at hdr
        have HDR := Lib.hid hdr
        have hIt : I.toNat = j - 1 := by omega
        have hIl : I < (L : Int) := by omega
        have hlen : ((zs.drop j).reverse).length = D2 := by rw [List.length_reverse, List.length_drop, HL.out]; exact hD2.symm
        have hown : wr.ownsRow w4.heap.size 42 2 (.slice A2 D2 c2) D2 (cellsStep (zs.drop j).reverse) := by have := hv; unfold ResStep at this; rw [hlen] at this; exact this
        have HO := Lib.hid hown
        have HLN := Lib.hid hlen
        have hj1 : 1 ≤ j := by omega
        have hD22 : D2 ≤ 22 := by omega
        clear ha hdr hlen hown hv hI hD2
        go_wp2_with (first | (at_builtin; refine wpList_append_lies _ rfl _ _ 25 rfl w4.heap.size 42 i0 _ 2 16 Try.underlying25 hi hz0 hz1 hz2 rfl (by decide) _ D2 _ rfl (HO.out.alloc _) ⟨wr.heap.size, 0, none⟩ 1 1 [.int .i64 x0, .int .i64 x1] rfl rfl (newStep wr _ _ _) (cellsStep_one [⟨x0, x1⟩]) (by omega) (by unfold maxLen; omega) (by omega) (by simp; omega) _ rfl ?_; intro gg cap w5 hown' hgrow5 hat hlt5))
        go_roundw
        case rel =>
          refine ⟨j - 1, D2 + 1, cap, _, I - 1, by rw [HL.out]; omega, rfl, by have := HI.out; omega, rfl, by rw [HL.out]; have := HD2.out; omega, ?_, Past.grown (hbr.alloc _) (HO.out.alloc _) hgrow5 (Nat.le_refl _)⟩
          rw [HDR.out]
          exact ResStep.push (a := ⟨x0, x1⟩) (by rw [HLN.out]; exact hown')
        case measure => simp [intOf]; omega
      · have hj0 : j = 0 := by omega
        subst hj0
        rw [List.drop_zero] at hv
        obtain ⟨A3, c3, e3, hxT, _⟩ := hv.form
        rw [List.length_reverse, HL.out] at e3
        injection e3 with e3 e4 e5
        subst e3 e5
        have hDL : D2 = L := by omega
        subst hDL
        have hsr := hs4.below hbr
        clear hv hI hD2 HI HD2 e4
        go_wp2
        go_loopw [10] (fun i wq => ∃ a : Nat, a ≤ 200 ∧ i = .int .i64 a ∧ Past wr wq) (fun i _ => 200 - (intOf i).toNat)
        case atStart => exact ⟨0, by omega, rfl, Past.refl _⟩
        case round =>
          obtain ⟨a, ha, rfl, hbq⟩ := hrel
          have hxq := hxr.below hbq
          have hsq := hsr.below hbq
          by_cases h200 : a ≤ 199
          · have h199 : (a : Int) ≤ 199 := by omega
            go_wp2
            go_loop [11, 12] (fun b i => ∃ k : Nat, k ≤ D2 ∧ i = .int .i64 k ∧ b = .int .i64 (bestOf (zs.take k) a)) (fun _ i => D2 - (intOf i).toNat)
            case atStart => exact ⟨0, by omega, rfl, rfl⟩
            case round =>
              obtain ⟨k, hk, rfl, rfl⟩ := hrel
              by_cases hlt : k < D2
              · obtain ⟨⟨x0, x1⟩, hxa⟩ : ∃ s, zs[k]? = some s := ⟨_, List.getElem?_eq_getElem (by have := HL.out; omega)⟩
                obtain ⟨g, o, rfl, c0, c1⟩ := hxq k _ hxa
                have HB := Lib.hid (bestOf_take hxa (a : Int))
                clear hxa
                obtain ⟨b, hbb⟩ : ∃ b, b = bestOf (zs.take k) (a : Int) := ⟨_, rfl⟩
                rw [← hbb]
                have HBB := Lib.hid hbb
                clear hbb
                by_cases h2 : (a : Int) ≤ x0
                · by_cases h3 : x1 < b
                  · go_wp2
                    go_round
                    case rel => exact ⟨k + 1, by omega, by go_num, by rw [HB.out, ← HBB.out, bestStep, if_pos ⟨h2, h3⟩]⟩
                    case measure => simp [intOf]; omega
                  · go_wp2
                    go_round
                    case rel => exact ⟨k + 1, by omega, by go_num, by rw [HB.out, ← HBB.out, bestStep, if_neg (fun h => h3 h.2)]⟩
                    case measure => simp [intOf]; omega
                · go_wp2
                  go_round
                  case rel => exact ⟨k + 1, by omega, by go_num, by rw [HB.out, ← HBB.out, bestStep, if_neg (fun h => h2 h.1)]⟩
                  case measure => simp [intOf]; omega
              · obtain rfl : k = D2 := by omega
                have hfull : zs.take k = zs := List.take_of_length_le (by rw [HL.out]; exact Nat.le_refl _)
                rw [hfull]
                clear hfull
                go_wp2_with fail
                refine (implStairAt_any E N ce ss _ _ hN1 HN.out hsq).mono ?_
                rintro e w6 ⟨rfl, hb6⟩
                rw [HAT.out a (by omega)]
                go_wp2
                go_roundw
                case rel => exact ⟨a + 1, by omega, by go_num, hbq.trans hb6⟩
                case measure => simp [intOf]; omega
          · obtain rfl : a = 200 := by omega
            have hxTq := hxT.below hbq
            have hpq := hp4.trans (hbr.trans hbq)
            have HLR : Hid (zs.reverse.length = D2) := by rw [Hid, List.length_reverse]; exact HL.out
            go_wp2_with fail
            refine (implStairOf_any A2 D2 c2 zs.reverse _ (by omega) HLR.out hxTq).mono ?_
            rintro e w6 ⟨v6, rfl, hv6, hb6⟩
            rw [HX.out] at hv6
            obtain ⟨A6, c6, rfl, hs6, _⟩ := hv6.form
            rw [HN.out]
            have hsq6 := hsq.below hb6
            clear hv6
            go_wp2_with fail
            refine (implStairOf_any E N ce ss _ (by omega) HN.out hsq6).mono ?_
            rintro e w7 ⟨v7, rfl, hv7, hb7⟩
            rw [HY.out] at hv7
            obtain ⟨A7, c7, rfl, hs7, _⟩ := hv7.form
            rw [HN.out]
            have hsq7 := hsq6.below hb7
            have hs67 := hs6.below hb7
            clear hv7
            go_wp2_with fail
            refine (implStairOk_any E N ce ss _ hN1 HN.out hsq7).mono ?_
            rintro e w8 ⟨rfl, hb8⟩
            rw [HSB.out]
            go_wp2_with fail
            refine (wkSteps_same A6 E N c6 ce ss _ hN1 HN.out (hs67.below hb8) (hsq7.below hb8)).mono ?_
            rintro e w9 ⟨rfl, hb9⟩
            go_wp2_with fail
            refine (wkSteps_same A7 E N c7 ce ss _ hN1 HN.out ((hs7.below hb8).below hb9) ((hsq7.below hb8).below hb9)).mono ?_
            rintro e w10 ⟨rfl, hb10⟩
            go_wp2
            go_ret
            exact ⟨rfl, hpq.trans (Past.trans hb6 (Past.trans hb7 (Past.trans hb8 (Past.trans hb9 hb10))))⟩

set_option maxRecDepth 100000 in
theorem fnStairOf_lifted (os : Os) (started : os.Started) (H : Type) (enc : TypeId × Value → H) :
    ReturnsInHanded {} Try.checked os 13 .any (Rows.fnStairOfSpec.pre6 enc Try.prog Try.f13 Rows.fnStairOfRow.domain false) (Rows.fnStairOfSpec.post enc Try.prog Try.f13 false true false false) := by
  refine returnsInHanded_of_change (C := Try.checked) own started (by kernel_rfl) Try.func13
    (ChangeSpec.witness6 (enc := enc) (C := Try.checked) false ⟨#[], #[.slice none 0 0], []⟩ 8 (by kernel_rfl) (by kernel_rfl) (by kernel_rfl) (by kernel_rfl)) ?_
  intro W base args ds gs before hval0 hW hcnd _
  have hval : ∀ (j : Nat) t v, Try.f13.params[j]? = some t → args[j]? = some v → Value.okWide Try.prog W .any base t v := hval0
  have hW' := hW
  obtain ⟨p, q, hA0, hV, rfl, hfz, hnd⟩ := hW
  have hA : DataW.TrodAll enc Try.prog W 0 (fun _ => true) true Try.f13.params.toList args.toList ds p := hA0
  rw [Try.params13] at hA hval
  obtain ⟨v0, vs0, d0, ds0, p0, q0, hargs, rfl, rfl, h0, r0⟩ := trodAll_cons hA
  obtain ⟨rfl, rfl, rfl⟩ := trodAll_nil r0
  obtain rfl : args = #[v0] := by cases args; simp_all
  obtain ⟨rfl, rfl⟩ := trodVars_none hV
  have k0 := h0
  have lt0 := places_lt k0
  obtain ⟨A0, n0, c0, rfl, hn0, hc0, hb0⟩ := open_bytes (hval 0 38 v0 rfl rfl) h0
  clear hA0 hval0
  refine (fnStairOf_walk A0 n0 c0 W hn0 hc0 hb0).mono fun e W' ⟨he, bel⟩ => ?_
  subst he
  exact ⟨_, rfl, _, _, _, [], _, [], hW', trodAll_mk1 (shut_bool Try.underlying4 _), (trodAll_cons_mk (Below.trod laidOut (by kernel_rfl) (of_decide_eq_true (by kernel_rfl)) k0 bel lt0) trodAll_mk0), rfl, bel.frame _, fun h => by cases h⟩

/-- The given statement. -/
theorem fnStairOf_proved : Rows.FnStairOfSaid :=
  OpenClaim.holds_of_wide 13 Try.f13 rfl rfl rfl rfl rfl rfl rfl ⟨rfl, rfl, rfl, rfl, rfl⟩ rfl rfl rfl rfl rfl (by kernel_rfl) Try.func13 (by kernel_rfl)
    (of_decide_eq_true (by kernel_rfl)) (by unfold Func.isWrapper; first | (rw [if_pos (by decide +kernel)]; kernel_rfl) | (rw [if_neg (by decide +kernel)]; exact ⟨rfl, rfl⟩))
    (fun os started H enc _ => fnStairOf_lifted os started H enc)

end Go.Proofs.Ythopenknfadciaa
