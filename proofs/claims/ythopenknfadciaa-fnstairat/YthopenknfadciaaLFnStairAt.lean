/-
  FnStairAt answers true at every input: who is there later does not come earlier. No condition.
-/
import Derived.Test.YthopenknfadciaaDrawStairA
import Derived.Test.YthopenknfadciaaStairAtS
import Derived.Test.YthopenknfadciaaStairOkS
import Derived.Test.YthopenknfadciaaStairLink
import Derived.Test.YthopenknfadciaaPStair2
namespace Go.Proofs.Ythopenknfadciaa
open Go.ChangeShapes Go.WideShapes Go.ChangeAt Go.RowKit

/-- One of the first k steps is the one, or nothing goes any more, or it comes yet. -/
def IsInv (zs : List StepD) (at_ n : Int) (k : Nat) (b : Bool) : Prop := b = true ∨ ∃ (j : Nat) (s : StepD), k ≤ j ∧ zs[j]? = some s ∧ at_ ≤ s.x0 ∧ s.x1 = n

set_option maxRecDepth 100000 in
set_option maxHeartbeats 2000000 in
theorem fnStairAt_walk (A : Option Addr) (n c : Nat) (w : World) (hn : n ≤ c) (hc : c ≤ maxLen) (hb : BytesAt w A n) :
    Calls Try.prog 10 #[.slice A n c] w fun e w' => e = .returned (.bool true) ∧ Below w.heap.size w w' := by
  by_cases h1 : 1048576 < n
  · have h1' : (1048576 : Int) < (n : Int) := by omega
    go_enter Try.func10, Try.ntmps10
    go_wp2
    go_ret
    exact ⟨rfl, Below.refl _ _⟩
  have h1' : ¬ (1048576 : Int) < (n : Int) := by omega
  go_enter Try.func10, Try.ntmps10
  go_wp2_with fail
  refine (drawStairAt_any A n c w hn hc hb).mono ?_
  rintro e w1 ⟨v, zs, t, rfl, hzl, ht0, ht1, hv, hb1⟩
  obtain ⟨D, cd, rfl, hx1, _⟩ := hv.form
  obtain ⟨L, hL⟩ : ∃ L, L = zs.length := ⟨_, rfl⟩
  rw [← hL] at hzl ⊢
  have HL := Lib.hid hL.symm
  clear hL hv hb hn hc
  go_wp2_with fail
  refine (implStairAt_any D L cd zs t _ (by omega) HL.out hx1).mono ?_
  rintro e w2 ⟨rfl, hb2⟩
  have hx2 := hx1.below hb2
  have hp2 := Past.trans hb1 hb2
  obtain ⟨q, hq⟩ : ∃ q, q = atB zs t := ⟨_, rfl⟩
  rw [← hq]
  have HQ := Lib.hid hq
  clear hq
  go_wp2_with fail
  refine (specStairAt_any D L cd zs t _ (by omega) HL.out hx2).mono ?_
  rintro e w3 ⟨rfl, hb3⟩
  rw [← HQ.out]
  have hx3 := hx2.below hb3
  have hp3 := Past.trans hp2 hb3
  go_wp2_with fail
  refine (implStairOk_any D L cd zs _ (by omega) HL.out hx3).mono ?_
  rintro e w4 ⟨rfl, hb4⟩
  have hx4 := hx3.below hb4
  have hp4 := Past.trans hp3 hb4
  obtain ⟨ok, hok⟩ : ∃ ok, ok = stairB zs := ⟨_, rfl⟩
  rw [← hok]
  have HK := Lib.hid hok
  clear hok
  go_wp2_with fail
  refine (specStairOk_any D L cd zs _ (by omega) HL.out hx4).mono ?_
  rintro e w5 ⟨rfl, hb5⟩
  rw [← HK.out]
  have hx5 := hx4.below hb5
  have hp5 := Past.trans hp4 hb5
  go_wp2_with fail
  refine (implStairOk_any D L cd zs _ (by omega) HL.out hx5).mono ?_
  rintro e w6 ⟨rfl, hb6⟩
  rw [← HK.out]
  have hx6 := hx5.below hb6
  have hp6 := Past.trans hp5 hb6
  clear hx1 hx2 hx3 hx4 hx5 hb1 hb2 hb3 hb4 hb5 hb6 hp2 hp3 hp4 hp5
  cases ok with
  | false =>
    go_wp2_with fail
    refine (specStairAt_any D L cd zs t _ (by omega) HL.out hx6).mono ?_
    rintro e w7 ⟨rfl, hb7⟩
    rw [← HQ.out]
    go_wp2_with fail
    refine (implStairOk_any D L cd zs _ (by omega) HL.out (hx6.below hb7)).mono ?_
    rintro e w8 ⟨rfl, hb8⟩
    rw [← HK.out]
    go_wp2_with fail
    refine (specStairOk_any D L cd zs _ (by omega) HL.out ((hx6.below hb7).below hb8)).mono ?_
    rintro e w9 ⟨rfl, hb9⟩
    rw [← HK.out]
    go_wp2
    go_ret
    exact ⟨rfl, hp6.trans (Past.trans hb7 (Past.trans hb8 hb9))⟩
  | true =>
    have hs := HK.out.symm
    have hqa : q = atI zs t := by rw [HQ.out, atB, hs]; rfl
    have hbd := atI_bound hs t
    have hmo := atI_mono hs (a := t) (b := t + 1) (by omega)
    have hmem := atI_mem hs t
    have hlb : ∀ (k : Nat) (s : StepD), zs[k]? = some s → t ≤ s.x0 → q ≤ s.x1 := fun k s hk h => by rw [hqa]; exact atI_lb hs (List.mem_of_getElem? hk) h
    rw [← hqa] at hbd hmo hmem
    have hqt : t ≤ q := by unfold far at hbd; omega
    have HMO := Lib.hid hmo
    have HLB := Lib.hid hlb
    have HS := Lib.hid hs
    have hst : IsInv zs t q 0 (decide (q = 99999)) := by
      rcases hmem with e | ⟨k, s, hk, h1, h2⟩
      · exact .inl (by rw [e]; rfl)
      · exact .inr ⟨k, s, Nat.zero_le _, hk, h1, h2.symm⟩
    obtain ⟨b0, hb0⟩ : ∃ b0, b0 = (q == 99999) := ⟨_, rfl⟩
    have hst' : IsInv zs t q 0 b0 := by rw [hb0]; exact hst
    clear hqa hbd hmo hlb hmem hs hst
    have e0 : (q == 99999) = b0 := hb0.symm
    clear hb0
    go_wp2
    clear e0
    go_loop [6, 7] (fun b i => ∃ (k : Nat) (bb : Bool), k ≤ L ∧ i = .int .i64 k ∧ b = .bool bb ∧ IsInv zs t q k bb) (fun _ i => L - (intOf i).toNat)
    case atStart => exact ⟨0, b0, by omega, rfl, rfl, hst'⟩
    case round =>
      obtain ⟨k, bb, hk, rfl, rfl, hinv⟩ := hrel
      have HI := Lib.hid hinv
      clear hinv hst'
      by_cases hlt : k < L
      · obtain ⟨⟨x0, x1⟩, ha⟩ : ∃ a, zs[k]? = some a := ⟨_, List.getElem?_eq_getElem (by have := HL.out; omega)⟩
        obtain ⟨g, o, rfl, c0, c1⟩ := hx6 k _ ha
        have hle : t ≤ x0 → q ≤ x1 := HLB.out k _ ha
        have hnext : ∀ b' : Bool, (bb = true → b' = true) → (t ≤ x0 → x1 = q → b' = true) → IsInv zs t q (k + 1) b' := fun b' h2 h3 => by
          rcases HI.out with h | ⟨j, s, hj, hs, h4, h5⟩
          · exact .inl (h2 h)
          · by_cases e : j = k
            · subst e
              rw [ha] at hs
              injection hs with hs
              subst hs
              exact .inl (h3 h4 h5)
            · exact .inr ⟨j, s, by omega, hs, h4, h5⟩
        have HN := Lib.hid hnext
        clear ha hnext
        have i1 : (k : Int) < (L : Int) := by omega
        cases bb with
        | true =>
          by_cases ht : t ≤ x0
          · have hq' : ¬ x1 < q := by have := hle ht; omega
            clear hle
            go_wp2
            go_round
            case rel => exact ⟨k + 1, true, by omega, by go_num, rfl, HN.out _ (fun h => h) (fun _ _ => rfl)⟩
            case measure => simp [intOf]; omega
          · clear hle
            go_wp2
            go_round
            case rel => exact ⟨k + 1, true, by omega, by go_num, rfl, HN.out _ (fun h => h) (fun _ _ => rfl)⟩
            case measure => simp [intOf]; omega
        | false =>
          by_cases ht : t ≤ x0
          · have hq' : ¬ x1 < q := by have := hle ht; omega
            clear hle
            by_cases he : x1 = q
            · have he' : (x1 == q) = true := by simpa using he
              clear he
              go_wp2
              go_round
              case rel => exact ⟨k + 1, true, by omega, by go_num, rfl, HN.out _ (fun h => by cases h) (fun _ _ => rfl)⟩
              case measure => simp [intOf]; omega
            · have he' : (x1 == q) = false := by simpa using he
              go_wp2
              go_round
              case rel => exact ⟨k + 1, false, by omega, by go_num, rfl, HN.out _ (fun h => h) (fun _ h => absurd h he)⟩
              case measure => simp [intOf]; omega
          · clear hle
            go_wp2
            go_round
            case rel => exact ⟨k + 1, false, by omega, by go_num, rfl, HN.out _ (fun h => h) (fun h _ => absurd h ht)⟩
            case measure => simp [intOf]; omega
      · obtain rfl : L = k := by omega
        have hbb : bb = true := by
          rcases HI.out with h | ⟨j, s, hj, hs, _⟩
          · exact h
          · have := (List.getElem?_eq_some_iff.1 hs).1
            have := HL.out
            omega
        subst hbb
        go_wp2_with fail
        refine (implStairAt_any D L cd zs _ _ (by omega) HL.out hx6).mono ?_
        rintro e w7 ⟨rfl, hb7⟩
        have hat : atB zs (t + 1) = atI zs (t + 1) := by rw [atB, HS.out]; rfl
        rw [hat]
        have hmo := HMO.out
        clear hat
        go_wp2
        go_ret
        exact ⟨ret_bool (by simp), Past.trans hp6 hb7⟩

set_option maxRecDepth 100000 in
theorem fnStairAt_lifted (os : Os) (started : os.Started) (H : Type) (enc : TypeId × Value → H) :
    ReturnsInHanded {} Try.checked os 10 .any (Rows.fnStairAtSpec.pre6 enc Try.prog Try.f10 Rows.fnStairAtRow.domain false) (Rows.fnStairAtSpec.post enc Try.prog Try.f10 false true false false) := by
  refine returnsInHanded_of_change (C := Try.checked) own started (by kernel_rfl) Try.func10
    (ChangeSpec.witness6 (enc := enc) (C := Try.checked) false ⟨#[], #[.slice none 0 0], []⟩ 8 (by kernel_rfl) (by kernel_rfl) (by kernel_rfl) (by kernel_rfl)) ?_
  intro W base args ds gs before hval0 hW hcnd _
  have hval : ∀ (j : Nat) t v, Try.f10.params[j]? = some t → args[j]? = some v → Value.okWide Try.prog W .any base t v := hval0
  have hW' := hW
  obtain ⟨p, q, hA0, hV, rfl, hfz, hnd⟩ := hW
  have hA : DataW.TrodAll enc Try.prog W 0 (fun _ => true) true Try.f10.params.toList args.toList ds p := hA0
  rw [Try.params10] at hA hval
  obtain ⟨v0, vs0, d0, ds0, p0, q0, hargs, rfl, rfl, h0, r0⟩ := trodAll_cons hA
  obtain ⟨rfl, rfl, rfl⟩ := trodAll_nil r0
  obtain rfl : args = #[v0] := by cases args; simp_all
  obtain ⟨rfl, rfl⟩ := trodVars_none hV
  have k0 := h0
  have lt0 := places_lt k0
  obtain ⟨A0, n0, c0, rfl, hn0, hc0, hb0⟩ := open_bytes (hval 0 38 v0 rfl rfl) h0
  clear hA0 hval0
  refine (fnStairAt_walk A0 n0 c0 W hn0 hc0 hb0).mono fun e W' ⟨he, bel⟩ => ?_
  subst he
  exact ⟨_, rfl, _, _, _, [], _, [], hW', trodAll_mk1 (shut_bool Try.underlying4 _), (trodAll_cons_mk (Below.trod laidOut (by kernel_rfl) (of_decide_eq_true (by kernel_rfl)) k0 bel lt0) trodAll_mk0), rfl, bel.frame _, fun h => by cases h⟩

/-- The given statement. -/
theorem fnStairAt_proved : Rows.FnStairAtSaid :=
  OpenClaim.holds_of_wide 10 Try.f10 rfl rfl rfl rfl rfl rfl rfl ⟨rfl, rfl, rfl, rfl, rfl⟩ rfl rfl rfl rfl rfl (by kernel_rfl) Try.func10 (by kernel_rfl)
    (of_decide_eq_true (by kernel_rfl)) (by unfold Func.isWrapper; first | (rw [if_pos (by decide +kernel)]; kernel_rfl) | (rw [if_neg (by decide +kernel)]; exact ⟨rfl, rfl⟩))
    (fun os started H enc _ => fnStairAt_lifted os started H enc)

end Go.Proofs.Ythopenknfadciaa
