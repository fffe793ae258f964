/-
  FnReachFar answers true at every input: no best way costs more than the most that is told, and one costs that. No condition.
-/
import Derived.Test.YtifbigfkakappaaOpenW
import Derived.Test.YtifbigfkakappaaDraw
import Derived.Test.YtifbigfkakappaaNAll
import Derived.Test.YtifbigfkakappaaBack4
import Derived.Test.YtifbigfkakappaaDrawReachFar
import Derived.Test.YtifbigfkakappaaRFarI
import Derived.Test.YtifbigfkakappaaDrawNetOut
import Derived.Test.YtifbigfkakappaaPFar
namespace Go.Proofs.Ytifbigfkakappaa
open Go.ChangeShapes Go.WideShapes Go.ChangeAt Go.RowKit Go.Deep Go.Joins

set_option maxRecDepth 100000 in
theorem open_bytes {H : Type} {enc : TypeId × Value → H} {W : World} {r : Reach} {b0 : Nat} {v : Value} {d : DataW H} {p : List MemPlace} (hv : Value.okWide Try.prog W r b0 22 v)
    (h : DataW.Trod enc Try.prog W 0 (fun _ => true) true 22 v d p) : ∃ (A : Option Addr) (n c : Nat), v = .slice A n c ∧ n ≤ c ∧ c ≤ maxLen ∧ BytesAt W A n := by
  obtain ⟨a0, len, cap, rfl⟩ := okWide_slice Try.underlying22 hv
  obtain ⟨fuel, hf⟩ := h
  rcases open_ints Try.underlying22 Try.underlying5 (by kernel_rfl) (show DataW.trod enc Try.prog W 0 (fun _ => true) true fuel 22 [.slice a0 len cap] = some _ by simpa [Value.cells] using hf) with ⟨hcs, _⟩ | ⟨a, len', cap', zs, hcs, _, hl, hm, hz, _, hcell, hwf⟩
  · injection hcs with hcs
    injection hcs with e1 e2 e3
    subst e1 e2 e3
    exact ⟨none, 0, 0, rfl, Nat.le_refl _, Nat.zero_le _, fun k hk => absurd hk (by omega)⟩
  · injection hcs with hcs
    injection hcs with e1 e2 e3
    subst e1 e2 e3
    simp only [if_true] at hz
    refine ⟨some a, _, _, rfl, hl, hm, fun k hk => ?_⟩
    have hc := hcell k (by omega)
    obtain ⟨g, o, rfl⟩ := spotless (hcell 0 (by omega))
    rw [addr_add] at hc
    have hw := hwf (zs.getD k 0) (by rw [List.getD_eq_getElem?_getD, List.getElem?_eq_getElem (by omega)]; simp)
    refine ⟨g, o, _, rfl, hc, ?_⟩
    simp only [Lit.wf, Bool.and_eq_true, decide_eq_true_eq] at hw
    rw [show IntKind.u8.min = 0 by decide, show IntKind.u8.max = 255 by decide] at hw
    exact hw

end Go.Proofs.Ytifbigfkakappaa

namespace Go.Proofs.Ytifbigfkakappaa
open Go.RowKit

theorem flip_flip' (a : ArcD) : flip (flip a) = a := rfl
theorem arcB_flip' {m : Int} {a : ArcD} (h : arcB m a = true) : arcB m (flip a) = true := by
  unfold arcB at h ⊢
  unfold flip
  simp only [Bool.and_eq_true, Bool.not_eq_true', beq_eq_false_iff_ne] at h ⊢
  exact ⟨h.2.1, h.1, fun e => h.2.2.1 e.symm, h.2.2.2⟩
theorem netB_flip' {m : Int} {xs : List ArcD} (h : netB m xs = true) : netB m (xs.map flip) = true := by
  obtain ⟨h1, h2, h3⟩ := (netB_iff _ _).1 h
  refine (netB_iff _ _).2 ⟨h1, by rw [List.length_map]; exact h2, fun a ha => ?_⟩
  obtain ⟨b, hb, rfl⟩ := List.mem_map.1 ha
  exact arcB_flip' (h3 b hb)
/-- What it costs from each to a node. -/
def nearTI (m : Int) (xs : List ArcD) (s : Int) : List Int := if hereB m xs s then nearL m.toNat (xs.map flip) s else []
theorem nearTI_back (m : Int) (xs : List ArcD) (s : Int) : nearI (backN m xs) (backL m xs) s = nearTI m xs s := by
  unfold nearI nearTI backN backL hereB
  cases hB : netB m xs with
  | true => simp only [if_true, netB_flip' hB]
  | false =>
    have : netB 0 [] = false := by decide
    simp [this]
theorem nearTI_len (m : Int) (xs : List ArcD) (s : Int) : (nearTI m xs s).length ≤ 1048576 := by
  rw [← nearTI_back]
  exact nearI_len _ _ _



end Go.Proofs.Ytifbigfkakappaa

namespace Go.Proofs.Ytifbigfkakappaa
open Go.ChangeShapes Go.WideShapes Go.ChangeAt Go.RowKit

set_option maxRecDepth 100000 in
set_option maxHeartbeats 2000000 in
theorem fnReachFar_walk (A : Option Addr) (n c : Nat) (w : World) (hn : n ≤ c) (hc : c ≤ maxLen) (hb : BytesAt w A n) :
    Calls Try.prog 3 #[.slice A n c] w fun e w' => e = .returned (.bool true) ∧ Below w.heap.size w w' := by
  by_cases h1 : 1048576 < n
  · have h1' : (1048576 : Int) < (n : Int) := by omega
    go_enter Try.func3, Try.ntmps3
    go_wp2
    go_ret
    exact ⟨rfl, Below.refl _ _⟩
  have h1' : ¬ (1048576 : Int) < (n : Int) := by omega
  go_enter Try.func3, Try.ntmps3
  go_wp2_with fail
  refine (drawReachFar_any A n c w hn hc hb).mono ?_
  rintro e w1 ⟨m, B, k, cap, xs, rfl, hxk, hk, hx1, ho1, hb1⟩
  have HX := Lib.hid hxk
  have hBf := ownForm ho1
  clear hxk hb hn hc ho1
  have hpW : Past w1 (w1.alloc (.cells #[.int .i64 m, .slice B k cap] 25)) := (Past.refl w1).alloc _
  have hkk : k ≤ 1048576 := by omega
  go_wp2_with fail
  refine (implReachFar_any m B k cap xs _ hkk HX.out (hx1.below hpW)).mono ?_
  rintro e w2 ⟨rfl, hb2⟩
  have b0 := cell_in (p := ⟨w1.heap.size, 0, none⟩) (v := .int .i64 m) hb2 (by go_simp)
  have b1 := cell_in (p := ⟨w1.heap.size, 1, none⟩) (v := .slice B k cap) hb2 (by go_simp)
  have hx2 := (hx1.below hpW).below hb2
  have hp2 : Past w w2 := Past.trans hb1 (hpW.trans hb2)
  obtain ⟨z, hz⟩ : ∃ z, z = mostI m xs := ⟨_, rfl⟩
  rw [← hz]
  have HZ := Lib.hid hz
  clear hz hx1 hb1 hb2 hpW
  go_wp2_with fail
  refine (specReachFar_any m B k cap xs _ hkk HX.out hx2).mono ?_
  rintro e w3 ⟨rfl, hb3⟩
  rw [← HZ.out]
  have b0 := cell_in hb3 b0
  have b1 := cell_in hb3 b1
  have hx3 := hx2.below hb3
  have hp3 := hp2.trans hb3
  clear hx2 hb3 hp2
  cases hN : netB m xs with
  | false =>
    obtain rfl : z = -1 := by rw [HZ.out, mostI, hN]; rfl
    clear hN
    go_wp2_with fail
    refine (specReachFar_any m B k cap xs _ hkk HX.out hx3).mono ?_
    rintro e w4 ⟨rfl, hb4⟩
    rw [← HZ.out]
    go_wp2
    go_ret
    exact ⟨rfl, hp3.trans hb4⟩
  | true =>
    obtain ⟨M, rfl, hM1, hM8⟩ := here_nat hN
    have hzf : z = farR M xs M := by rw [HZ.out, mostI, hN, if_pos rfl, Int.toNat_natCast]
    have hz0 := farR_bound M xs M
    rw [← hzf] at hz0
    have HN := Lib.hid hN
    have HF := Lib.hid hzf
    have hnz : ¬ z < 0 := by omega
    clear hN hzf
    go_wp2
    go_loopw [5, 6] (fun b i wr => ∃ (bb : Bool) (j : Nat), j ≤ M ∧ i = .int .i64 j ∧ b = .bool bb ∧ (bb = false → ∀ s v : Nat, s < j → v < M → at_ (nearL M xs (s : Int)) (v : Int) ≠ z) ∧ Past w3 wr) (fun _ i _ => M - (intOf i).toNat)
    case atStart => exact ⟨false, 0, by omega, rfl, rfl, fun _ s v h => absurd h (by omega), Past.refl _⟩
    case round =>
      obtain ⟨bb, j, hj, rfl, rfl, hno, hbr⟩ := hrel
      have HNO := Lib.hid hno
      have b0 := cell_in hbr b0
      have b1 := cell_in hbr b1
      clear hno
      by_cases hlt : j < M
      · have j0 : (0 : Int) ≤ (j : Int) := by omega
        have j1 : (j : Int) < (M : Int) := by omega
        have hH : hereB (M : Int) xs (j : Int) = true := (hereB_iff _ _ _).2 ⟨HN.out, j0, j1⟩
        have hds : nearI (M : Int) xs (j : Int) = nearL M xs (j : Int) := by rw [nearI, if_pos hH, Int.toNat_natCast]
        have HDS := Lib.hid hds
        clear hds hH
        go_wp2_with fail
        refine (implNearAll_any (M : Int) B k cap xs (j : Int) _ hkk HX.out (hx3.below hbr)).mono ?_
        rintro e w5 ⟨v5, rfl, hv5, hb5⟩
        rw [HDS.out] at hv5
        obtain ⟨D, cd, rfl, hd5, _⟩ := hv5.form
        rw [nearL_length]
        obtain ⟨d, hd⟩ : ∃ d, d = nearL M xs (j : Int) := ⟨_, rfl⟩
        rw [← hd] at hd5
        have hdl : d.length = M := by rw [hd, nearL_length]
        have HD := Lib.hid hd
        have HDL := Lib.hid hdl
        have b0 := cell_in hb5 b0
        have hp5 := hbr.trans hb5
        clear hd hdl hv5 hb5
        go_wp2
        go_loopw [5, 8] (fun b i wq => ∃ (bc : Bool) (q : Nat), q ≤ M ∧ i = .int .i64 q ∧ b = .bool bc ∧ (bc = false → bb = false ∧ ∀ v : Nat, v < q → at_ d (v : Int) ≠ z) ∧ Past w5 wq) (fun _ i _ => M - (intOf i).toNat)
        case atStart => exact ⟨bb, 0, by omega, rfl, rfl, fun h => ⟨h, fun v hv => absurd hv (by omega)⟩, Past.refl _⟩
        case round =>
          obtain ⟨bc, q, hq, rfl, rfl, hno, hbz⟩ := hrel
          have HNQ := Lib.hid hno
          have b0 := cell_in hbz b0
          clear hno
          by_cases hql : q < M
          · obtain ⟨x, hx⟩ : ∃ x, x = at_ d (q : Int) := ⟨_, rfl⟩
            obtain ⟨g, o, rfl, c0⟩ := (hd5.below hbz) q x (by rw [hx]; exact getElem_at d q (by rw [HDL.out]; exact hql))
            have q0 : (0 : Int) ≤ (q : Int) := by omega
            have q1 : (q : Int) < (M : Int) := by omega
            have hle : x < 99999 → ¬ z < x := fun h => by
              have := farR_ge (M := M) (xs := xs) M j q hlt hql (by rw [← HD.out, ← hx]; exact h)
              rw [← HD.out, ← hx, ← HF.out] at this
              omega
            have HXQ := Lib.hid hx
            have HNX : Hid (∀ b' : Bool, (b' = false → bc = false ∧ x ≠ z) → (b' = false → bb = false ∧ ∀ v : Nat, v < q + 1 → at_ d (v : Int) ≠ z)) := fun b' h e => by
              obtain ⟨h1, h2⟩ := h e
              obtain ⟨h3, h4⟩ := HNQ.out h1
              refine ⟨h3, fun v hv => ?_⟩
              by_cases hvq : v = q
              · rw [hvq, ← HXQ.out]; exact h2
              · exact h4 v (by omega)
            have HLE := Lib.hid hle
            clear hx hle
            by_cases x1 : x < 99999
            · have x2 := HLE.out x1
              have g1 : decide (x < 99999) = true := decide_eq_true x1
              cases bc with
              | true =>
                go_wp2
                go_roundw
                case rel => exact ⟨true, q + 1, by omega, by go_num, rfl, HNX.out true (fun e => by cases e), hbz⟩
                case measure => simp [intOf]; omega
              | false =>
                by_cases x3 : x = z
                · go_wp2
                  go_roundw
                  case rel => exact ⟨true, q + 1, by omega, by go_num, by simp, HNX.out true (fun e => by cases e), hbz⟩
                  case measure => simp [intOf]; omega
                · go_wp2
                  go_roundw
                  case rel => exact ⟨false, q + 1, by omega, by go_num, by simp [x3], HNX.out false (fun _ => ⟨rfl, x3⟩), hbz⟩
                  case measure => simp [intOf]; omega
            · have g1 : decide (x < 99999) = false := decide_eq_false x1
              cases bc with
              | true =>
                go_wp2
                go_roundw
                case rel => exact ⟨true, q + 1, by omega, by go_num, rfl, HNX.out true (fun e => by cases e), hbz⟩
                case measure => simp [intOf]; omega
              | false =>
                have x3 : ¬ x = z := by omega
                go_wp2
                go_roundw
                case rel => exact ⟨false, q + 1, by omega, by go_num, by simp [x3], HNX.out false (fun _ => ⟨rfl, x3⟩), hbz⟩
                case measure => simp [intOf]; omega
          · obtain rfl : q = M := by omega
            have HNX : Hid (bc = false → ∀ s v : Nat, s < j + 1 → v < q → at_ (nearL q xs (s : Int)) (v : Int) ≠ z) := fun e s v hs hv => by
              obtain ⟨h1, h2⟩ := HNQ.out e
              by_cases hsj : s = j
              · rw [hsj, ← HD.out]; exact h2 v hv
              · exact HNO.out h1 s v (by omega) hv
            go_wp2
            go_roundw
            case rel => exact ⟨bc, j + 1, by omega, by go_num, rfl, HNX.out, hp5.trans hbz⟩
            case measure => simp [intOf]; omega
      · obtain rfl : j = M := by omega
        obtain rfl : bb = true := by
          cases hb : bb with
          | true => rfl
          | false =>
            obtain ⟨s, v, h1, h2, h3⟩ := farR_some (M := j) (by omega) hM1 (arcsIn_net HN.out)
            exact absurd (h3.trans HF.out.symm) (HNO.out hb s v h1 h2)
        go_wp2_with fail
        refine (implNetBack_all (j : Int) B k cap xs _ hkk HX.out (hx3.below hbr) hBf).mono ?_
        rintro e w5 ⟨Z, cz, rfl, hz5, _, hb5⟩
        have hbN : backN (j : Int) xs = (j : Int) := by rw [backN, HN.out, if_pos rfl]
        rw [hbN]
        obtain ⟨ys, hys⟩ : ∃ ys, backL (j : Int) xs = ys := ⟨_, rfl⟩
        rw [hys] at hz5 ⊢
        obtain ⟨K2, hK2⟩ : ∃ K2, ys.length = K2 := ⟨_, rfl⟩
        have hK3 : K2 ≤ 1048576 := by have := backL_len (j : Int) xs; rw [hys, hK2, HX.out] at this; omega
        have hyx : ys = xs.map flip := by rw [← hys, backL, HN.out, if_pos rfl]
        have hmo : mostI (j : Int) ys = z := by
          rw [mostI, hyx, netB_flip' HN.out, if_pos rfl, Int.toNat_natCast, farR_back (by omega) (arcsIn_net HN.out), HF.out]
        rw [hK2]
        have HK2 := Lib.hid hK2
        have HMO := Lib.hid hmo
        clear hK2 hbN hys hyx hmo
        go_wp2_with fail
        refine (implReachFar_any (j : Int) Z K2 cz ys _ hK3 HK2.out hz5).mono ?_
        rintro e w6 ⟨rfl, hb6⟩
        rw [HMO.out]
        go_wp2
        go_ret
        exact ⟨by simp, ((hp3.trans hbr).trans hb5).trans hb6⟩

set_option maxRecDepth 100000 in
theorem fnReachFar_lifted (os : Os) (started : os.Started) (H : Type) (enc : TypeId × Value → H) :
    ReturnsInHanded {} Try.checked os 3 .any (Rows.fnReachFarSpec.pre6 enc Try.prog Try.f3 Rows.fnReachFarRow.domain false) (Rows.fnReachFarSpec.post enc Try.prog Try.f3 false true false false) := by
  refine returnsInHanded_of_change (C := Try.checked) own started (by kernel_rfl) Try.func3
    (ChangeSpec.witness6 (enc := enc) (C := Try.checked) false ⟨#[], #[.slice none 0 0], []⟩ 8 (by kernel_rfl) (by kernel_rfl) (by kernel_rfl) (by kernel_rfl)) ?_
  intro W base args ds gs before hval0 hW hcnd _
  have hval : ∀ (j : Nat) t v, Try.f3.params[j]? = some t → args[j]? = some v → Value.okWide Try.prog W .any base t v := hval0
  have hW' := hW
  obtain ⟨p, q, hA0, hV, rfl, hfz, hnd⟩ := hW
  have hA : DataW.TrodAll enc Try.prog W 0 (fun _ => true) true Try.f3.params.toList args.toList ds p := hA0
  rw [Try.params3] at hA hval
  obtain ⟨v0, vs0, d0, ds0, p0, q0, hargs, rfl, rfl, h0, r0⟩ := trodAll_cons hA
  obtain ⟨rfl, rfl, rfl⟩ := trodAll_nil r0
  obtain rfl : args = #[v0] := by cases args; simp_all
  obtain ⟨rfl, rfl⟩ := trodVars_none hV
  have k0 := h0
  have lt0 := places_lt k0
  obtain ⟨A0, n0, c0, rfl, hn0, hc0, hb0⟩ := open_bytes (hval 0 22 v0 rfl rfl) h0
  clear hA0 hval0
  refine (fnReachFar_walk A0 n0 c0 W hn0 hc0 hb0).mono fun e W' ⟨he, bel⟩ => ?_
  subst he
  exact ⟨_, rfl, _, _, _, [], _, [], hW', trodAll_mk1 (shut_bool Try.underlying4 _), (trodAll_cons_mk (Below.trod laidOut (by kernel_rfl) (of_decide_eq_true (by kernel_rfl)) k0 bel lt0) trodAll_mk0), rfl, bel.frame _, fun h => by cases h⟩

/-- The given statement. -/
theorem fnReachFar_proved : Rows.FnReachFarSaid :=
  OpenClaim.holds_of_wide 3 Try.f3 rfl rfl rfl rfl rfl rfl rfl ⟨rfl, rfl, rfl, rfl, rfl⟩ rfl rfl rfl rfl rfl (by kernel_rfl) Try.func3 (by kernel_rfl)
    (of_decide_eq_true (by kernel_rfl)) (by unfold Func.isWrapper; first | (rw [if_pos (by decide +kernel)]; kernel_rfl) | (rw [if_neg (by decide +kernel)]; exact ⟨rfl, rfl⟩))
    (fun os started H enc _ => fnReachFar_lifted os started H enc)

end Go.Proofs.Ytifbigfkakappaa
