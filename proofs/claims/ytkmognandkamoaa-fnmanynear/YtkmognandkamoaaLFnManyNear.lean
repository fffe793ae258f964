/-
  FnManyNear answers true at every input: none of a list is nearer than the one that is told. No condition.
-/
import Derived.Test.YtkmognandkamoaaDrawMany
import Derived.Test.YtkmognandkamoaaOpenB
import Derived.Test.YtkmognandkamoaaMNearI
import Derived.Test.YtkmognandkamoaaPWay
namespace Go.Proofs.Ytkmognandkamoaa
open Go.ChangeShapes Go.WideShapes Go.ChangeAt Go.RowKit

set_option maxRecDepth 100000 in
set_option maxHeartbeats 2000000 in
theorem fnManyNear_walk (A : Option Addr) (n c : Nat) (w : World) (hn : n ≤ c) (hc : c ≤ maxLen) (hb : BytesAt w A n) :
    Calls Try.prog 12 #[.slice A n c] w fun e w' => e = .returned (.bool true) ∧ Below w.heap.size w w' := by
  by_cases h1 : 1048576 < n
  · have h1' : (1048576 : Int) < (n : Int) := by omega
    go_enter Try.func12, Try.ntmps12
    go_wp2
    go_ret
    exact ⟨rfl, Below.refl _ _⟩
  have h1' : ¬ (1048576 : Int) < (n : Int) := by omega
  go_enter Try.func12, Try.ntmps12
  go_wp2_with fail
  refine (drawManyNear_any A n c w hn hc hb).mono ?_
  rintro e w1 ⟨m, B, k, cap, xs, s, D, l, cd, ys, rfl, hxk, hk, hx1, hform, hly, hl5, hy1, hb1⟩
  have HX := Lib.hid hxk
  have HY := Lib.hid hly
  clear hxk hly hb hn hc
  have hkk : k ≤ 1048576 := by omega
  have hll : l ≤ 1048576 := by omega
  have hpW : Past w1 (w1.alloc (.cells #[.int .i64 m, .slice B k cap] 29)) := (Past.refl w1).alloc _
  go_wp2_with fail
  refine (implManyNear_any m B k cap xs s D l cd ys _ hkk HX.out (hx1.below hpW) hll HY.out (hy1.below hpW)).mono ?_
  rintro e w2 ⟨rfl, hb2⟩
  have b0 := cell_in (p := ⟨w1.heap.size, 0, none⟩) (v := .int .i64 m) hb2 (by go_simp)
  have b1 := cell_in (p := ⟨w1.heap.size, 1, none⟩) (v := .slice B k cap) hb2 (by go_simp)
  have hx2 := (hx1.below hpW).below hb2
  have hy2 := (hy1.below hpW).below hb2
  have hp2 : Past w w2 := Past.trans hb1 (hpW.trans hb2)
  clear hx1 hy1 hb1 hb2 hpW
  obtain ⟨X, hX⟩ : ∃ X, X = manyW m xs s ys := ⟨_, rfl⟩
  obtain ⟨C, hC⟩ : ∃ C, C = manyC m xs s ys := ⟨_, rfl⟩
  rw [← hX, ← hC]
  have HXX := Lib.hid hX
  have HCC := Lib.hid hC
  clear hX hC
  go_wp2_with fail
  refine (specManyNear_any m B k cap xs s D l cd ys _ hkk HX.out hx2 hll HY.out hy2).mono ?_
  rintro e w3 ⟨rfl, hb3⟩
  rw [← HXX.out, ← HCC.out]
  have b0 := cell_in hb3 b0
  have b1 := cell_in hb3 b1
  have hx3 := hx2.below hb3
  have hy3 := hy2.below hb3
  have hp3 := Past.trans hp2 hb3
  clear hx2 hy2 hb3 hp2
  have e1 : (X != X) = false := by simp
  have e2 : (C != C) = false := by simp
  by_cases hc0 : C < 0
  · have e3 : (X == X) = true := by simp
    have e4 : (C == C) = true := by simp
    go_wp2
    go_ret
    exact ⟨rfl, hp3⟩
  have hO : (listB m xs ys && inB s 0 (m - 1)) = true := by
    cases h : (listB m xs ys && inB s 0 (m - 1)) with
    | true => rfl
    | false => rw [HCC.out, manyC, h] at hc0; exact absurd hc0 (by simp)
  have hLs : X = (least (costsL m xs s ys) ys.length).1 ∧ C = (least (costsL m xs s ys) ys.length).2 := by rw [HXX.out, HCC.out, manyW, manyC, hO, if_pos rfl, if_pos rfl]; exact ⟨rfl, rfl⟩
  rw [Bool.and_eq_true] at hO
  obtain ⟨hLB, hI⟩ := hO
  obtain ⟨hN, _, hin⟩ := (listB_iff _ _ _).1 hLB
  obtain ⟨M, rfl, hM1, hM8⟩ := here_nat hN
  have hs := (inB_iff _ _ _).1 hI
  have hH : hereB (M : Int) xs s = true := (hereB_iff _ _ _).2 ⟨hN, by omega, by omega⟩
  have hni : nearI (M : Int) xs s = nearL M xs s := by rw [nearI, hH, if_pos rfl, Int.toNat_natCast]
  rw [costsL, Int.toNat_natCast] at hLs
  have HNI := Lib.hid hni
  have HIN := Lib.hid hin
  have HLS := Lib.hid hLs
  clear hLB hI hN hin hH hni hLs hs HXX HCC
  go_wp2_with fail
  refine (implNearAll_any (M : Int) B k cap xs s _ hkk HX.out hx3).mono ?_
  rintro e w4 ⟨v4, rfl, hv4, hb4⟩
  rw [HNI.out] at hv4
  obtain ⟨E, ce, rfl, hd4, _⟩ := hv4.form
  rw [nearL_length]
  obtain ⟨d, hd⟩ : ∃ d, d = nearL M xs s := ⟨_, rfl⟩
  rw [← hd] at hd4 HLS
  have hdl : d.length = M := by rw [hd, nearL_length]
  have HDL := Lib.hid hdl
  have hy4 := hy3.below hb4
  have hp4 := Past.trans hp3 hb4
  obtain ⟨cs, hcs⟩ : ∃ cs, cs = ys.map (at_ d) := ⟨_, rfl⟩
  rw [← hcs] at HLS
  have HCS := Lib.hid hcs
  clear hd hdl hcs hv4 hb4 hx3 hy3 hp3 b0 b1 HNI
  go_wp2
  go_loopw [11] (fun i wr => ∃ j : Nat, j ≤ l ∧ i = .int .i64 j ∧ Past w4 wr) (fun i _ => l - (intOf i).toNat)
  case atStart => exact ⟨0, by omega, rfl, Past.refl _⟩
  case round =>
    obtain ⟨j, hj, rfl, hbr⟩ := hrel
    by_cases hlt : j < l
    · obtain ⟨y, ha⟩ : ∃ a, ys[j]? = some a := ⟨_, List.getElem?_eq_getElem (by have := HY.out; omega)⟩
      obtain ⟨g, o, rfl, c0⟩ := (hy4.below hbr) j _ ha
      have hyb := HIN.out y (List.mem_of_getElem? ha)
      obtain ⟨z, hz⟩ : ∃ z, z = at_ d y := ⟨_, rfl⟩
      obtain ⟨g', o', rfl, d0⟩ := (hd4.below hbr) y.toNat z (by rw [hz]; exact getElem_at' d y hyb.1 (by rw [HDL.out]; exact hyb.2))
      have hcz : at_ cs (j : Int) = z := by rw [HCS.out, at_map ha, hz]
      have hge := least_le cs ys.length j (by rw [HY.out]; exact hlt)
      have hfi := least_first cs ys.length j (by rw [HY.out]; exact hlt)
      rw [← HLS.out.2, hcz] at hge hfi
      rw [← HLS.out.1] at hfi
      clear ha hz hcz
      have i0 : (0 : Int) ≤ (j : Int) := by omega
      have i1 : (j : Int) < (l : Int) := by omega
      have y0 := hyb.1
      have y1 := hyb.2
      have hzc : ¬ z < C := by omega
      by_cases hjx : (j : Int) < X
      · have hne : (z == C) = false := by have := hfi hjx; simp; omega
        clear hfi hge hyb
        go_wp2
        go_roundw
        case rel => exact ⟨j + 1, by omega, by go_num, hbr⟩
        case measure => simp [intOf]; omega
      · clear hfi hge hyb
        go_wp2
        go_roundw
        case rel => exact ⟨j + 1, by omega, by go_num, hbr⟩
        case measure => simp [intOf]; omega
    · obtain rfl : l = j := by omega
      have hat := least_at cs ys.length
      rw [← HLS.out.1, ← HLS.out.2] at hat
      rcases hat with ⟨rfl, rfl⟩ | ⟨q, hq, rfl, hqc⟩
      · go_wp2
        go_ret
        exact ⟨rfl, hp4.trans hbr⟩
      · rw [HY.out] at hq
        obtain ⟨y, ha⟩ : ∃ a, ys[q]? = some a := ⟨_, List.getElem?_eq_getElem (by have := HY.out; omega)⟩
        obtain ⟨g, o, rfl, c0⟩ := (hy4.below hbr) q _ ha
        have hyb := HIN.out y (List.mem_of_getElem? ha)
        obtain ⟨g', o', rfl, d0⟩ := (hd4.below hbr) y.toNat C (by rw [← hqc, HCS.out, at_map ha]; exact getElem_at' d y hyb.1 (by rw [HDL.out]; exact hyb.2))
        clear ha hqc
        have i0 : (0 : Int) ≤ (q : Int) := by omega
        have i1 : (q : Int) < (l : Int) := by omega
        have i2 : ¬ (q : Int) < 0 := by omega
        have y0 := hyb.1
        have y1 := hyb.2
        go_wp2
        go_ret
        exact ⟨rfl, hp4.trans hbr⟩

set_option maxRecDepth 100000 in
theorem fnManyNear_lifted (os : Os) (started : os.Started) (H : Type) (enc : TypeId × Value → H) :
    ReturnsInHanded {} Try.checked os 12 .any (Rows.fnManyNearSpec.pre6 enc Try.prog Try.f12 Rows.fnManyNearRow.domain false) (Rows.fnManyNearSpec.post enc Try.prog Try.f12 false true false false) := by
  refine returnsInHanded_of_change (C := Try.checked) own started (by kernel_rfl) Try.func12
    (ChangeSpec.witness6 (enc := enc) (C := Try.checked) false ⟨#[], #[.slice none 0 0], []⟩ 8 (by kernel_rfl) (by kernel_rfl) (by kernel_rfl) (by kernel_rfl)) ?_
  intro W base args ds gs before hval0 hW hcnd _
  have hval : ∀ (j : Nat) t v, Try.f12.params[j]? = some t → args[j]? = some v → Value.okWide Try.prog W .any base t v := hval0
  have hW' := hW
  obtain ⟨p, q, hA0, hV, rfl, hfz, hnd⟩ := hW
  have hA : DataW.TrodAll enc Try.prog W 0 (fun _ => true) true Try.f12.params.toList args.toList ds p := hA0
  rw [Try.params12] at hA hval
  obtain ⟨v0, vs0, d0, ds0, p0, q0, hargs, rfl, rfl, h0, r0⟩ := trodAll_cons hA
  obtain ⟨rfl, rfl, rfl⟩ := trodAll_nil r0
  obtain rfl : args = #[v0] := by cases args; simp_all
  obtain ⟨rfl, rfl⟩ := trodVars_none hV
  have k0 := h0
  have lt0 := places_lt k0
  obtain ⟨A0, n0, c0, rfl, hn0, hc0, hb0⟩ := open_bytes (hval 0 48 v0 rfl rfl) h0
  clear hA0 hval0
  refine (fnManyNear_walk A0 n0 c0 W hn0 hc0 hb0).mono fun e W' ⟨he, bel⟩ => ?_
  subst he
  exact ⟨_, rfl, _, _, _, [], _, [], hW', trodAll_mk1 (shut_bool Try.underlying4 _), (trodAll_cons_mk (Below.trod laidOut (by kernel_rfl) (of_decide_eq_true (by kernel_rfl)) k0 bel lt0) trodAll_mk0), rfl, bel.frame _, fun h => by cases h⟩

/-- The given statement. -/
theorem fnManyNear_proved : Rows.FnManyNearSaid :=
  OpenClaim.holds_of_wide 12 Try.f12 rfl rfl rfl rfl rfl rfl rfl ⟨rfl, rfl, rfl, rfl, rfl⟩ rfl rfl rfl rfl rfl (by kernel_rfl) Try.func12 (by kernel_rfl)
    (of_decide_eq_true (by kernel_rfl)) (by unfold Func.isWrapper; first | (rw [if_pos (by decide +kernel)]; kernel_rfl) | (rw [if_neg (by decide +kernel)]; exact ⟨rfl, rfl⟩))
    (fun os started H enc _ => fnManyNear_lifted os started H enc)

end Go.Proofs.Ytkmognandkamoaa
