/-
  FnStairWalk answers true at every input: who goes each so often comes so long after. No condition.
-/
import Derived.Test.YthopenknfadciaaDrawStairA
import Derived.Test.YthopenknfadciaaStairWalk
import Derived.Test.YthopenknfadciaaWkSteps
namespace Go.Proofs.Ythopenknfadciaa
open Go.ChangeShapes Go.WideShapes Go.ChangeAt Go.RowKit

theorem walkN_all {long from_ every : Int} : ∀ (k i : Nat) (j : Nat), i ≤ j → j < walkN long from_ every k i → from_ + every * (j : Int) + long ≤ 199
  | 0, i, j, h1, h2 => by simp only [walkN] at h2; omega
  | k + 1, i, j, h1, h2 => by
    rw [walkN] at h2
    split at h2
    · rename_i h
      by_cases e : j = i
      · subst e; exact h
      · exact walkN_all k (i + 1) j (by omega) h2
    · omega
theorem walkN_stop {long from_ every : Int} : ∀ (k i : Nat), walkN long from_ every k i < i + k → 199 < from_ + every * ((walkN long from_ every k i : Nat) : Int) + long
  | 0, i, h => by simp only [walkN] at h; omega
  | k + 1, i, h => by
    rw [walkN] at h ⊢
    split
    · rename_i h1
      rw [if_pos h1] at h
      exact walkN_stop k (i + 1) (by omega)
    · omega
theorem walkTo_at {long from_ every : Int} {n k : Nat} (h : k < n) : (walkTo long from_ every n)[k]? = some ⟨from_ + every * (k : Int), from_ + every * (k : Int) + long⟩ := by simp [walkTo, h]
theorem mul_step (every : Int) (he : 1 ≤ every) {i j : Nat} (h : i < j) : every * (i : Int) < every * (j : Int) := Int.mul_lt_mul_of_pos_left (by omega) (by omega)
theorem walk_stair {long from_ every : Int} (h : walkOkB long from_ every = true) : stairB (walkTo long from_ every (walkN long from_ every 12 0)) = true := by
  have hb3 : (0 ≤ long ∧ long ≤ 199) ∧ (0 ≤ from_ ∧ from_ ≤ 199) ∧ (1 ≤ every ∧ every ≤ 199) := by simpa [walkOkB, inB_iff] using h
  refine stairB_of (by rw [walkTo_length]; have := walkN_le long from_ every 12 0; omega) (fun s hs => ?_) ?_
  · obtain ⟨j, hj, rfl⟩ := List.mem_map.1 hs
    have hj : j < walkN long from_ every 12 0 := by simpa using hj
    have := walkN_all 12 0 j (by omega) hj
    have := Int.mul_nonneg (show 0 ≤ every by omega) (show (0 : Int) ≤ (j : Int) by omega)
    exact (stOk_iff _).2 (by simp only; omega)
  · unfold walkTo
    rw [List.pairwise_map]
    refine List.Pairwise.imp ?_ List.pairwise_lt_range
    intro i j hij
    have := mul_step every (by omega) hij
    exact ⟨by simp only; omega, by simp only; omega⟩

set_option maxRecDepth 100000 in
set_option maxHeartbeats 2000000 in
theorem fnStairWalk_walk (A : Option Addr) (n c : Nat) (w : World) (hn : n ≤ c) (hc : c ≤ maxLen) (hb : BytesAt w A n) :
    Calls Try.prog 12 #[.slice A n c] w fun e w' => e = .returned (.bool true) ∧ Below w.heap.size w w' := by
  by_cases h1 : 1048576 < n
  · have h1' : (1048576 : Int) < (n : Int) := by omega
    go_enter Try.func12, Try.ntmps12
    go_wp2
    go_ret
    exact ⟨rfl, Below.refl _ _⟩
  have h1' : ¬ (1048576 : Int) < (n : Int) := by omega
  go_enter Try.func12, Try.ntmps12
  go_wp2_with fail
  refine (drawStairWalk_any A n c w hn hc hb).mono ?_
  rintro e w1 ⟨x, y, z, rfl, x0, x1, y0, y1, z0, z1, hb1⟩
  clear hb hn hc
  go_wp2_with fail
  refine (implStairWalk_any x y z _).mono ?_
  rintro e w2 ⟨v, rfl, hv, hb2⟩
  obtain ⟨D, cd, rfl, hx2, _⟩ := hv.form
  obtain ⟨zs, hzs⟩ : ∃ zs, zs = walkI x y z := ⟨_, rfl⟩
  rw [← hzs] at hx2 ⊢
  obtain ⟨L, hL⟩ : ∃ L, L = zs.length := ⟨_, rfl⟩
  rw [← hL]
  have hLm : L ≤ 1048576 := by rw [hL, hzs]; exact walkI_len x y z
  have HZ := Lib.hid hzs
  have HL := Lib.hid hL.symm
  have hp2 := Past.trans hb1 hb2
  clear hL hv hzs hb1 hb2
  go_wp2_with fail
  refine (specStairWalk_any x y z _).mono ?_
  rintro e w3 ⟨v3, rfl, hv3, hb3⟩
  obtain ⟨D3, c3, rfl, hx3, _⟩ := hv3.form
  rw [← HZ.out] at hx3 ⊢
  rw [HL.out]
  have hx23 := hx2.below hb3
  go_wp2_with fail
  refine (wkSteps_same D D3 L cd c3 zs _ hLm HL.out hx23 hx3).mono ?_
  rintro e w4 ⟨rfl, hb4⟩
  have hx4 := hx23.below hb4
  have hp4 := hp2.trans (Past.trans hb3 hb4)
  clear hx2 hx3 hx23 hb3 hb4 hv3 hp2
  by_cases h0 : L = 0
  · have h0' : ((L : Int) == 0) = true := by simp [h0]
    clear h0
    go_wp2_with fail
    refine (specStairWalk_any x y z _).mono ?_
    rintro e w5 ⟨v5, rfl, hv5, hb5⟩
    obtain ⟨D5, c5, rfl, hx5, _⟩ := hv5.form
    rw [← HZ.out] at hx5 ⊢
    rw [HL.out]
    go_wp2_with fail
    refine (wkSteps_same D D5 L cd c5 zs _ hLm HL.out (hx4.below hb5) hx5).mono ?_
    rintro e w6 ⟨rfl, hb6⟩
    go_wp2
    go_ret
    exact ⟨rfl, hp4.trans (Past.trans hb5 hb6)⟩
  have h0' : ((L : Int) == 0) = false := by simp; omega
  have hok : walkOkB x y z = true := by
    cases hB : walkOkB x y z with
    | true => rfl
    | false =>
      exfalso
      apply h0
      rw [← HL.out, HZ.out, walkI, hB]
      rfl
  have hzw : zs = walkTo x y z (walkN x y z 12 0) := by rw [HZ.out, walkI, hok]; rfl
  have hLN : walkN x y z 12 0 = L := by rw [← HL.out, hzw, walkTo_length]
  rw [hLN] at hzw
  have hst : stairB zs = true := by rw [hzw, ← hLN]; exact walk_stair hok
  have hL12 : L ≤ 12 := by rw [← hLN]; have := walkN_le x y z 12 0; omega
  have hend : L ≠ 12 → 199 < y + z * (L : Int) + x := fun h => by
    have := walkN_stop (long := x) (from_ := y) (every := z) 12 0 (by rw [hLN]; omega)
    rw [hLN] at this
    exact this
  have HW := Lib.hid hzw
  have HS := Lib.hid hst
  have HE := Lib.hid hend
  clear hok hzw hLN hst hend h0
  go_wp2
  go_loopw [7] (fun i wr => ∃ k : Nat, k ≤ L ∧ i = .int .i64 k ∧ Past w4 wr) (fun i _ => L - (intOf i).toNat)
  case atStart => exact ⟨0, by omega, rfl, Past.refl _⟩
  case round =>
    obtain ⟨k, hk, rfl, hbr⟩ := hrel
    have hxr := hx4.below hbr
    have hpr := hp4.trans hbr
    have q0 : 0 ≤ (k : Int) * z := Int.mul_nonneg (by omega) z0
    have q1 : (k : Int) * z ≤ 12 * 30 := Int.mul_le_mul (by omega) z1 z0 (by omega)
    by_cases hlt : k < L
    · have ha := walkTo_at (long := x) (from_ := y) (every := z) hlt
      rw [← HW.out] at ha
      obtain ⟨g, o, rfl, c0, c1⟩ := hxr k _ ha
      obtain ⟨M, hM⟩ : ∃ M, M = (k : Int) * z := ⟨_, rfl⟩
      have hM2 : z * (k : Int) = M := by rw [hM, Int.mul_comm]
      simp only [hM2] at c0 c1
      rw [← hM] at q0 q1
      have s0 : IntKind.i64.wrap ((k : Int) * z) = M := by rw [← hM]; exact IntWalk.i64_in _ (by omega)
      have s1 : IntKind.i64.wrap (y + M) = y + M := IntWalk.i64_in _ (by omega)
      have s2 : IntKind.i64.wrap (y + M + x - (y + M)) = x := by rw [show y + M + x - (y + M) = x by omega]; exact IntWalk.i64_in _ (by omega)
      have i0 : (0 : Int) ≤ (k : Int) := by omega
      have i1 : (k : Int) < (L : Int) := by omega
      clear ha hM hM2 HW HE
      go_wp2_with fail
      go_quiet (fail)
      clear s0 s1 s2
      go_wp2
      go_roundw
      case rel => exact ⟨k + 1, by omega, by go_num, hbr.drewN _⟩
      case measure => simp [intOf]; omega
    · obtain rfl : L = k := by omega
      obtain ⟨M, hM⟩ : ∃ M, M = (L : Int) * z := ⟨_, rfl⟩
      rw [← hM] at q0 q1
      have hend : L ≠ 12 → 199 < y + M + x := fun h => by have := HE.out h; rw [Int.mul_comm] at this; rw [hM]; exact this
      go_wp2_with fail
      refine (implStairOk_any D L cd zs _ (by omega) HL.out hxr).mono ?_
      rintro e w5 ⟨rfl, hb5⟩
      rw [HS.out]
      have s0 : IntKind.i64.wrap ((L : Int) * z) = M := by rw [← hM]; exact IntWalk.i64_in _ (by omega)
      have s0' : (L : Int) * z = M := hM.symm
      clear hM
      by_cases h12 : L = 12
      · have h12' : ((L : Int) == 12) = true := by simp [h12]
        clear h12 hend s0 s0'
        go_wp2
        go_ret
        exact ⟨rfl, hpr.trans hb5⟩
      · have h12' : ((L : Int) == 12) = false := by simp; omega
        have hgt := hend h12
        clear h12 hend
        go_wp2
        go_ret
        exact ⟨ret_bool (by simp), hpr.trans hb5⟩

set_option maxRecDepth 100000 in
theorem fnStairWalk_lifted (os : Os) (started : os.Started) (H : Type) (enc : TypeId × Value → H) :
    ReturnsInHanded {} Try.checked os 12 .any (Rows.fnStairWalkSpec.pre6 enc Try.prog Try.f12 Rows.fnStairWalkRow.domain false) (Rows.fnStairWalkSpec.post enc Try.prog Try.f12 false true false false) := by
  refine returnsInHanded_of_change (C := Try.checked) own started (by kernel_rfl) Try.func12
    (ChangeSpec.witness6 (enc := enc) (C := Try.checked) false ⟨#[], #[.slice none 0 0], []⟩ 8 (by kernel_rfl) (by kernel_rfl) (by kernel_rfl) (by kernel_rfl)) ?_
  intro W base args ds gs before hval0 hW hcnd _
  have hval : ∀ (j : Nat) t v, Try.f12.params[j]? = some t → args[j]? = some v → Value.okWide Try.prog W .any base t v := hval0
  have hW' := hW
  obtain ⟨p, q, hA0, hV, rfl, hfz, hnd⟩ := hW
  have hA : DataW.TrodAll enc Try.prog W 0 (fun _ => true) true Try.f12.params.toList args.toList ds p := hA0
  rw [Try.params12] at hA hval
  obtain ⟨v0, vs0, d0, ds0, p0, q0, hargs, rfl, rfl, h0, r0⟩ := trodAll_cons hA
  obtain ⟨rfl, rfl, rfl⟩ := trodAll_nil r0
  obtain rfl : args = #[v0] := by cases args; simp_all
  obtain ⟨rfl, rfl⟩ := trodVars_none hV
  have k0 := h0
  have lt0 := places_lt k0
  obtain ⟨A0, n0, c0, rfl, hn0, hc0, hb0⟩ := open_bytes (hval 0 38 v0 rfl rfl) h0
  clear hA0 hval0
  refine (fnStairWalk_walk A0 n0 c0 W hn0 hc0 hb0).mono fun e W' ⟨he, bel⟩ => ?_
  subst he
  exact ⟨_, rfl, _, _, _, [], _, [], hW', trodAll_mk1 (shut_bool Try.underlying4 _), (trodAll_cons_mk (Below.trod laidOut (by kernel_rfl) (of_decide_eq_true (by kernel_rfl)) k0 bel lt0) trodAll_mk0), rfl, bel.frame _, fun h => by cases h⟩

/-- The given statement. -/
theorem fnStairWalk_proved : Rows.FnStairWalkSaid :=
  OpenClaim.holds_of_wide 12 Try.f12 rfl rfl rfl rfl rfl rfl rfl ⟨rfl, rfl, rfl, rfl, rfl⟩ rfl rfl rfl rfl rfl (by kernel_rfl) Try.func12 (by kernel_rfl)
    (of_decide_eq_true (by kernel_rfl)) (by unfold Func.isWrapper; first | (rw [if_pos (by decide +kernel)]; kernel_rfl) | (rw [if_neg (by decide +kernel)]; exact ⟨rfl, rfl⟩))
    (fun os started H enc _ => fnStairWalk_lifted os started H enc)

end Go.Proofs.Ythopenknfadciaa
