/-
  Whether stops are ok, and what a tour costs, as the program goes: impl.stopsOk, impl.TourCost. No condition.
-/
import Derived.Test.YtaojognjkiifmacISorted
import Derived.Test.YtaojognjkiifmacPTour
import Derived.Test.YtaojognjkiifmacNAll
namespace Go.Proofs.Ytaojognjkiifmac
open Go.RowKit

theorem len_sub {C : List Int} : ∀ {zs : List Int}, C.Nodup → (∀ x ∈ C, x ∈ zs) → C.length ≤ zs.length := by
  induction C with
  | nil => intro zs _ _; simp
  | cons c C ih =>
    intro zs hn hs
    have hc := hs c (by simp)
    have h1 := ih (zs := zs.erase c) (List.nodup_cons.1 hn).2 (fun x hx => (List.mem_erase_of_ne (fun e => (List.nodup_cons.1 hn).1 (by rw [← e]; exact hx))).2 (hs x (by simp [hx])))
    rw [List.length_erase_of_mem hc] at h1
    have := List.length_pos_of_mem hc
    simp only [List.length_cons]
    omega
theorem dup_less : ∀ {zs : List Int}, ¬ zs.Nodup → ∃ us : List Int, us.length + 1 = zs.length ∧ ∀ x ∈ zs, x ∈ us
  | [], h => absurd List.nodup_nil h
  | z :: t, h => by
    by_cases hz : z ∈ t
    · exact ⟨t, rfl, fun x hx => by
        rcases List.mem_cons.1 hx with rfl | hx
        · exact hz
        · exact hx⟩
    · obtain ⟨us, h1, h2⟩ := dup_less (zs := t) (fun hn => h (List.nodup_cons.2 ⟨hz, hn⟩))
      refine ⟨z :: us, by simp only [List.length_cons]; omega, fun x hx => ?_⟩
      rcases List.mem_cons.1 hx with rfl | hx
      · simp
      · simp [h2 x hx]
/-- How many are different. -/
theorem comp_nodup (ys : List Int) : (Lib.compact (ys.mergeSort fun x y => decide (x ≤ y))).length = ys.length ↔ ys.Nodup := by
  obtain ⟨h1, h2⟩ := comp_rises _ (sort_rises ys)
  have hn : (Lib.compact (ys.mergeSort fun x y => decide (x ≤ y))).Nodup := h1.imp (fun h => by omega)
  have hm : ∀ v, v ∈ Lib.compact (ys.mergeSort fun x y => decide (x ≤ y)) ↔ v ∈ ys := fun v => by rw [h2, List.mem_mergeSort]
  constructor
  · intro hl
    refine Classical.byContradiction fun hd => ?_
    obtain ⟨us, h3, h4⟩ := dup_less hd
    have := len_sub hn (fun x hx => h4 x ((hm x).1 hx))
    omega
  · intro hd
    have a := len_sub hn (fun x hx => (hm x).1 hx)
    have b := len_sub hd (fun x hx => (hm x).2 hx)
    omega

set_option maxRecDepth 100000 in
set_option maxHeartbeats 2000000 in
theorem stopsOk_any (m : Int) (A : Option Addr) (n c : Nat) (xs : List ArcD) (B : Option Addr) (l cb : Nat) (ys : List Int) (w : World) (hn : n ≤ 1048576) (hnx : xs.length = n) (hx : ArcsAt w A xs) (hl : l ≤ 1048576) (hly : ys.length = l) (hy : IntsAt w B ys) :
    Calls Try.prog 49 #[.agg #[.int .i64 m, .slice A n c], .slice B l cb] w fun e w' => e = .returned (.bool (tcB m xs ys)) ∧ Below w.heap.size w w' := by
  have HX := Lib.hid hnx
  have HL := Lib.hid hly
  clear hnx hly
  have hb0 : Past w (w.alloc (.cells #[.int .i64 m, .slice A n c] 30)) := (Past.refl _).alloc _
  by_cases h0 : l = 0
  · have HV : Hid (tcB m xs ys = false) := by
      rw [Hid, tcB, Bool.and_eq_false_iff]
      right
      rw [Bool.eq_false_iff]
      intro h
      have := ((stopsB_iff _ _).1 h).2.1
      have := HL.out
      omega
    subst h0
    go_enter Try.func49, Try.ntmps49
    go_wp2
    go_ret
    exact ⟨ret_bool HV.out.symm, hb0⟩
  have q0 : ((l : Int) == 0) = false := by simpa using h0
  by_cases h5 : l ≤ 5
  rotate_left
  · have h5' : (5 : Int) < (l : Int) := by omega
    have HV : Hid (tcB m xs ys = false) := by
      rw [Hid, tcB, Bool.and_eq_false_iff]
      right
      rw [Bool.eq_false_iff]
      intro h
      have := ((stopsB_iff _ _).1 h).2.2
      have := HL.out
      omega
    go_enter Try.func49, Try.ntmps49
    go_wp2
    go_ret
    exact ⟨ret_bool HV.out.symm, hb0⟩
  have h5' : ¬ (5 : Int) < (l : Int) := by omega
  go_enter Try.func49, Try.ntmps49
  go_wp2_with fail
  refine (netHas_any m A n c xs B l cb ys _ hn HX.out (hx.below hb0) hl HL.out (hy.below hb0)).mono ?_
  rintro e w1 ⟨rfl, hb1⟩
  have hp1 := hb0.trans hb1
  have hy1 := hy.below hp1
  cases hB : (netB m xs && ys.all fun z => inB z 0 (m - 1)) with
  | false =>
    have HV : Hid (tcB m xs ys = false) := by
      rw [Hid, Bool.eq_false_iff]
      intro h
      rw [tcB, Bool.and_eq_true] at h
      have h2 := (stops_nodup.1 ((stopsB_iff _ _).1 h.2).1).1
      have h3 : (ys.all fun z => inB z 0 (m - 1)) = true := List.all_eq_true.2 h2
      rw [h.1, h3] at hB
      cases hB
    clear hB
    go_wp2
    go_ret
    exact ⟨ret_bool HV.out.symm, hp1⟩
  | true =>
  rw [Bool.and_eq_true, List.all_eq_true] at hB
  have HV : Hid (tcB m xs ys = decide ys.Nodup) := by
    rw [Hid, tcB, hB.1, Bool.true_and, Bool.eq_iff_iff, stopsB_iff, stops_nodup, decide_eq_true_iff]
    have := HL.out
    exact ⟨fun h => h.1.2, fun h => ⟨⟨hB.2, h⟩, by omega, by omega⟩⟩
  clear hB
  have hpa : Past w1 (w1.alloc (.cells #[.slice B l cb] 25)) := (Past.refl _).alloc _
  go_wp2_with fail
  refine (values_any B l cb _).mono ?_
  rintro e w2 ⟨rfl, rfl⟩
  go_wp2_with fail
  refine (sorted_any w1.heap.size B l cb ys HL.out hl _ (by go_simp) (hy1.below hpa)).mono ?_
  rintro e w3 ⟨v3, rfl, hv3, hb3⟩
  go_wp2_with fail
  refine (compInts_any _ v3 _ _ (by rw [List.length_mergeSort, HL.out]; exact hl) hv3).mono ?_
  rintro e w4 ⟨v4, rfl, hv4, hg4⟩
  have hp4 : Past w w4 := Below.grown (hp1.trans (hpa.trans hb3)) hg4 (Nat.le_trans hp1.size (Nat.le_trans hpa.size hb3.size)) (fun b e => by have := (hv3.lt b e).1; have := hp1.size; have := hpa.size; omega)
  obtain ⟨D, cd, rfl, _, _⟩ := hv4.form
  have hcn := comp_nodup ys
  rw [HL.out] at hcn
  obtain ⟨K, hK⟩ : ∃ K, K = (Lib.compact (ys.mergeSort fun x y => decide (x ≤ y))).length := ⟨_, rfl⟩
  rw [← hK] at hcn
  rw [← hK]
  clear hK hv4 hv3 hg4
  by_cases hN : ys.Nodup
  · have hk : K = l := hcn.2 hN
    have q1 : ((K : Int) == (l : Int)) = true := by rw [hk]; exact beq_self_eq_true _
    have HV2 : Hid (tcB m xs ys = true) := by rw [Hid, HV.out, decide_eq_true hN]
    clear hcn
    go_wp2
    go_ret
    exact ⟨ret_bool HV2.out.symm, hp4⟩
  · have hk : ¬ K = l := fun e => hN (hcn.1 e)
    have q1 : ((K : Int) == (l : Int)) = false := by rw [beq_eq_false_iff_ne]; omega
    have HV2 : Hid (tcB m xs ys = false) := by rw [Hid, HV.out, decide_eq_false hN]
    clear hcn
    go_wp2
    go_ret
    exact ⟨ret_bool HV2.out.symm, hp4⟩

set_option maxRecDepth 100000 in
set_option maxHeartbeats 4000000 in
theorem implTourCost_any (m : Int) (A : Option Addr) (n c : Nat) (xs : List ArcD) (B : Option Addr) (l cb : Nat) (ys : List Int) (w : World) (hn : n ≤ 1048576) (hnx : xs.length = n) (hx : ArcsAt w A xs) (hl : l ≤ 1048576) (hly : ys.length = l) (hy : IntsAt w B ys) :
    Calls Try.prog 19 #[.agg #[.int .i64 m, .slice A n c], .slice B l cb] w fun e w' => e = .returned (.int .i64 (tcostI m xs ys)) ∧ Below w.heap.size w w' := by
  have HX := Lib.hid hnx
  have HL := Lib.hid hly
  clear hnx hly
  have hb0 : Past w (w.alloc (.cells #[.int .i64 m, .slice A n c] 30)) := (Past.refl _).alloc _
  go_enter Try.func19, Try.ntmps19
  go_wp2_with fail
  refine (stopsOk_any m A n c xs B l cb ys _ hn HX.out (hx.below hb0) hl HL.out (hy.below hb0)).mono ?_
  rintro e w1 ⟨rfl, hb1⟩
  have b0 := cell_in (p := ⟨w.heap.size, 0, none⟩) (v := .int .i64 m) hb1 (by go_simp)
  have b1 := cell_in (p := ⟨w.heap.size, 1, none⟩) (v := .slice A n c) hb1 (by go_simp)
  have hx1 := (hx.below hb0).below hb1
  have hy1 := (hy.below hb0).below hb1
  have hp1 := hb0.trans hb1
  clear hb0 hb1
  cases hB : tcB m xs ys with
  | false =>
    have HV := Lib.hid (tcostI_no hB)
    clear hB
    go_wp2
    go_ret
    exact ⟨ret_int HV.out.symm, hp1⟩
  | true =>
  have hBB := hB
  rw [tcB, Bool.and_eq_true] at hBB
  obtain ⟨M, rfl, h1, h8⟩ := here_nat hBB.1
  have HNB := Lib.hid hBB.1
  have HIN := Lib.hid (arcsIn_net hBB.1)
  have HYS := Lib.hid (stops_in hBB.2)
  have h5 := ((stopsB_iff _ _).1 hBB.2).2.2
  rw [HL.out] at h5
  have HV : Hid (tcostI M xs ys = sumI M xs ys) := by rw [Hid, tcostI, hB]; simp
  clear hB hBB
  go_wp2
  go_loopw [5, 16] (fun u i wr => ∃ (k : Nat) (S : Int), k ≤ l ∧ u = .int .i64 S ∧ i = .int .i64 k ∧ legsTo M xs ys k = S ∧ Past w1 wr ∧ NearTo_ M xs ys k) (fun _ i _ => l - (intOf i).toNat)
  case atStart => exact ⟨0, 0, by omega, rfl, rfl, rfl, Past.refl _, fun j h => absurd h (by omega)⟩
  case round =>
    obtain ⟨k, S, hk, rfl, rfl, hS, hb, hok⟩ := hrel
    have HK := Lib.hid hok
    have hSb := legs_bd HIN.out HYS.out k (by rw [HL.out]; exact hk)
    rw [hS] at hSb
    have HSS := Lib.hid hS
    clear hok hS
    have b0 := cell_in hb b0
    have b1 := cell_in hb b1
    have hyr := hy1.below hb
    have hxr := hx1.below hb
    by_cases hkl : k < l
    · obtain ⟨y, ha⟩ : ∃ a, ys[k]? = some a := ⟨_, List.getElem?_eq_getElem (by have := HL.out; omega)⟩
      obtain ⟨q, hq⟩ : ∃ q, q = (k + 1) % l := ⟨_, rfl⟩
      have hql : q < l := by rw [hq]; exact Nat.mod_lt _ (by omega)
      obtain ⟨t, hat⟩ : ∃ a, ys[q]? = some a := ⟨_, List.getElem?_eq_getElem (by have := HL.out; omega)⟩
      obtain ⟨g, o, rfl, c0⟩ := hyr k _ ha
      obtain ⟨g', o', eg, d0⟩ := hyr q _ hat
      injection eg with eg
      injection eg with eg1 eg2
      subst eg1 eg2
      have hyb := HYS.out y (List.mem_of_getElem? ha)
      have htb := HYS.out t (List.mem_of_getElem? hat)
      have hleg : Hid (legI M xs ys k = at_ (nearL M xs y) t) := by
        rw [Hid, legI, stopAt_of ha, HL.out, ← hq, stopAt_of hat]
      have hlb := leg_bd HIN.out HYS.out (k := k) (by rw [HL.out]; exact hkl)
      obtain ⟨z, hz'⟩ : ∃ z, (nearL M xs y)[t.toNat]? = some z := ⟨_, List.getElem?_eq_getElem (by rw [nearL_length]; omega)⟩
      have hzl : Hid (legI M xs ys k = z) := by rw [Hid, hleg.out, at_, List.getD_eq_getElem?_getD, hz']; rfl
      rw [hzl.out] at hlb
      have HZ := Lib.hid hz'
      have HI : Hid (nearI M xs y = nearL M xs y) := by
        rw [Hid, nearI, hereB, HNB.out, (inB_iff _ _ _).2 (by omega)]; simp
      have i0 : (0 : Int) ≤ (k : Int) := by omega
      have i1 : (k : Int) < (l : Int) := by omega
      have e1 : IntKind.i64.wrap ((k : Int) + 1) = (k : Int) + 1 := IntWalk.i64_in _ (by omega)
      have e2 : Int.tmod ((k : Int) + 1) (l : Int) = (q : Int) := by rw [hq, Int.tmod_eq_emod_of_nonneg (by omega)]; norm_cast
      have e4 : IntKind.i64.wrap (q : Int) = (q : Int) := IntWalk.i64_in _ (by omega)
      have e3 : ¬ ((l : Int) = 0) := by omega
      have e5 : ((l : Int) == 0) = false := by simpa using e3
      have e6 : ¬ l = 0 := by omega
      have q0 : (0 : Int) ≤ (q : Int) := by omega
      have q1 : (q : Int) < (l : Int) := by omega
      have t0 := htb.1
      have t1 := htb.2
      have hwr : IntKind.i64.wrap (S + z) = S + z := IntWalk.i64_in _ (by omega)
      have HQ := Lib.hid hq
      clear ha hat hz' hq
      go_wp2_with fail
      refine (implNearAll_any (M : Int) A n c xs y _ hn HX.out hxr).mono ?_
      rintro e w4 ⟨v4, rfl, hv4, hb4⟩
      rw [HI.out] at hv4
      obtain ⟨Y, cy, rfl, hy4, _⟩ := hv4.form
      rw [nearL_length]
      obtain ⟨gy, oy, rfl, cT⟩ := hy4 _ _ HZ.out
      have hb5 := hb.trans hb4
      by_cases hf : z = 99999
      · have HF : Hid (sumI M xs ys = 99999) := sumI_far (k := k) (by rw [HL.out]; exact hkl) (by rw [hzl.out]; omega)
        subst hf
        go_wp2
        go_ret
        exact ⟨ret_int (by rw [HV.out, HF.out]), hp1.trans hb5⟩
      · have hf2 : (z == 99999) = false := by simpa using hf
        have HN := Lib.hid (HK.out.next (by rw [hzl.out]; omega))
        have HS2 : Hid (legsTo M xs ys (k + 1) = S + z) := by rw [Hid, legsTo, HSS.out, hzl.out]
        go_wp2
        go_roundw
        case rel => exact ⟨k + 1, S + z, by omega, rfl, by go_num, HS2.out, hb5, HN.out⟩
        case measure => simp [intOf]; omega
    · obtain rfl : l = k := by omega
      have HE : Hid (sumI M xs ys = S) := by
        have e := HL.out
        subst e
        rw [Hid, sumI_near HK.out, HSS.out]
      go_wp2
      go_ret
      exact ⟨ret_int (by rw [HV.out, HE.out]), hp1.trans hb⟩

end Go.Proofs.Ytaojognjkiifmac
