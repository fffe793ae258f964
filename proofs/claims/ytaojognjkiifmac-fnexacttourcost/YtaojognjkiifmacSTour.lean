/-
  What a tour costs, as the specification goes: spec.l17Stops, spec.l17Cost, spec.TourCost. No condition.
-/
import Derived.BigQuiet
import Derived.Deep.RegionWith
import Derived.Test.YtaojognjkiifmacPTour
import Derived.Test.YtaojognjkiifmacInL
import Derived.Test.YtaojognjkiifmacNear
import Derived.Test.YtaojognjkiifmacQPast
import Derived.Test.YtaojognjkiifmacInfoI
namespace Go.Proofs.Ytaojognjkiifmac
open Go.RowKit

theorem IntsAt.preT {w : World} {A : Option Addr} {zs : List Int} (h : IntsAt w A zs) (i : Nat) : IntsAt w A (zs.take i) := fun k a hk => by
  rw [List.getElem?_take] at hk
  split at hk
  · exact h k a hk
  · cases hk

set_option maxRecDepth 100000 in
set_option maxHeartbeats 4000000 in
theorem l17Stops_any (M : Nat) (A : Option Addr) (n c : Nat) (B : Option Addr) (l cb : Nat) (ys : List Int) (w : World) (h1 : 1 ≤ M) (h8 : M ≤ 8) (hl : l ≤ 1048576) (hcb : l ≤ cb) (hly : ys.length = l) (hy : IntsAt w B ys) :
    Calls Try.prog 46 #[.agg #[.int .i64 (M : Int), .slice A n c], .slice B l cb] w fun e w' => e = .returned (.bool (stopsB M ys)) ∧ Below w.heap.size w w' := by
  have HL := Lib.hid hly
  clear hly
  have hb0 : Past w (w.alloc (.cells #[.int .i64 (M : Int), .slice A n c] 30)) := (Past.refl _).alloc _
  have hw : IntKind.i64.wrap ((M : Int) - 1) = (M : Int) - 1 := IntWalk.i64_in _ (by omega)
  go_enter Try.func46, Try.ntmps46
  go_wp2
  go_loopw [5] (fun i wr => ∃ k : Nat, k ≤ l ∧ i = .int .i64 k ∧ Past (w.alloc (.cells #[.int .i64 (M : Int), .slice A n c] 30)) wr ∧ StopTo M ys k) (fun i _ => l - (intOf i).toNat)
  case atStart => exact ⟨0, by omega, rfl, Past.refl _, fun j h => absurd h (by omega)⟩
  case round =>
    obtain ⟨k, hk, rfl, hb, hok⟩ := hrel
    have HK := Lib.hid hok
    clear hok
    have hz := hb.lt
    have b0 := cell_in (p := ⟨w.heap.size, 0, none⟩) (v := .int .i64 (M : Int)) hb (by go_simp)
    have hyr := (hy.below hb0).below hb
    by_cases hkl : k < l
    · obtain ⟨y, ha⟩ : ∃ a, ys[k]? = some a := ⟨_, List.getElem?_eq_getElem (by have := HL.out; omega)⟩
      obtain ⟨g, o, rfl, c0⟩ := hyr k _ ha
      have HS := Lib.hid (stopB_of (m := (M : Int)) ha)
      have i0 : (0 : Int) ≤ (k : Int) := by omega
      have i1 : (k : Int) < (l : Int) := by omega
      have i2 : (k : Int) ≤ (cb : Int) := by omega
      have hli := hyr.preT k
      have C1 := Lib.hid (fun q : PastOf wr => l1In_any y 0 ((M : Int) - 1) q.W)
      have C2 := Lib.hid (fun q : PastOf wr => l12In_any (some ⟨g, o, none⟩) k cb (ys.take k) y q.W (by omega) (by rw [List.length_take, HL.out]; omega) (hli.below q.h))
      have B0 := past_cell b0
      have C0 := past_cell c0
      clear ha c0
      cases hI : inB y 0 ((M : Int) - 1) with
      | false =>
        have HB : Hid (stopsB M ys = false) := stopsB_bad (k := k) (by have := HL.out; omega) (by rw [HS.out, hI]; rfl)
        rw [hI] at C1
        clear hI
        go_wp2_with fail
        refine wp_region_past (by kernel_rfl) (by kernel_rfl) ?_
        repeat (go_big_quiet_step (with_reducible exact rfl))
        go_big_quiet_step ((go_at_call 63; exact past_call ((C1.out _).mono fun _ _ h => ⟨h.1, by rw [← h.2]; exact Below.refl _ _⟩)))
        repeat (go_big_quiet_step (with_reducible exact rfl))
        refine wpQuiet_nil ?_
        rintro _ ⟨⟨W8, hW8⟩, rfl⟩
        go_wp2
        go_ret
        exact ⟨ret_bool HB.out.symm, hb0.trans (hb.trans hW8)⟩
      | true =>
      rw [hI] at C1
      cases hN : inL (ys.take k) y with
      | true =>
        have HB : Hid (stopsB M ys = false) := stopsB_bad (k := k) (by have := HL.out; omega) (by rw [HS.out, hI, hN]; rfl)
        rw [hN] at C2
        clear hI hN
        go_wp2_with fail
        refine wp_region_past (by kernel_rfl) (by kernel_rfl) ?_
        repeat (go_big_quiet_step (with_reducible exact rfl))
        go_big_quiet_step ((go_at_call 63; exact past_call ((C1.out _).mono fun _ _ h => ⟨h.1, by rw [← h.2]; exact Below.refl _ _⟩)))
        repeat (go_big_quiet_step (with_reducible exact rfl))
        go_big_quiet_step ((go_at_call 58; exact past_call (C2.out _)))
        repeat (go_big_quiet_step (with_reducible exact rfl))
        refine wpQuiet_nil ?_
        rintro _ ⟨⟨W8, hW8⟩, rfl⟩
        go_wp2
        go_ret
        exact ⟨ret_bool HB.out.symm, hb0.trans (hb.trans hW8)⟩
      | false =>
        have HN := Lib.hid (HK.out.next (by rw [HS.out, hI, hN]; rfl))
        rw [hN] at C2
        clear hI hN
        go_wp2_with fail
        refine wp_region_past (by kernel_rfl) (by kernel_rfl) ?_
        repeat (go_big_quiet_step (with_reducible exact rfl))
        go_big_quiet_step ((go_at_call 63; exact past_call ((C1.out _).mono fun _ _ h => ⟨h.1, by rw [← h.2]; exact Below.refl _ _⟩)))
        repeat (go_big_quiet_step (with_reducible exact rfl))
        go_big_quiet_step ((go_at_call 58; exact past_call (C2.out _)))
        repeat (go_big_quiet_step (with_reducible exact rfl))
        refine wpQuiet_nil ?_
        rintro _ ⟨⟨W8, hW8⟩, rfl⟩
        go_wp2
        go_roundw
        case rel => exact ⟨k + 1, by omega, by go_num, hb.trans hW8, HN.out⟩
        case measure => simp [intOf]; omega
    · obtain rfl : l = k := by omega
      have HE : Hid (stopsB M ys = inB (l : Int) 1 5) := by
        have e := HL.out
        subst e
        exact HK.out.end_
      go_wp2_with fail
      refine (l1In_any _ _ _ _).mono ?_
      rintro e w9 ⟨rfl, rfl⟩
      go_wp2
      go_ret
      exact ⟨ret_bool HE.out.symm, hb0.trans hb⟩

set_option maxRecDepth 100000 in
set_option maxHeartbeats 4000000 in
theorem l17Cost_any (M : Nat) (A : Option Addr) (n c : Nat) (xs : List ArcD) (B : Option Addr) (l cb : Nat) (ys : List Int) (w : World) (h8 : M ≤ 8) (hn : n ≤ 1048576) (hnx : xs.length = n) (hx : ArcsAt w A xs) (hin : ArcsIn M xs) (hl : l ≤ 5) (hly : ys.length = l) (hy : IntsAt w B ys) (hys : ∀ y ∈ ys, 0 ≤ y ∧ y < (M : Int)) :
    Calls Try.prog 47 #[.agg #[.int .i64 (M : Int), .slice A n c], .slice B l cb] w fun e w' => e = .returned (.int .i64 (sumI M xs ys)) ∧ Below w.heap.size w w' := by
  have HX := Lib.hid hnx
  have HIN := Lib.hid hin
  have HL := Lib.hid hly
  have HYS := Lib.hid hys
  clear hnx hly hin hys
  have hb0 : Past w (w.alloc (.cells #[.int .i64 (M : Int), .slice A n c] 30)) := (Past.refl _).alloc _
  go_enter Try.func47, Try.ntmps47
  go_wp2
  go_loopw [5, 6] (fun u i wr => ∃ (k : Nat) (S : Int), k ≤ l ∧ u = .int .i64 S ∧ i = .int .i64 k ∧ legsTo M xs ys k = S ∧ Past (w.alloc (.cells #[.int .i64 (M : Int), .slice A n c] 30)) wr ∧ NearTo_ M xs ys k) (fun _ i _ => l - (intOf i).toNat)
  case atStart => exact ⟨0, 0, by omega, rfl, rfl, rfl, Past.refl _, fun j h => absurd h (by omega)⟩
  case round =>
    obtain ⟨k, S, hk, rfl, rfl, hS, hb, hok⟩ := hrel
    have HK := Lib.hid hok
    have hSb := legs_bd HIN.out HYS.out k (by rw [HL.out]; exact hk)
    rw [hS] at hSb
    have HSS := Lib.hid hS
    clear hok hS
    have hz := hb.lt
    have b0 := cell_in (p := ⟨w.heap.size, 0, none⟩) (v := .int .i64 (M : Int)) hb (by go_simp)
    have b1 := cell_in (p := ⟨w.heap.size, 1, none⟩) (v := .slice A n c) hb (by go_simp)
    have hyr := (hy.below hb0).below hb
    have hxr := (hx.below hb0).below hb
    by_cases hkl : k < l
    · obtain ⟨y, ha⟩ : ∃ a, ys[k]? = some a := ⟨_, List.getElem?_eq_getElem (by have := HL.out; omega)⟩
      obtain ⟨q, hq⟩ : ∃ q, q = (k + 1) % l := ⟨_, rfl⟩
      have hql : q < l := by rw [hq]; exact Nat.mod_lt _ (by omega)
      obtain ⟨t, hat⟩ : ∃ a, ys[q]? = some a := ⟨_, List.getElem?_eq_getElem (by have := HL.out; omega)⟩
      obtain ⟨g, o, rfl, c0⟩ := hyr k _ ha
      obtain ⟨g', o', eg, d0⟩ := hyr q _ hat
      injection eg with eg
      injection eg with eg1 eg2
      subst eg1 eg2
      have hyb := HYS.out y (List.mem_of_getElem? ha)
      have htb := HYS.out t (List.mem_of_getElem? hat)
      have hleg : Hid (legI M xs ys k = at_ (nearL M xs y) t) := by
        rw [Hid, legI, stopAt_of ha, HL.out, ← hq, stopAt_of hat]
      have hlb := leg_bd HIN.out HYS.out (k := k) (by rw [HL.out]; exact hkl)
      obtain ⟨z, hz'⟩ : ∃ z, (nearL M xs y)[t.toNat]? = some z := ⟨_, List.getElem?_eq_getElem (by rw [nearL_length]; omega)⟩
      have hzl : Hid (legI M xs ys k = z) := by rw [Hid, hleg.out, at_, List.getD_eq_getElem?_getD, hz']; rfl
      rw [hzl.out] at hlb
      have HZ := Lib.hid hz'
      have i0 : (0 : Int) ≤ (k : Int) := by omega
      have i1 : (k : Int) < (l : Int) := by omega
      have e1 : IntKind.i64.wrap ((k : Int) + 1) = (k : Int) + 1 := IntWalk.i64_in _ (by omega)
      have e2 : Int.tmod ((k : Int) + 1) (l : Int) = (q : Int) := by rw [hq, Int.tmod_eq_emod_of_nonneg (by omega)]; norm_cast
      have e4 : IntKind.i64.wrap (q : Int) = (q : Int) := IntWalk.i64_in _ (by omega)
      have e3 : ¬ ((l : Int) = 0) := by omega
      have e5 : ((l : Int) == 0) = false := by simpa using e3
      have e6 : ¬ l = 0 := by omega
      have q0 : (0 : Int) ≤ (q : Int) := by omega
      have q1 : (q : Int) < (l : Int) := by omega
      have t0 := htb.1
      have t1 := htb.2
      have hwr : IntKind.i64.wrap (S + z) = S + z := IntWalk.i64_in _ (by omega)
      have HQ := Lib.hid hq
      clear ha hat hz' hq
      go_wp2_with fail
      go_region_with (refine (l3All_any M y A n c xs _ h8 HX.out hn hxr.drew HIN.out hyb).mono ?_; rintro e w4 ⟨v4, rfl, hv4, hb4⟩; obtain ⟨Y, cy, rfl, hy4, _⟩ := hv4.form; rw [nearL_length]; obtain ⟨gy, oy, rfl, cT⟩ := hy4 _ _ HZ.out; have b0 := cell_in hb4 b0; have b1 := cell_in hb4 b1; have c0 := cell_in hb4 c0; have d0 := cell_in hb4 d0)
      all_goals have hb5 := hb.trans ((Past.refl wr).drew.trans hb4)
      all_goals by_cases hf : 99999 ≤ z
      all_goals first
        | (have hf2 : z < 99999 := by omega
           have HN := Lib.hid (HK.out.next (by rw [hzl.out]; exact hf2))
           have HS2 : Hid (legsTo M xs ys (k + 1) = S + z) := by rw [Hid, legsTo, HSS.out, hzl.out]
           go_wp2
           go_roundw
           case rel => exact ⟨k + 1, S + z, by omega, rfl, by go_num, HS2.out, hb5, HN.out⟩
           case measure => simp [intOf]; omega)
        | (have HF : Hid (sumI M xs ys = 99999) := sumI_far (k := k) (by rw [HL.out]; exact hkl) (by rw [hzl.out]; exact hf)
           go_wp2
           go_ret
           exact ⟨ret_int HF.out.symm, hb0.trans hb5⟩)
    · obtain rfl : l = k := by omega
      have HE : Hid (sumI M xs ys = S) := by
        have e := HL.out
        subst e
        rw [Hid, sumI_near HK.out, HSS.out]
      go_wp2
      go_ret
      exact ⟨ret_int HE.out.symm, hb0.trans hb⟩

set_option maxRecDepth 100000 in
set_option maxHeartbeats 2000000 in
theorem specTourCost_any (m : Int) (A : Option Addr) (n c : Nat) (xs : List ArcD) (B : Option Addr) (l cb : Nat) (ys : List Int) (w : World) (hn : n ≤ 1048576) (hnx : xs.length = n) (hx : ArcsAt w A xs) (hl : l ≤ 1048576) (hcb : l ≤ cb) (hly : ys.length = l) (hy : IntsAt w B ys) :
    Calls Try.prog 16 #[.agg #[.int .i64 m, .slice A n c], .slice B l cb] w fun e w' => e = .returned (.int .i64 (tcostI m xs ys)) ∧ Below w.heap.size w w' := by
  have HX := Lib.hid hnx
  have HL := Lib.hid hly
  clear hnx hly
  have hb0 : Past w (w.alloc (.cells #[.int .i64 m, .slice A n c] 30)) := (Past.refl _).alloc _
  go_enter Try.func16, Try.ntmps16
  go_wp2_with fail
  refine (l1Ok_any m A n c xs _ hn HX.out (hx.below hb0)).mono ?_
  rintro e w1 ⟨rfl, hb1⟩
  have b0 := cell_in (p := ⟨w.heap.size, 0, none⟩) (v := .int .i64 m) hb1 (by go_simp)
  have b1 := cell_in (p := ⟨w.heap.size, 1, none⟩) (v := .slice A n c) hb1 (by go_simp)
  have hx1 := (hx.below hb0).below hb1
  have hy1 := (hy.below hb0).below hb1
  have hp1 := hb0.trans hb1
  clear hb0 hb1
  cases hB : netB m xs with
  | false =>
    have HV := Lib.hid (tcostI_no (m := m) (xs := xs) (ys := ys) (by rw [tcB, hB]; rfl))
    clear hB
    go_wp2
    go_ret
    exact ⟨ret_int HV.out.symm, hp1⟩
  | true =>
  have HB := Lib.hid hB
  obtain ⟨M, rfl, h1, h8⟩ := here_nat hB
  clear hB
  go_wp2_with fail
  refine (l17Stops_any M A n c B l cb ys _ h1 h8 hl hcb HL.out hy1).mono ?_
  rintro e w2 ⟨rfl, hb2⟩
  have b0 := cell_in hb2 b0
  have b1 := cell_in hb2 b1
  have hx2 := hx1.below hb2
  have hy2 := hy1.below hb2
  have hp2 := hp1.trans hb2
  cases hS : stopsB M ys with
  | false =>
    have HV := Lib.hid (tcostI_no (m := (M : Int)) (xs := xs) (ys := ys) (by rw [tcB, hS]; simp))
    clear hS
    go_wp2
    go_ret
    exact ⟨ret_int HV.out.symm, hp2⟩
  | true =>
  have h5 := ((stopsB_iff _ _).1 hS).2.2
  rw [HL.out] at h5
  have hin := stops_in hS
  have HV : Hid (tcostI M xs ys = sumI M xs ys) := by rw [Hid, tcostI, tcB, HB.out, hS]; simp
  clear hS
  go_wp2_with fail
  refine (l17Cost_any M A n c xs B l cb ys _ h8 hn HX.out hx2 (arcsIn_net HB.out) h5 HL.out hy2 hin).mono ?_
  rintro e w3 ⟨rfl, hb3⟩
  go_wp2
  go_ret
  exact ⟨ret_int HV.out.symm, hp2.trans hb3⟩

/-- .. at a list in memory of the call's own. -/
theorem specTourCost_ex (m : Int) (A : Option Addr) (n c : Nat) (xs : List ArcD) (B : Option Addr) (l _cb : Nat) (ys : List Int) (w : World) (hn : n ≤ 1048576) (hnx : xs.length = n) (hx : ArcsAt w A xs) (hl : l ≤ 1048576) (hly : ys.length = l) (hy : IntsAt w B ys) :
    Calls Try.prog 16 #[.agg #[.int .i64 m, .slice A n c], .slice B l l] w fun e w' => e = .returned (.int .i64 (tcostI m xs ys)) ∧ Below w.heap.size w w' :=
  specTourCost_any m A n c xs B l l ys w hn hnx hx hl (Nat.le_refl _) hly hy

end Go.Proofs.Ytaojognjkiifmac
