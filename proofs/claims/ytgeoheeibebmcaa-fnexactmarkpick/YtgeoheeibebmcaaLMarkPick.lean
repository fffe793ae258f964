/-
  FnExactMarkPick answers true at every input: impl.MarkPick answers as spec.MarkPick, leaves its arguments alone and owns its answer. No condition.
-/
import Derived.Deep.RegionWith
import Derived.Test.YtgeoheeibebmcaaInL
import Derived.Test.YtgeoheeibebmcaaPPick
import Derived.Test.YtgeoheeibebmcaaMNear
import Derived.Test.YtgeoheeibebmcaaRInS
import Derived.Maps.AppendAt
import Derived.Test.YtgeoheeibebmcaaNAll
import Derived.Test.YtgeoheeibebmcaaNRepI
import Derived.Test.YtgeoheeibebmcaaOwnL
import Derived.Test.YtgeoheeibebmcaaSame
import Derived.Test.YtgeoheeibebmcaaMark
import Derived.Test.YtgeoheeibebmcaaOpen
import Derived.Test.YtgeoheeibebmcaaSameI
import Derived.Test.YtgeoheeibebmcaaMarkI
import Derived.Test.YtgeoheeibebmcaaResI
import Derived.Test.YtgeoheeibebmcaaOpenW
import Derived.Test.YtgeoheeibebmcaaMarkB
namespace Go.Proofs.Ytgeoheeibebmcaa
open Go.RowKit

set_option maxRecDepth 100000 in
set_option maxHeartbeats 4000000 in
theorem l12Way_any (M : Nat) (A : Option Addr) (n c : Nat) (xs : List ArcD) (B : Option Addr) (l cb : Nat) (ks : List Int) (v : Int) (w : World) (h8 : M ≤ 8) (h1 : 1 ≤ M) (hn : n ≤ 16) (hnx : xs.length = n) (hx : ArcsAt w A xs) (hB : netB (M : Int) xs = true) (hl : l ≤ 8) (hlk : ks.length = l) (hk : IntsAt w B ks) (hin : ∀ y ∈ ks, 0 ≤ y ∧ y < (M : Int)) (hv : 0 ≤ v ∧ v < M) :
    Calls Try.prog 72 #[.agg #[.int .i64 (M : Int), .slice A n c], .slice B l cb, .int .i64 v] w fun e w' => e = .returned (.int .i64 (nearestI M xs ks v)) ∧ Below w.heap.size w w' := by
  have HX := Lib.hid hnx
  have HB := Lib.hid hB
  have HIN1 : Hid (∀ y ∈ seeds ks, 0 ≤ y ∧ y < (M : Int)) := seeds_in h1 hin
  clear hnx hB
  obtain ⟨W0, hW0⟩ : ∃ W0, W0 = w.alloc (.cells #[.int .i64 (M : Int), .slice A n c] 30) := ⟨_, rfl⟩
  have hpW : Past w W0 := by rw [hW0]; exact (Past.refl _).alloc _
  have hs0 : W0.heap.size = w.heap.size + 1 := by rw [hW0]; simp
  have b0 : W0.cell? ⟨w.heap.size, 0, none⟩ = some (.int .i64 (M : Int)) := by rw [hW0]; go_simp
  have b1 : W0.cell? ⟨w.heap.size, 1, none⟩ = some (.slice A n c) := by rw [hW0]; go_simp
  have HW := Lib.hid hW0
  clear hW0
  by_cases hl0 : l = 0
  · subst hl0
    have hks : ks = [] := List.eq_nil_of_length_eq_zero hlk
    obtain ⟨ks1, hks1⟩ : ∃ ks1, ks1 = seeds ks := ⟨_, rfl⟩
    have hk0 : ks1 = [0] := by rw [hks1, hks]; rfl
    obtain ⟨W1, hW1⟩ : ∃ W1, W1 = W0.alloc (.cells #[.int .i64 0] 3) := ⟨_, rfl⟩
    have hp01 : Past W0 W1 := by rw [hW1]; exact (Past.refl _).alloc _
    have hk1 : IntsAt W1 (some ⟨w.heap.size + 1, 0, none⟩) ks1 := fun k y hk => by
      rw [hk0] at hk
      cases k with
      | zero => simp at hk; subst hk; exact ⟨_, _, rfl, by rw [hW1, ← hs0]; go_simp⟩
      | succ k => simp at hk
    have HL1 : Hid (ks1.length = 1) := by rw [Hid, hk0]; rfl
    have HSD : Hid (seeds ks = ks1) := hks1.symm
    rw [HSD.out] at HIN1
    have B0 := Lib.hid (cell_in hp01 b0)
    have B1 := Lib.hid (cell_in hp01 b1)
    have hp1 := hpW.trans hp01
    have hx1 := hx.below hp1
    have HW1 := Lib.hid hW1
    clear hks hks1 hk0 hW1 hp01 hk hlk hin b0 b1
    go_enter Try.func72, Try.ntmps72
    go_wp2
    rw [← HW.out, ← HW1.out]
    clear HW HW1
    go_loopw [7, 8] (fun b i wr => ∃ k : Nat, k ≤ 1 ∧ i = .int .i64 k ∧ b = .int .i64 (wayTo M xs ks1 v k) ∧ Past W1 wr) (fun _ i _ => 1 - (intOf i).toNat)
    case atStart => exact ⟨0, by omega, rfl, rfl, Past.refl _⟩
    case round =>
      obtain ⟨k, hk, rfl, rfl, hb⟩ := hrel
      have b0 := cell_in hb B0.out
      have b1 := cell_in hb B1.out
      by_cases hlt : k < 1
      · obtain ⟨y, ha⟩ : ∃ a, ks1[k]? = some a := ⟨_, List.getElem?_eq_getElem (by have := HL1.out; omega)⟩
        obtain ⟨g, o, eg, c0⟩ := (hk1.below hb) k _ ha
        injection eg with eg
        injection eg with eg1 eg2
        subst eg1 eg2
        rw [Nat.zero_add] at c0
        have hyb := HIN1.out y (List.mem_of_getElem? ha)
        have HY : Hid (at_ ks1 (k : Int) = y) := by rw [Hid, at_, Int.toNat_natCast, List.getD_eq_getElem?_getD, ha]; rfl
        have i0 : (0 : Int) ≤ (k : Int) := by omega
        have i1 : (k : Int) < 1 := by omega
        obtain ⟨z, hzz⟩ : ∃ z, z = at_ (nearL M xs y) v := ⟨_, rfl⟩
        have HG : Hid ((nearL M xs y)[v.toNat]? = some z) := by rw [Hid, hzz]; exact getElem_at' (nearL M xs y) v hv.1 (by rw [nearL_length]; exact hv.2)
        obtain ⟨C, hC⟩ : ∃ C, C = wayTo M xs ks1 v k := ⟨_, rfl⟩
        have HM : Hid (wayTo M xs ks1 v (k + 1) = if z < C then z else C) := by rw [Hid, wayTo, HY.out, ← hzz, ← hC]
        have hxr := hx1.below hb
        have v0 := hv.1
        have v1 := hv.2
        rw [← hC]
        clear hzz hC ha
        by_cases hzc : z < C
        · have HM2 : Hid (wayTo M xs ks1 v (k + 1) = z) := by rw [Hid, HM.out, if_pos hzc]
          go_wp2_with fail
          go_region_with (refine (l3All_any M y A n c xs _ h8 HX.out (by omega) hxr.drew (arcsIn_net HB.out) hyb).mono ?_; rintro e w4 ⟨v4, rfl, hv4, hb4⟩; obtain ⟨D, cd, rfl, hd4, _⟩ := hv4.form; rw [nearL_length]; obtain ⟨g', o', rfl, d0⟩ := hd4 v.toNat z HG.out; have hbj : Past W1 w4 := hb.drew.trans hb4; clear hv4 hd4 hb4)
          all_goals go_wp2
          all_goals go_roundw
          all_goals first | exact ⟨k + 1, by omega, by go_num, by rw [HM2.out], hbj⟩ | (simp [intOf]; omega)
        · have HM2 : Hid (wayTo M xs ks1 v (k + 1) = C) := by rw [Hid, HM.out, if_neg hzc]
          go_wp2_with fail
          go_region_with (refine (l3All_any M y A n c xs _ h8 HX.out (by omega) hxr.drew (arcsIn_net HB.out) hyb).mono ?_; rintro e w4 ⟨v4, rfl, hv4, hb4⟩; obtain ⟨D, cd, rfl, hd4, _⟩ := hv4.form; rw [nearL_length]; obtain ⟨g', o', rfl, d0⟩ := hd4 v.toNat z HG.out; have hbj : Past W1 w4 := hb.drew.trans hb4; clear hv4 hd4 hb4)
          all_goals go_wp2
          all_goals go_roundw
          all_goals first | exact ⟨k + 1, by omega, by go_num, by rw [HM2.out], hbj⟩ | (simp [intOf]; omega)
      · obtain rfl : k = 1 := by omega
        obtain ⟨C, hC⟩ : ∃ C, C = wayTo M xs ks1 v 1 := ⟨_, rfl⟩
        have HR : Hid (nearestI M xs ks v = capI C) := by rw [Hid, nearestI, HSD.out, HL1.out, hC]
        rw [← hC]
        clear hC
        by_cases hc : C = 99999
        · subst hc
          go_wp2
          go_ret
          exact ⟨ret_int (by rw [HR.out]; rfl), hp1.trans hb⟩
        · go_wp2
          go_ret
          exact ⟨ret_int (by rw [HR.out, capI, if_neg hc]), hp1.trans hb⟩
  · have hks : seeds ks = ks := by unfold seeds; rw [if_neg (fun e => hl0 (by rw [← hlk, e]; rfl))]
    obtain ⟨ks1, hks1⟩ : ∃ ks1, ks1 = ks := ⟨_, rfl⟩
    obtain ⟨L1, hL1⟩ : ∃ L1, L1 = l := ⟨_, rfl⟩
    obtain ⟨W1, hW1⟩ : ∃ W1, W1 = W0 := ⟨_, rfl⟩
    have HSD : Hid (seeds ks = ks1) := by rw [Hid, hks, hks1]
    have HL1 : Hid (ks1.length = L1) := by rw [Hid, hks1, hL1, hlk]
    rw [HSD.out] at HIN1
    subst hL1 hW1
    have hk1 : IntsAt W1 B ks1 := by rw [hks1]; exact hk.below hpW
    have B0 := Lib.hid b0
    have B1 := Lib.hid b1
    have hp1 := hpW
    have hx1 := hx.below hp1
    clear hks hks1 hk hlk hin b0 b1
    have hl0' : ¬ (L1 : Int) = 0 := by omega
    have hl0q : ¬ L1 = 0 := hl0
    have hl0b : ((L1 : Int) == 0) = false := by simpa using hl0q
    go_enter Try.func72, Try.ntmps72
    go_wp2
    rw [← HW.out]
    clear HW
    go_loopw [7, 8] (fun b i wr => ∃ k : Nat, k ≤ L1 ∧ i = .int .i64 k ∧ b = .int .i64 (wayTo M xs ks1 v k) ∧ Past W1 wr) (fun _ i _ => L1 - (intOf i).toNat)
    case atStart => exact ⟨0, by omega, rfl, rfl, Past.refl _⟩
    case round =>
      obtain ⟨k, hk, rfl, rfl, hb⟩ := hrel
      have b0 := cell_in hb B0.out
      have b1 := cell_in hb B1.out
      by_cases hlt : k < L1
      · obtain ⟨y, ha⟩ : ∃ a, ks1[k]? = some a := ⟨_, List.getElem?_eq_getElem (by have := HL1.out; omega)⟩
        obtain ⟨g, o, rfl, c0⟩ := (hk1.below hb) k _ ha
        have hyb := HIN1.out y (List.mem_of_getElem? ha)
        have HY : Hid (at_ ks1 (k : Int) = y) := by rw [Hid, at_, Int.toNat_natCast, List.getD_eq_getElem?_getD, ha]; rfl
        have i0 : (0 : Int) ≤ (k : Int) := by omega
        have i1 : (k : Int) < (L1 : Int) := by omega
        obtain ⟨z, hzz⟩ : ∃ z, z = at_ (nearL M xs y) v := ⟨_, rfl⟩
        have HG : Hid ((nearL M xs y)[v.toNat]? = some z) := by rw [Hid, hzz]; exact getElem_at' (nearL M xs y) v hv.1 (by rw [nearL_length]; exact hv.2)
        obtain ⟨C, hC⟩ : ∃ C, C = wayTo M xs ks1 v k := ⟨_, rfl⟩
        have HM : Hid (wayTo M xs ks1 v (k + 1) = if z < C then z else C) := by rw [Hid, wayTo, HY.out, ← hzz, ← hC]
        have hxr := hx1.below hb
        have v0 := hv.1
        have v1 := hv.2
        rw [← hC]
        clear hzz hC ha
        by_cases hzc : z < C
        · have HM2 : Hid (wayTo M xs ks1 v (k + 1) = z) := by rw [Hid, HM.out, if_pos hzc]
          go_wp2_with fail
          go_region_with (refine (l3All_any M y A n c xs _ h8 HX.out (by omega) hxr.drew (arcsIn_net HB.out) hyb).mono ?_; rintro e w4 ⟨v4, rfl, hv4, hb4⟩; obtain ⟨D, cd, rfl, hd4, _⟩ := hv4.form; rw [nearL_length]; obtain ⟨g', o', rfl, d0⟩ := hd4 v.toNat z HG.out; have hbj : Past W1 w4 := hb.drew.trans hb4; clear hv4 hd4 hb4)
          all_goals go_wp2
          all_goals go_roundw
          all_goals first | exact ⟨k + 1, by omega, by go_num, by rw [HM2.out], hbj⟩ | (simp [intOf]; omega)
        · have HM2 : Hid (wayTo M xs ks1 v (k + 1) = C) := by rw [Hid, HM.out, if_neg hzc]
          go_wp2_with fail
          go_region_with (refine (l3All_any M y A n c xs _ h8 HX.out (by omega) hxr.drew (arcsIn_net HB.out) hyb).mono ?_; rintro e w4 ⟨v4, rfl, hv4, hb4⟩; obtain ⟨D, cd, rfl, hd4, _⟩ := hv4.form; rw [nearL_length]; obtain ⟨g', o', rfl, d0⟩ := hd4 v.toNat z HG.out; have hbj : Past W1 w4 := hb.drew.trans hb4; clear hv4 hd4 hb4)
          all_goals go_wp2
          all_goals go_roundw
          all_goals first | exact ⟨k + 1, by omega, by go_num, by rw [HM2.out], hbj⟩ | (simp [intOf]; omega)
      · obtain rfl : k = L1 := by omega
        obtain ⟨C, hC⟩ : ∃ C, C = wayTo M xs ks1 v k := ⟨_, rfl⟩
        have HR : Hid (nearestI M xs ks v = capI C) := by rw [Hid, nearestI, HSD.out, HL1.out, hC]
        rw [← hC]
        clear hC
        by_cases hc : C = 99999
        · subst hc
          go_wp2
          go_ret
          exact ⟨ret_int (by rw [HR.out]; rfl), hp1.trans hb⟩
        · go_wp2
          go_ret
          exact ⟨ret_int (by rw [HR.out, capI, if_neg hc]), hp1.trans hb⟩

end Go.Proofs.Ytgeoheeibebmcaa

namespace Go.Proofs.Ytgeoheeibebmcaa
open Go.RowKit

theorem pickTo_yes {M : Nat} {xs : List ArcD} {ks : List Int} {k : Nat} (h1 : inL ks (k : Int) = false) (h2 : (pickTo M xs ks k).2 < nearestI M xs ks (k : Int)) : pickTo M xs ks (k + 1) = ((k : Int), nearestI M xs ks (k : Int)) := by rw [pickTo, if_pos ⟨h1, h2⟩]
theorem pickTo_no {M : Nat} {xs : List ArcD} {ks : List Int} {k : Nat} (h : inL ks (k : Int) = true ∨ ¬ (pickTo M xs ks k).2 < nearestI M xs ks (k : Int)) : pickTo M xs ks (k + 1) = pickTo M xs ks k := by
  rw [pickTo, if_neg]
  rintro ⟨h1, h2⟩
  rcases h with h | h
  · rw [h] at h1; cases h1
  · exact h h2

set_option maxRecDepth 100000 in
set_option maxHeartbeats 4000000 in
theorem specMarkPick_any (m : Int) (A : Option Addr) (n c : Nat) (xs : List ArcD) (many : Int) (w : World) (hn : n ≤ 1048576) (hnx : xs.length = n) (hx : ArcsAt w A xs) :
    Calls Try.prog 24 #[.agg #[.int .i64 m, .slice A n c], .int .i64 many] w (Gives w (choseI m xs many)) := by
  have HX := Lib.hid hnx
  clear hnx
  obtain ⟨i0, hi, hz0, hz1, hz2⟩ := info_parts infoInt
  obtain ⟨W0, hW0⟩ : ∃ W0, W0 = w.alloc (.cells #[.int .i64 m, .slice A n c] 30) := ⟨_, rfl⟩
  have hpW : Past w W0 := by rw [hW0]; exact (Past.refl _).alloc _
  have hsz : W0.heap.size = w.heap.size + 1 := by rw [hW0]; simp
  have b0 : W0.cell? ⟨w.heap.size, 0, none⟩ = some (.int .i64 m) := by rw [hW0]; go_simp
  have b1 : W0.cell? ⟨w.heap.size, 1, none⟩ = some (.slice A n c) := by rw [hW0]; go_simp
  have HW := Lib.hid hW0
  have B0 := Lib.hid b0
  have B1 := Lib.hid b1
  clear hW0
  go_enter Try.func24, Try.ntmps24
  go_wp2_with fail
  rw [← HW.out]
  clear HW
  have hr0 := Res.empty_new W0
  obtain ⟨W1, hW1⟩ : ∃ W1, W1 = W0.alloc (.cells #[] 3) := ⟨_, rfl⟩
  have hpW1 : Past W0 W1 := by rw [hW1]; exact (Past.refl _).alloc _
  rw [← hW1] at hr0 ⊢
  rw [hsz] at hr0
  clear hW1
  refine (l1Ok_any m A n c xs _ hn HX.out (hx.below (hpW.trans hpW1))).mono ?_
  rintro e w1 ⟨rfl, hb1⟩
  have b0 := cell_in hb1 (cell_in hpW1 b0)
  have b1 := cell_in hb1 (cell_in hpW1 b1)
  have hr0 := hr0.below hb1
  have hp1 := Past.trans hpW1 hb1
  clear hb1 hpW1
  cases hB : netB m xs with
  | false =>
    have HB := Lib.hid hB
    clear hB
    go_wp2
    go_ret
    exact ⟨_, rfl, by rw [choseI, HB.out]; exact Res.nil _ _, hpW.trans hp1⟩
  | true =>
    obtain ⟨M, rfl, h1, h8⟩ := here_nat hB
    have h16 := ((netB_iff _ _).1 hB).2.1
    rw [HX.out] at h16
    have HB := Lib.hid hB
    clear hB
    go_wp2_with fail
    refine (l1In_any _ _ _ _).mono ?_
    rintro e w2 ⟨rfl, rfl⟩
    cases hI : inB many 0 (M : Int) with
    | false =>
      have HI := Lib.hid hI
      clear hI
      go_wp2
      go_ret
      exact ⟨_, rfl, by rw [choseI, HB.out, HI.out]; exact Res.nil _ _, hpW.trans hp1⟩
    | true =>
      have hmb := (inB_iff _ _ _).1 hI
      obtain ⟨Y, rfl⟩ : ∃ Y : Nat, many = (Y : Int) := ⟨many.toNat, by omega⟩
      have hYM : Y ≤ M := by omega
      have HRES : Hid (choseI (M : Int) xs (Y : Int) = pickL M xs Y) := by rw [Hid, choseI, HB.out, hI, if_pos (by rfl), Int.toNat_natCast, Int.toNat_natCast]
      clear hI b0 b1 hmb
      go_wp2
      go_loopw [5] (fun v wr => ∃ k : Nat, k ≤ Y ∧ Res wr (w.heap.size + 1) v (pickL M xs k) ∧ Past W0 wr) (fun v _ => Y - lenOf v)
      case atStart => exact ⟨0, by omega, hr0, hp1⟩
      case round =>
        obtain ⟨k, hk, hv, hb⟩ := hrel
        have HV := Lib.hid hv
        obtain ⟨A2, c2, e2, hi2, _⟩ := hv.form
        rw [pickL_len] at e2
        subst e2
        obtain ⟨ks, hks⟩ : ∃ ks, ks = pickL M xs k := ⟨_, rfl⟩
        have hkl : ks.length = k := by rw [hks, pickL_len]
        have hkin : ∀ y ∈ ks, 0 ≤ y ∧ y < (M : Int) := by rw [hks]; exact pickL_in h1 (arcsIn_net HB.out) k (by omega)
        rw [← hks] at hi2
        have HKS := Lib.hid hks
        have HKL := Lib.hid hkl
        have HKI := Lib.hid hkin
        clear hv hks hkl hkin
        by_cases hlt : k < Y
        · have y0 : (k : Int) < (Y : Int) := by omega
          go_wp2
          go_loopw [6, 7, 8] (fun bb nn i wq => ∃ j : Nat, j ≤ M ∧ i = .int .i64 j ∧ bb = .int .i64 (pickTo M xs ks j).2 ∧ nn = .int .i64 (pickTo M xs ks j).1 ∧ Past wr wq) (fun _ _ i _ => M - (intOf i).toNat)
          case atStart => exact ⟨0, by omega, rfl, rfl, rfl, Past.refl _⟩
          case round =>
            obtain ⟨j, hj, rfl, rfl, rfl, hbq⟩ := hrel
            have hbz := hb.trans hbq
            have b0 := cell_in hbz B0.out
            have b1 := cell_in hbz B1.out
            by_cases hjl : j < M
            · have j0 : (0 : Int) ≤ (j : Int) := by omega
              have j1 : (j : Int) < (M : Int) := by omega
              go_wp2_with fail
              refine (l12Way_any M A n c xs A2 k c2 ks (j : Int) _ h8 h1 h16 HX.out ((hx.below hpW).below hbz) HB.out (by omega) HKL.out (hi2.below hbq) HKI.out ⟨j0, j1⟩).mono ?_
              rintro e w4 ⟨rfl, hb4⟩
              have hbq := hbq.trans hb4
              have b0 := cell_in hb4 b0
              obtain ⟨z, hz⟩ : ∃ z, z = nearestI M xs ks (j : Int) := ⟨_, rfl⟩
              obtain ⟨X, hX⟩ : ∃ X, X = (pickTo M xs ks j).1 := ⟨_, rfl⟩
              obtain ⟨C, hC⟩ : ∃ C, C = (pickTo M xs ks j).2 := ⟨_, rfl⟩
              have HYES : Hid (inL ks (j : Int) = false → C < z → pickTo M xs ks (j + 1) = ((j : Int), z)) := fun q1 q2 => by rw [hz]; exact pickTo_yes q1 (by rw [← hC, ← hz]; exact q2)
              have HNO : Hid ((inL ks (j : Int) = true ∨ ¬ C < z) → pickTo M xs ks (j + 1) = (X, C)) := fun q => by rw [pickTo_no (by rw [← hC, ← hz]; exact q), hX, hC]
              rw [← hz, ← hX, ← hC]
              clear hz hX hC hb4
              go_wp2_with fail
              refine (l12In_any A2 k c2 ks (j : Int) _ (by omega) HKL.out (hi2.below hbq)).mono ?_
              rintro e w5 ⟨rfl, hb5⟩
              have hbq := hbq.trans hb5
              have b0 := cell_in hb5 b0
              clear hb5
              cases hin : inL ks (j : Int) with
              | true =>
                have HM := Lib.hid (HNO.out (.inl hin))
                clear hin
                go_wp2
                go_roundw
                case rel => exact ⟨j + 1, by omega, by go_num, by rw [HM.out], by rw [HM.out], hbq⟩
                case measure => simp [intOf]; omega
              | false =>
                by_cases hcz : C < z
                · have HM := Lib.hid (HYES.out hin hcz)
                  clear hin
                  go_wp2
                  go_roundw
                  case rel => exact ⟨j + 1, by omega, by go_num, by rw [HM.out], by rw [HM.out], hbq⟩
                  case measure => simp [intOf]; omega
                · have HM := Lib.hid (HNO.out (.inr (by omega)))
                  clear hin
                  go_wp2
                  go_roundw
                  case rel => exact ⟨j + 1, by omega, by go_num, by rw [HM.out], by rw [HM.out], hbq⟩
                  case measure => simp [intOf]; omega
            · obtain rfl : j = M := by omega
              have hv := HV.out.below hbq
              obtain ⟨X, hX⟩ : ∃ X, X = (pickTo j xs ks j).1 := ⟨_, rfl⟩
              have HN : Hid (pickL j xs (k + 1) = pickL j xs k ++ [X]) := by rw [Hid, pickL, hX, HKS.out]
              have hzs := hbz.size
              rw [hsz] at hzs
              unfold Res at hv
              rw [pickL_len] at hv
              rw [← hX]
              clear hX
              go_wp2_with (first | (at_builtin; refine wpList_append_own _ rfl _ _ 25 rfl (w.heap.size + 1) 3 i0 (.int .i64 0) 1 8 Try.underlying25 hi hz0 hz1 hz2 rfl (by decide) _ _ _ rfl (hv.alloc _) ⟨wr.heap.size, 0, none⟩ 1 1 [.int .i64 X] rfl rfl (cell_one_new _ _ _) (one_cell X) (by unfold maxLen; omega) (by omega) (by simp; omega) ?_; intro v' w6 hown' hgrow6 hnil6))
              go_roundw
              case rel => exact ⟨k + 1, by omega, Res.step hown' (by rw [pickL_len]) HN.out, Past.grown (hbz.alloc _) (hv.alloc _) hgrow6 (by omega)⟩
              case measure =>
                obtain ⟨gv, cv, hvf, _, _⟩ := World.ownsRow.form hown' (by omega)
                rw [hvf]
                simp [lenOf]
                omega
        · obtain rfl : k = Y := by omega
          have hv := HV.out
          go_wp2
          go_ret
          exact ⟨_, rfl, by rw [HRES.out]; exact hv.lower (by omega), hpW.trans hb⟩

end Go.Proofs.Ytgeoheeibebmcaa

namespace Go.Proofs.Ytgeoheeibebmcaa
open Go.RowKit

/-- What it costs from the nearest of the first k, while the first j nodes are of one more. -/
def wayRow (M : Nat) (xs : List ArcD) (ks : List Int) (k j : Nat) : List Int := (List.range M).map fun v => if v < j then wayTo M xs ks (v : Int) (k + 1) else wayTo M xs ks (v : Int) k
theorem wayRow_len (M : Nat) (xs : List ArcD) (ks : List Int) (k j : Nat) : (wayRow M xs ks k j).length = M := by simp [wayRow]
theorem wayRow_get {M : Nat} {xs : List ArcD} {ks : List Int} {k j v : Nat} (hv : v < M) : (wayRow M xs ks k j)[v]? = some (if v < j then wayTo M xs ks (v : Int) (k + 1) else wayTo M xs ks (v : Int) k) := by simp [wayRow, hv]
theorem wayRow_zero (M : Nat) (xs : List ArcD) (ks : List Int) : wayRow M xs ks 0 0 = List.replicate M 99999 := by
  apply List.ext_getElem?
  intro v
  by_cases hv : v < M
  · rw [wayRow_get hv]; simp [wayTo, hv]
  · rw [List.getElem?_eq_none (by rw [wayRow_len]; omega), List.getElem?_eq_none (by simp; omega)]
theorem wayRow_step {M : Nat} {xs : List ArcD} {ks : List Int} {k j : Nat} : (wayRow M xs ks k j).set j (wayTo M xs ks (j : Int) (k + 1)) = wayRow M xs ks k (j + 1) := by
  apply List.ext_getElem?
  intro v
  by_cases hv : v < M
  · rw [List.getElem?_set, wayRow_get hv, wayRow_get hv, wayRow_len]
    by_cases e : j = v
    · subst e; simp [hv]
    · rw [if_neg e]
      by_cases h : v < j
      · rw [if_pos h, if_pos (by omega)]
      · rw [if_neg h, if_neg (by omega)]
  · rw [List.getElem?_eq_none (by rw [List.length_set, wayRow_len]; omega), List.getElem?_eq_none (by rw [wayRow_len]; omega)]
theorem wayRow_next (M : Nat) (xs : List ArcD) (ks : List Int) (k : Nat) : wayRow M xs ks k M = wayRow M xs ks (k + 1) 0 := by
  apply List.ext_getElem?
  intro v
  by_cases hv : v < M
  · rw [wayRow_get hv, wayRow_get hv, if_pos hv, if_neg (by omega)]
  · rw [List.getElem?_eq_none (by rw [wayRow_len]; omega), List.getElem?_eq_none (by rw [wayRow_len]; omega)]

set_option maxRecDepth 100000 in
set_option maxHeartbeats 4000000 in
theorem farthest_any (M : Nat) (A : Option Addr) (n c : Nat) (xs : List ArcD) (P : Option Addr) (p cp : Nat) (ps : List Int) (B : Option Addr) (l cb : Nat) (ks : List Int) (w : World) (h8 : M ≤ 8) (h1 : 1 ≤ M) (hn : n ≤ 16) (hnx : xs.length = n) (hx : ArcsAt w A xs) (hB : netB (M : Int) xs = true) (hp : p ≤ 8) (hps : ps.length = p) (hpa : IntsAt w P ps) (hse : seeds ks = ps) (hl : l ≤ 8) (hlk : ks.length = l) (hk : IntsAt w B ks) (hin : ∀ y ∈ ks, 0 ≤ y ∧ y < (M : Int)) :
    Calls Try.prog 76 #[.agg #[.int .i64 (M : Int), .slice A n c], .slice P p cp, .slice B l cb] w fun e w' => e = .returned (.int .i64 (pickTo M xs ks M).1) ∧ Below w.heap.size w w' := by
  have HX := Lib.hid hnx
  have HB := Lib.hid hB
  have HPS := Lib.hid hps
  have HKL := Lib.hid hlk
  have HSE := Lib.hid hse
  have HIN1 : Hid (∀ y ∈ ps, 0 ≤ y ∧ y < (M : Int)) := by rw [← hse]; exact seeds_in h1 hin
  clear hnx hB hps hlk hse
  obtain ⟨W0, hW0⟩ : ∃ W0, W0 = w.alloc (.cells #[.int .i64 (M : Int), .slice A n c] 30) := ⟨_, rfl⟩
  have hpW : Past w W0 := by rw [hW0]; exact (Past.refl _).alloc _
  have hsz : W0.heap.size = w.heap.size + 1 := by rw [hW0]; simp
  have b0 : W0.cell? ⟨w.heap.size, 0, none⟩ = some (.int .i64 (M : Int)) := by rw [hW0]; go_simp
  have b1 : W0.cell? ⟨w.heap.size, 1, none⟩ = some (.slice A n c) := by rw [hW0]; go_simp
  have HW := Lib.hid hW0
  have B0 := Lib.hid b0
  have B1 := Lib.hid b1
  have b0A := fun (o : Obj) => cell_in ((Past.refl W0).alloc o) b0
  clear hW0
  have hW1s : (W0.alloc (.cells #[.int .i64 99999] 3)).heap.size = w.heap.size + 1 + 1 := by rw [World.size_alloc, hsz]
  have hc9 : (W0.alloc (.cells #[.int .i64 99999] 3)).cell? ⟨w.heap.size + 1, 0, none⟩ = some (.int .i64 99999) := by rw [← hsz]; go_simp
  go_enter Try.func76, Try.ntmps76
  go_wp2_with fail
  clear b0A
  rw [← HW.out]
  clear HW
  refine (repeatI_any (w.heap.size + 1) M 99999 _ (by omega) hc9).mono ?_
  rintro e w2 ⟨rfl, hrep, hb2⟩
  rw [hW1s] at hrep ⊢
  obtain ⟨W1, hW1⟩ : ∃ W1, W1 = W0.alloc (.cells #[.int .i64 99999] 3) := ⟨_, rfl⟩
  have hp01 : Past W0 W1 := by rw [hW1]; exact (Past.refl _).alloc _
  rw [← hW1] at hb2 hW1s
  have hrow0 := RowI.of_rep hrep
  rw [← wayRow_zero M xs ps] at hrow0
  have hb2 : Past W1 w2 := hb2
  clear hrep hc9 hW1
  go_wp2
  go_loopw [22] (fun i wr => ∃ k : Nat, k ≤ p ∧ i = .int .i64 k ∧ RowI wr (w.heap.size + 1 + 1) (wayRow M xs ps k 0) ∧ Past W1 wr) (fun i _ => p - (intOf i).toNat)
  case atStart => exact ⟨0, by omega, rfl, hrow0, hb2⟩
  case round =>
    obtain ⟨k, hkp, rfl, hrow, hb⟩ := hrel
    have hbw := (hpW.trans hp01).trans hb
    have b0 := cell_in (hp01.trans hb) B0.out
    have b1 := cell_in (hp01.trans hb) B1.out
    by_cases hlt : k < p
    · obtain ⟨y, ha⟩ : ∃ a, ps[k]? = some a := ⟨_, List.getElem?_eq_getElem (by have := HPS.out; omega)⟩
      obtain ⟨gy, oy, rfl, c0⟩ := (hpa.below hbw) k _ ha
      have hyb := HIN1.out y (List.mem_of_getElem? ha)
      have HY : Hid (at_ ps (k : Int) = y) := by rw [Hid, at_, Int.toNat_natCast, List.getD_eq_getElem?_getD, ha]; rfl
      have i0 : (0 : Int) ≤ (k : Int) := by omega
      have i1 : (k : Int) < (p : Int) := by omega
      have hH : hereB (M : Int) xs y = true := (hereB_iff _ _ _).2 ⟨HB.out, hyb⟩
      have hN1 : nearI (M : Int) xs y = nearL M xs y := by rw [nearI, if_pos hH, Int.toNat_natCast]
      have HN1 := Lib.hid hN1
      clear ha hH hN1
      go_wp2_with fail
      refine (implNearAll_any (M : Int) A n c xs y _ (by omega) HX.out (hx.below hbw)).mono ?_
      rintro e w4 ⟨v4, rfl, hv4, hb4⟩
      rw [HN1.out] at hv4
      obtain ⟨D, cd, rfl, hd4, ho4⟩ := hv4.form
      rw [nearL_length] at ho4 ⊢
      obtain ⟨d, hd⟩ : ∃ d, d = nearL M xs y := ⟨_, rfl⟩
      rw [← hd] at hd4
      have hdl : d.length = M := by rw [hd, nearL_length]
      have hgr := hrow.1.lt
      have hneD : blk D ≠ some (w.heap.size + 1 + 1) := ho4.ne_blk hgr
      have hrow4 := hrow.below hb4
      have hbb := hb.trans hb4
      have HDL := Lib.hid hdl
      have HST : Hid (∀ v : Nat, v < M → wayTo M xs ps (v : Int) (k + 1) = min (wayTo M xs ps (v : Int) k) (at_ d (v : Int))) := fun v hv => by
        rw [wayTo, HY.out, ← hd]
        split <;> omega
      clear hv4 ho4 hd hdl hrow hb4 c0
      go_wp2
      go_loopw [30] (fun i wr => ∃ j : Nat, j ≤ M ∧ i = .int .i64 j ∧ RowI wr (w.heap.size + 1 + 1) (wayRow M xs ps k j) ∧ w4.grownBy wr (some (w.heap.size + 1 + 1)) ∧ Past W1 wr) (fun i _ => M - (intOf i).toNat)
      case atStart => exact ⟨0, by omega, rfl, hrow4, grown_refl _ _, hbb⟩
      case round =>
        obtain ⟨j, hj, rfl, hrow, hg, hb⟩ := hrel
        by_cases hlj : j < M
        · obtain ⟨x, hx0⟩ : ∃ x, x = at_ d (j : Int) := ⟨_, rfl⟩
          obtain ⟨gd, od, rfl, d0⟩ := (hd4.grown hg (fun b e => by injection e with e; rw [← e]; exact hneD)) j x (by rw [hx0]; exact getElem_at d j (by rw [HDL.out]; exact hlj))
          obtain ⟨z, hz⟩ : ∃ z, z = wayTo M xs ps (j : Int) k := ⟨_, rfl⟩
          obtain ⟨gr, og, er, c0⟩ := hrow.2 j z (by rw [wayRow_get hlj, if_neg (by omega), hz])
          injection er with er
          injection er with er1 er2
          subst er1 er2
          rw [Nat.zero_add] at c0
          have z0 := hrow.1.frozen j
          have HS := HST.out j hlj
          rw [← hx0, ← hz] at HS
          have hset := hrow.set j (wayTo M xs ps (j : Int) (k + 1)) (by rw [wayRow_len]; exact hlj)
          rw [wayRow_step, HS] at hset
          have HSET := Lib.hid hset
          have HG2 := Lib.hid (grown_set hg j (.int .i64 (min z x)))
          have HB2 := Lib.hid (show Past W1 (wr.setCell ⟨w.heap.size + 1 + 1, j, none⟩ (.int .i64 (min z x))) from Below.setCell hb (by simp only; omega) _)
          have j0 : (0 : Int) ≤ (j : Int) := by omega
          have j1 : (j : Int) < (M : Int) := by omega
          clear hx0 hz hset HS
          go_wp2
          go_roundw
          case rel => exact ⟨j + 1, by omega, by go_num, HSET.out, HG2.out, HB2.out⟩
          case measure => simp [intOf]; omega
        · obtain rfl : j = M := by omega
          go_wp2
          go_roundw
          case rel => exact ⟨k + 1, by omega, by go_num, by rw [← wayRow_next]; exact hrow, hb⟩
          case measure => simp [intOf]; omega
    · obtain rfl : k = p := by omega
      have hkq := hk.below hbw
      have HNE : Hid (∀ v : Nat, nearestI M xs ks (v : Int) = capI (wayTo M xs ps (v : Int) k)) := fun v => by rw [nearestI, HSE.out, HPS.out]
      have HROW := Lib.hid hrow
      clear hrow
      go_wp2
      go_loopw [12, 13, 48] (fun nn bb i wq => ∃ j : Nat, j ≤ M ∧ i = .int .i64 j ∧ bb = .int .i64 (pickTo M xs ks j).2 ∧ nn = .int .i64 (pickTo M xs ks j).1 ∧ Past wr wq) (fun _ _ i _ => M - (intOf i).toNat)
      case atStart => exact ⟨0, by omega, rfl, rfl, rfl, Past.refl _⟩
      case round =>
        obtain ⟨j, hj, rfl, rfl, rfl, hbq⟩ := hrel
        by_cases hjl : j < M
        · obtain ⟨x, hx0⟩ : ∃ x, x = wayTo M xs ps (j : Int) k := ⟨_, rfl⟩
          obtain ⟨gr, og, er, c0⟩ := (HROW.out.below hbq).2 j x (by rw [wayRow_get hjl, if_neg (by omega), hx0])
          injection er with er
          injection er with er1 er2
          subst er1 er2
          rw [Nat.zero_add] at c0
          obtain ⟨X, hX⟩ : ∃ X, X = (pickTo M xs ks j).1 := ⟨_, rfl⟩
          obtain ⟨C, hC⟩ : ∃ C, C = (pickTo M xs ks j).2 := ⟨_, rfl⟩
          have HYES : Hid (inL ks (j : Int) = false → C < capI x → pickTo M xs ks (j + 1) = ((j : Int), capI x)) := fun q1 q2 => by rw [hx0, ← HNE.out]; exact pickTo_yes q1 (by rw [← hC, HNE.out, ← hx0]; exact q2)
          have HNO : Hid ((inL ks (j : Int) = true ∨ ¬ C < capI x) → pickTo M xs ks (j + 1) = (X, C)) := fun q => by rw [pickTo_no (by rw [← hC, HNE.out, ← hx0]; exact q), hX, hC]
          have j0 : (0 : Int) ≤ (j : Int) := by omega
          have j1 : (j : Int) < (M : Int) := by omega
          rw [← hX, ← hC]
          clear hx0 hX hC
          by_cases hx9 : x = 99999
          · subst hx9
            have HCAP : Hid (capI 99999 = 0) := rfl
            by_cases hcz : C < (0 : Int)
            · go_wp2_with fail
              refine (contains_any B l cb ks (j : Int) _ (by omega) HKL.out (hkq.below hbq)).mono ?_
              rintro e w7 ⟨rfl, hb7⟩
              have hbq7 := hbq.trans hb7
              cases hin : inL ks (j : Int) with
              | true =>
                have HM := Lib.hid (HNO.out (.inl hin))
                clear hin
                go_wp2
                go_roundw
                case rel => exact ⟨j + 1, by omega, by go_num, by rw [HM.out], by rw [HM.out], hbq7⟩
                case measure => simp [intOf]; omega
              | false =>
                have HM := Lib.hid (HYES.out hin (by rw [HCAP.out]; exact hcz))
                clear hin
                go_wp2
                go_roundw
                case rel => exact ⟨j + 1, by omega, by go_num, by rw [HM.out, HCAP.out], by rw [HM.out], hbq7⟩
                case measure => simp [intOf]; omega
            · have HM := Lib.hid (HNO.out (.inr (by rw [HCAP.out]; exact hcz)))
              go_wp2
              go_roundw
              case rel => exact ⟨j + 1, by omega, by go_num, by rw [HM.out], by rw [HM.out], hbq⟩
              case measure => simp [intOf]; omega
          · have HCAP : Hid (capI x = x) := by rw [Hid, capI, if_neg hx9]
            by_cases hcz : C < x
            · go_wp2_with fail
              refine (contains_any B l cb ks (j : Int) _ (by omega) HKL.out (hkq.below hbq)).mono ?_
              rintro e w7 ⟨rfl, hb7⟩
              have hbq7 := hbq.trans hb7
              cases hin : inL ks (j : Int) with
              | true =>
                have HM := Lib.hid (HNO.out (.inl hin))
                clear hin
                go_wp2
                go_roundw
                case rel => exact ⟨j + 1, by omega, by go_num, by rw [HM.out], by rw [HM.out], hbq7⟩
                case measure => simp [intOf]; omega
              | false =>
                have HM := Lib.hid (HYES.out hin (by rw [HCAP.out]; exact hcz))
                clear hin
                go_wp2
                go_roundw
                case rel => exact ⟨j + 1, by omega, by go_num, by rw [HM.out, HCAP.out], by rw [HM.out], hbq7⟩
                case measure => simp [intOf]; omega
            · have HM := Lib.hid (HNO.out (.inr (by rw [HCAP.out]; exact hcz)))
              go_wp2
              go_roundw
              case rel => exact ⟨j + 1, by omega, by go_num, by rw [HM.out], by rw [HM.out], hbq⟩
              case measure => simp [intOf]; omega
        · obtain rfl : j = M := by omega
          go_wp2
          go_ret
          exact ⟨rfl, hbw.trans hbq⟩

end Go.Proofs.Ytgeoheeibebmcaa

namespace Go.Proofs.Ytgeoheeibebmcaa
open Go.RowKit

set_option maxRecDepth 100000 in
set_option maxHeartbeats 4000000 in
theorem implMarkPick_any (m : Int) (A : Option Addr) (n c : Nat) (xs : List ArcD) (many : Int) (w : World) (hn : n ≤ 1048576) (hnx : xs.length = n) (hx : ArcsAt w A xs) :
    Calls Try.prog 25 #[.agg #[.int .i64 m, .slice A n c], .int .i64 many] w (Gives w (choseI m xs many)) := by
  have HX := Lib.hid hnx
  clear hnx
  obtain ⟨i0, hi, hz0, hz1, hz2⟩ := info_parts infoInt
  have hb0 : Past w (w.alloc (.cells #[.int .i64 m, .slice A n c] 30)) := (Past.refl _).alloc _
  go_enter Try.func25, Try.ntmps25
  go_wp2_with fail
  refine (implNetOk_any m A n c xs _ hn HX.out (hx.below hb0)).mono ?_
  rintro e w1 ⟨rfl, hb1⟩
  have b0 := cell_in (p := ⟨w.heap.size, 0, none⟩) (v := .int .i64 m) hb1 (by go_simp)
  have b1 := cell_in (p := ⟨w.heap.size, 1, none⟩) (v := .slice A n c) hb1 (by go_simp)
  have hp1 := hb0.trans hb1
  have hws : w.heap.size < w1.heap.size := lt_of_cell b0
  clear hb0 hb1
  cases hB : netB m xs with
  | false =>
    have HB := Lib.hid hB
    clear hB
    go_wp2
    go_ret
    exact ⟨_, rfl, by rw [choseI, HB.out]; exact Res.nil _ _, hp1⟩
  | true =>
    obtain ⟨M, rfl, h1, h8⟩ := here_nat hB
    have h16 := ((netB_iff _ _).1 hB).2.1
    rw [HX.out] at h16
    have HB := Lib.hid hB
    clear hB
    go_wp2_with fail
    refine (within_any _ _ _).mono ?_
    rintro e w2 ⟨rfl, rfl⟩
    cases hI : inB many 0 (M : Int) with
    | false =>
      have HI := Lib.hid hI
      clear hI
      go_wp2
      go_ret
      exact ⟨_, rfl, by rw [choseI, HB.out, HI.out]; exact Res.nil _ _, hp1⟩
    | true =>
      have hmb := (inB_iff _ _ _).1 hI
      obtain ⟨Y, rfl⟩ : ∃ Y : Nat, many = (Y : Int) := ⟨many.toNat, by omega⟩
      have hYM : Y ≤ M := by omega
      have HRES : Hid (choseI (M : Int) xs (Y : Int) = pickL M xs Y) := by rw [Hid, choseI, HB.out, hI, if_pos (by rfl), Int.toNat_natCast, Int.toNat_natCast]
      have B0 := Lib.hid b0
      have B1 := Lib.hid b1
      clear hI hmb b0 b1
      go_wp2
      obtain ⟨W2, hW2⟩ : ∃ W2, W2 = w1.alloc (.cells #[.int .i64 0] 3) := ⟨_, rfl⟩
      have hp2 : Past w1 W2 := by rw [hW2]; exact (Past.refl _).alloc _
      have hz : IntsAt W2 (some ⟨w1.heap.size, 0, none⟩) [0] := fun k y hk => by
        cases k with
        | zero => simp at hk; subst hk; exact ⟨_, _, rfl, by rw [hW2]; go_simp⟩
        | succ k => simp at hk
      rw [← hW2]
      clear hW2
      go_loopw [5, 6] (fun v u wr => ∃ k : Nat, k ≤ Y ∧ Res wr w1.heap.size v (pickL M xs k) ∧ Past w1 wr ∧ ((k = 0 ∧ u = .slice (some ⟨w1.heap.size, 0, none⟩) 1 1 ∧ IntsAt wr (some ⟨w1.heap.size, 0, none⟩) [0]) ∨ (0 < k ∧ u = v))) (fun v _ _ => Y - lenOf v)
      case atStart => exact ⟨0, by omega, Res.nil _ _, hp2, .inl ⟨rfl, rfl, hz⟩⟩
      case round =>
        obtain ⟨k, hk, hv, hb, hu⟩ := hrel
        have HV := Lib.hid hv
        obtain ⟨A2, c2, e2, hi2, _⟩ := hv.form
        rw [pickL_len] at e2
        subst e2
        obtain ⟨ks, hks⟩ : ∃ ks, ks = pickL M xs k := ⟨_, rfl⟩
        have hkl : ks.length = k := by rw [hks, pickL_len]
        have hkin : ∀ y ∈ ks, 0 ≤ y ∧ y < (M : Int) := by rw [hks]; exact pickL_in h1 (arcsIn_net HB.out) k (by omega)
        rw [← hks] at hi2
        obtain ⟨P, p, cp, ps, rfl, hpl, hp8, hpa, hse⟩ : ∃ (P : Option Addr) (p cp : Nat) (ps : List Int), u6 = .slice P p cp ∧ ps.length = p ∧ p ≤ 8 ∧ IntsAt wr P ps ∧ seeds ks = ps := by
          rcases hu with ⟨h0, rfl, hz0⟩ | ⟨h0, rfl⟩
          · exact ⟨_, _, _, [0], rfl, rfl, by omega, hz0, by
              have : ks = [] := List.eq_nil_of_length_eq_zero (by omega)
              rw [this]; rfl⟩
          · exact ⟨_, _, _, ks, rfl, hkl, by omega, hi2, by
              unfold seeds
              rw [if_neg (fun e => by rw [e] at hkl; simp at hkl; omega)]⟩
        have HKS := Lib.hid hks
        have HKL := Lib.hid hkl
        have HKI := Lib.hid hkin
        have HPL := Lib.hid hpl
        have HSE := Lib.hid hse
        have b0 := cell_in hb B0.out
        have b1 := cell_in hb B1.out
        have hs2 := hb.size
        clear hv hks hkl hkin hpl hse hu
        by_cases hlt : k < Y
        · have y0 : (k : Int) < (Y : Int) := by omega
          go_wp2_with fail
          refine (farthest_any M A n c xs P p cp ps A2 k c2 ks _ h8 h1 h16 HX.out ((hx.below hp1).below hb) HB.out hp8 HPL.out hpa HSE.out (by omega) HKL.out hi2 HKI.out).mono ?_
          rintro e w4 ⟨rfl, hb4⟩
          have hv := HV.out.below hb4
          have hbz := hb.trans hb4
          have hzs := hbz.size
          obtain ⟨X, hX⟩ : ∃ X, X = (pickTo M xs ks M).1 := ⟨_, rfl⟩
          have HN : Hid (pickL M xs (k + 1) = pickL M xs k ++ [X]) := by rw [Hid, pickL, hX, HKS.out]
          unfold Res at hv
          rw [pickL_len] at hv
          rw [← hX]
          clear hX
          go_wp2_with (first | (at_builtin; refine wpList_append_own _ rfl _ _ 25 rfl w1.heap.size 3 i0 (.int .i64 0) 1 8 Try.underlying25 hi hz0 hz1 hz2 rfl (by decide) _ _ _ rfl (hv.alloc _) ⟨w4.heap.size, 0, none⟩ 1 1 [.int .i64 X] rfl rfl (cell_one_new _ _ _) (one_cell X) (by unfold maxLen; omega) (by omega) (by simp; omega) ?_; intro v' w6 hown' hgrow6 hnil6))
          go_roundw
          case rel => exact ⟨k + 1, by omega, Res.step hown' (by rw [pickL_len]) HN.out, Past.grown (hbz.alloc _) (hv.alloc _) hgrow6 (Nat.le_refl _), .inr ⟨by omega, rfl⟩⟩
          case measure =>
            obtain ⟨gv, cv, hvf, _, _⟩ := World.ownsRow.form hown' (by omega)
            rw [hvf]
            simp [lenOf]
            omega
        · obtain rfl : k = Y := by omega
          have hv := HV.out
          go_wp2
          go_ret
          exact ⟨_, rfl, by rw [HRES.out]; exact hv.lower (by omega), hp1.trans hb⟩

end Go.Proofs.Ytgeoheeibebmcaa

namespace Go.Proofs.Ytgeoheeibebmcaa
open Go.ChangeShapes Go.WideShapes Go.ChangeAt Go.RowKit

set_option maxRecDepth 100000 in
set_option maxHeartbeats 2000000 in
theorem exactMarkPick_walk (m0 : Int) (A0 : Option Addr) (n0 c0 : Nat) (xs0 : List ArcD) (z1 : Int) (w : World) (hn0 : n0 ≤ maxLen) (hl0 : xs0.length = n0) (hx0 : ArcsAt w A0 xs0) :
    Calls Try.prog 5 #[.agg #[.int .i64 m0, .slice A0 n0 c0], .int .i64 z1] w fun e w' => e = .returned (.bool true) ∧ Below w.heap.size w w' := by
  have HX0 := Lib.hid hl0
  clear hl0
  have hP : Past w (w.alloc (.cells #[.int .i64 m0, .slice A0 n0 c0] 24)) := ((Past.refl w).alloc _)
  go_enter Try.func5, Try.ntmps5
  go_wp2_with fail
  refine (szNet_any m0 A0 n0 c0 (1048576) _ (by omega) (by omega) hn0).mono ?_
  rintro e w1 ⟨rfl, hb⟩
  have a0_0 := cell_in (p := ⟨w.heap.size, 0, none⟩) (v := .int .i64 m0) hb (by go_simp)
  have a0_1 := cell_in (p := ⟨w.heap.size, 1, none⟩) (v := .slice A0 n0 c0) hb (by go_simp)
  have hx0 := (hx0.below hP).below hb
  have hP := Past.trans hP hb
  clear hb
  by_cases h20s_0 : (n0 : Int) ≤ 1048576
  rotate_left
  · have hr : roomLeft (1048576) n0 = -1 := by unfold roomLeft; rw [if_pos (by omega)]
    rw [hr]
    go_wp2
    go_ret
    exact ⟨rfl, hP⟩
  have hr : roomLeft (1048576) n0 = 1048576 - n0 := by unfold roomLeft; rw [if_neg (by omega)]
  rw [hr]
  clear hr
  have h20_0 : n0 ≤ 1048576 := by omega
  go_wp2_with fail
  refine (toNet_any m0 A0 n0 c0 xs0 _ h20_0 HX0.out hx0).mono ?_
  rintro e w2 ⟨sg0, rfl, hb, hg, sm0⟩
  have hx0 := hx0.below hb
  have a0_0 := cell_in hb a0_0
  have a0_1 := cell_in hb a0_1
  have hP := Past.trans hP hb
  have s2 := hb.size
  clear hb hg
  go_wp2_with fail
  refine (specMarkPick_any m0 _ n0 n0 xs0 z1 _ h20_0 HX0.out (sm0.arcs HX0.out)).mono ?_
  rintro e w3 ⟨v4, rfl, hv4, hb⟩
  have hzl := choseI_len m0 xs0 z1
  obtain ⟨zs, hzs⟩ : ∃ zs, zs = choseI m0 xs0 z1 := ⟨_, rfl⟩
  rw [← hzs] at hv4 hzl
  obtain ⟨N, hN⟩ : ∃ N, N = zs.length := ⟨_, rfl⟩
  obtain ⟨A4, c4, rfl, hz, ho4⟩ := hv4.form
  rw [← hN] at hzl
  have HZ := Lib.hid hzs
  have HN := Lib.hid hN
  rw [← hN]
  clear hN hzs hv4 ho4
  have hx0 := hx0.below hb
  have a0_0 := cell_in hb a0_0
  have a0_1 := cell_in hb a0_1
  have sm0 := sm0.below hb
  have hP := Past.trans hP hb
  have s3 := hb.size
  clear hb
  clear sm0
  have hx0E := hx0
  have hzE := hz
  have sb : w.heap.size < w3.heap.size := lt_of_cell a0_0
  have sP := hP.size
  go_wp2_with fail
  refine (toNet_any m0 A0 n0 c0 xs0 _ h20_0 HX0.out hx0).mono ?_
  rintro e w4 ⟨g0, rfl, hb, hg0, hm0⟩
  have sg0 := hm0.1.lt
  have hx0 := hx0.below hb
  have a0_0 := cell_in hb a0_0
  have a0_1 := cell_in hb a0_1
  have hz := hz.below hb
  have hP := Past.trans hP hb
  have s4 := hb.size
  clear hb
  have hb : Past w4 (w4.alloc (.cells #[.int .i64 m0, .slice (some ⟨g0, 0, none⟩) n0 n0] 30)) := (Past.refl _).alloc _
  obtain ⟨w5, hw6⟩ : ∃ u, u = w4.alloc (.cells #[.int .i64 m0, .slice (some ⟨g0, 0, none⟩) n0 n0] 30) := ⟨_, rfl⟩
  go_wp2_with fail
  have p0_0 : w5.cell? ⟨w4.heap.size, 0, none⟩ = some (.int .i64 m0) := by rw [hw6]; go_simp
  have p0_1 : w5.cell? ⟨w4.heap.size, 1, none⟩ = some (.slice (some ⟨g0, 0, none⟩) n0 n0) := by rw [hw6]; go_simp
  rw [← hw6] at hb ⊢
  have sx0 : w4.heap.size < w5.heap.size := lt_of_cell p0_0
  clear hw6
  have hx0 := hx0.below hb
  have a0_0 := cell_in hb a0_0
  have a0_1 := cell_in hb a0_1
  have hz := hz.below hb
  have hm0 := hm0.below hb
  have hP := Past.trans hP hb
  have s5 := hb.size
  clear hb
  refine (implMarkPick_any m0 _ n0 n0 xs0 z1 _ h20_0 HX0.out (hm0.arcs HX0.out)).mono ?_
  rintro e w6 ⟨v7, rfl, hv7, hb⟩
  rw [← HZ.out] at hv7
  obtain ⟨A7, c7, rfl, hi, ho⟩ := hv7.form
  rw [← HN.out] at ho
  rw [← HN.out]
  clear hv7
  have hx0 := hx0.below hb
  have a0_0 := cell_in hb a0_0
  have a0_1 := cell_in hb a0_1
  have hz := hz.below hb
  have hm0 := hm0.below hb
  have p0_0 := cell_in hb p0_0
  have p0_1 := cell_in hb p0_1
  have hP := Past.trans hP hb
  have s6 := hb.size
  clear hb
  go_wp2_with fail
  refine (eqIntS_same A7 A4 N c7 c4 zs _ hzl HN.out.symm hi hz).mono ?_
  rintro e w7 ⟨rfl, hb⟩
  have hx0 := hx0.below hb
  have a0_0 := cell_in hb a0_0
  have a0_1 := cell_in hb a0_1
  have hz := hz.below hb
  have hm0 := hm0.below hb
  have p0_0 := cell_in hb p0_0
  have p0_1 := cell_in hb p0_1
  have hi := hi.below hb
  have ho := ho.below hb
  have hP := Past.trans hP hb
  have s7 := hb.size
  clear hb
  have hq := (hm0.arcs HX0.out)
  go_wp2_with fail
  go_region_held3 (fun w' => w'.cell? ⟨w.heap.size, 0, none⟩ = some (.int .i64 m0) ∧ w'.cell? ⟨w.heap.size, 1, none⟩ = some (.slice A0 n0 c0) ∧ w'.cell? ⟨w4.heap.size, 0, none⟩ = some (.int .i64 m0) ∧ w'.cell? ⟨w4.heap.size, 1, none⟩ = some (.slice (some ⟨g0, 0, none⟩) n0 n0)) (go_keep)
    (first
      | (go_at_call 17; refine (toNet_any m0 A0 n0 c0 xs0 _ h20_0 HX0.out hx0.drew).mono ?_; rintro e w8 ⟨g9, rfl, hb9, hg9, hm9⟩; have a0_0 := cell_in hb9 a0_0; have a0_1 := cell_in hb9 a0_1; have p0_0 := cell_in hb9 p0_0; have p0_1 := cell_in hb9 p0_1)
      | (go_at_call 20; refine (eqNet_same m0 _ _ n0 n0 n0 xs0 _ h20_0 HX0.out (hq.drew.below hb9) (hm9.arcs HX0.out)).mono ?_; rintro e w9 ⟨rfl, hb10⟩; have a0_0 := cell_in hb10 a0_0; have a0_1 := cell_in hb10 a0_1; have p0_0 := cell_in hb10 p0_0; have p0_1 := cell_in hb10 p0_1))
  have hb : Past w7 w9 := (Past.refl w7).drew.trans (Past.trans hb9 hb10)
  clear hb9 hb10 hq hm9 hg9
  have hx0 := hx0.below hb
  have hz := hz.below hb
  have hm0 := hm0.below hb
  have hi := hi.below hb
  have ho := ho.below hb
  have hP := Past.trans hP hb
  have s9 := hb.size
  clear hb
  clear p0_0 p0_1
  have hr0 := hm0.1
  clear hm0
  go_wp2_with fail
  refine (markNet_any m0 (some ⟨g0, 0, none⟩) n0 n0 (1) g0 90 _ h20_0 _ (by first | rfl | (push_cast; omega)) (by omega) (.inr ⟨g0, n0 * 5, rfl, Nat.le_refl _, hr0, by omega⟩ : OwnAt _ g0 (some ⟨g0, 0, none⟩) 90 5 n0)).mono ?_
  rintro e w10 ⟨rfl, hb, _⟩
  have hb' : w9.grownBy w10 (some g0) := hb
  have hP : Past w w10 := below_marked hP hb (.inr ⟨g0, n0 * 5, rfl, Nat.le_refl _, hr0, by omega⟩ : OwnAt _ g0 (some ⟨g0, 0, none⟩) 90 5 n0) (by omega)
  have hx0 := ArcsAt.old hx0E hx0 hb' (by omega)
  have a0_0 := cell_far hb' a0_0 (by simp only [ne_eq]; omega)
  have a0_1 := cell_far hb' a0_1 (by simp only [ne_eq]; omega)
  have hz := IntsAt.old hzE hz hb' (by omega)
  have hi := IntsAt.young (by rw [← HN.out]; exact ho) hi hb' (by omega)
  have ho := ho.young hb' (by omega)
  have s10 := hb'.size
  clear hb hb' hr0
  have hkn : ¬ (((1 : Nat) : Int) + 5 * (n0 : Int) < 0) := by omega
  go_wp2_with fail
  refine (eqIntS_same A7 A4 N c7 c4 zs _ hzl HN.out.symm hi hz).mono ?_
  rintro e w11 ⟨rfl, hb⟩
  have hx0 := hx0.below hb
  have a0_0 := cell_in hb a0_0
  have a0_1 := cell_in hb a0_1
  have hz := hz.below hb
  have hi := hi.below hb
  have ho := ho.below hb
  have hP := Past.trans hP hb
  have s11 := hb.size
  clear hb
  go_wp2_with fail
  refine (markIntS_any A7 N c7 1 w5.heap.size 3 _ hzl _ rfl (by omega) ho).mono ?_
  rintro e w12 ⟨rfl, hb, hk⟩
  have hbl : Below w5.heap.size w11 w12 := below_own hb ho (by omega)
  have hP : Past w w12 := below_marked hP hb ho (by omega)
  clear hi ho
  have hx0 := ArcsAt.under hx0E hx0 hbl (by omega)
  have a0_0 := (hbl.cell (p := ⟨w.heap.size, 0, none⟩) (by simp only; omega)).trans a0_0
  have a0_1 := (hbl.cell (p := ⟨w.heap.size, 1, none⟩) (by simp only; omega)).trans a0_1
  have hz := IntsAt.under hzE hz hbl (by omega)
  clear hb hbl
  go_wp2_with fail
  refine (heldIntS_any A7 N c7 1 _ hzl _ rfl (by omega) hk).mono ?_
  rintro e w_ ⟨rfl, rfl⟩
  have hqn : ¬ (((1 : Nat) : Int) + (N : Int) < 0) := by omega
  go_wp2_with fail
  refine (toNet_any m0 A0 n0 c0 xs0 _ h20_0 HX0.out hx0).mono ?_
  rintro e w13 ⟨tg0, rfl, hb, hg, tm0⟩
  have hx0 := hx0.below hb
  have a0_0 := cell_in hb a0_0
  have a0_1 := cell_in hb a0_1
  have hz := hz.below hb
  have hk := hk.below hb
  have hP := Past.trans hP hb
  have s13 := hb.size
  clear hb hg
  go_wp2_with fail
  refine (implMarkPick_any m0 _ n0 n0 xs0 z1 _ h20_0 HX0.out (tm0.arcs HX0.out)).mono ?_
  rintro e w14 ⟨v20, rfl, hv20, hb⟩
  rw [← HZ.out] at hv20
  obtain ⟨A20, c20, rfl, hi20, ho20⟩ := hv20.form
  rw [← HN.out]
  clear hv20 ho20
  have hx0 := hx0.below hb
  have a0_0 := cell_in hb a0_0
  have a0_1 := cell_in hb a0_1
  have hz := hz.below hb
  have hk := hk.below hb
  have tm0 := tm0.below hb
  have hP := Past.trans hP hb
  have s14 := hb.size
  clear hb
  go_wp2_with fail
  refine (eqIntS_same A20 A4 N c20 c4 zs _ hzl HN.out.symm hi20 hz).mono ?_
  rintro e w15 ⟨rfl, hb⟩
  have hx0 := hx0.below hb
  have a0_0 := cell_in hb a0_0
  have a0_1 := cell_in hb a0_1
  have hz := hz.below hb
  have hk := hk.below hb
  have tm0 := tm0.below hb
  have hP := Past.trans hP hb
  have s15 := hb.size
  clear hb
  go_wp2_with fail
  refine (heldIntS_any A7 N c7 1 _ hzl _ rfl (by omega) hk).mono ?_
  rintro e w_ ⟨rfl, rfl⟩
  go_wp2
  go_ret
  exact ⟨rfl, hP⟩

set_option maxRecDepth 100000 in
theorem exactMarkPick_lifted (os : Os) (started : os.Started) (H : Type) (enc : TypeId × Value → H) :
    ReturnsInHanded {} Try.checked os 5 .any (Rows.fnExactMarkPickSpec.pre6 enc Try.prog Try.f5 Rows.fnExactMarkPickRow.domain false) (Rows.fnExactMarkPickSpec.post enc Try.prog Try.f5 false true false false) := by
  refine returnsInHanded_of_change (C := Try.checked) own started (by kernel_rfl) Try.func5
    (ChangeSpec.witness6 (enc := enc) (C := Try.checked) false ⟨#[], #[.agg #[.int .i64 0, .slice none 0 0], .int .i64 0], []⟩ 8 (by kernel_rfl) (by kernel_rfl) (by kernel_rfl) (by kernel_rfl)) ?_
  intro W base args ds gs before hval0 hW hcnd _
  have hval : ∀ (j : Nat) t v, Try.f5.params[j]? = some t → args[j]? = some v → Value.okWide Try.prog W .any base t v := hval0
  have hW' := hW
  obtain ⟨p, q, hA0, hV, rfl, hfz, hnd⟩ := hW
  have hA : DataW.TrodAll enc Try.prog W 0 (fun _ => true) true Try.f5.params.toList args.toList ds p := hA0
  rw [Try.params5] at hA hval
  obtain ⟨v0, vs0, d0, ds0, p0, q0, hargs, rfl, rfl, h0, r0⟩ := trodAll_cons hA
  obtain ⟨v1, vs1, d1, ds1, p1, q1, rfl, rfl, rfl, h1, r1⟩ := trodAll_cons r0
  obtain ⟨rfl, rfl, rfl⟩ := trodAll_nil r1
  obtain rfl : args = #[v0, v1] := by cases args; simp_all
  obtain ⟨rfl, rfl⟩ := trodVars_none hV
  have k0 := h0
  have lt0 := places_lt k0
  have k1 := h1
  have lt1 := places_lt k1
  obtain ⟨m0, A0, n0, c0, xs0, rfl, hl0, hn0, hx0, _⟩ := open_net (hval 0 24 v0 rfl rfl) h0
  obtain ⟨z1, rfl⟩ := okWide_int Try.underlying3 (hval 1 3 v1 rfl rfl)
  clear hA0 hval0
  refine (exactMarkPick_walk m0 A0 n0 c0 xs0 z1 W hn0 hl0 hx0).mono fun e W' ⟨he, bel⟩ => ?_
  subst he
  exact ⟨_, rfl, _, _, _, [], _, [], hW', trodAll_mk1 (shut_bool Try.underlying4 _), (trodAll_cons_mk (Below.trod laidOut (by kernel_rfl) (of_decide_eq_true (by kernel_rfl)) k0 bel lt0) (trodAll_cons_mk (Below.trod laidOut (by kernel_rfl) (of_decide_eq_true (by kernel_rfl)) k1 bel lt1) trodAll_mk0)), rfl, bel.frame _, fun h => by cases h⟩

/-- The given statement. -/
theorem exactMarkPick_proved : Rows.FnExactMarkPickSaid :=
  OpenClaim.holds_of_wide 5 Try.f5 rfl rfl rfl rfl rfl rfl rfl ⟨rfl, rfl, rfl, rfl, rfl⟩ rfl rfl rfl rfl rfl (by kernel_rfl) Try.func5 (by kernel_rfl)
    (of_decide_eq_true (by kernel_rfl)) (by unfold Func.isWrapper; first | (rw [if_pos (by decide +kernel)]; kernel_rfl) | (rw [if_neg (by decide +kernel)]; exact ⟨rfl, rfl⟩))
    (fun os started H enc _ => exactMarkPick_lifted os started H enc)

end Go.Proofs.Ytgeoheeibebmcaa
