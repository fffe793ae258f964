/-
  Which of a list of nodes is nearest, as the program goes: impl.costsTo, impl.ManyNear. No condition.
-/
import Derived.Test.YtkmognandkamoaaMNear
namespace Go.Proofs.Ytkmognandkamoaa
open Go.RowKit

set_option maxRecDepth 100000 in
set_option maxHeartbeats 1000000 in
theorem costsTo_any (M : Nat) (A : Option Addr) (n c : Nat) (xs : List ArcD) (s : Int) (B : Option Addr) (l cb : Nat) (ys : List Int) (w : World) (hn : n ≤ 1048576) (hnx : xs.length = n) (hx : ArcsAt w A xs) (hl : l ≤ 1048576) (hly : ys.length = l) (hy : IntsAt w B ys) (hH : hereB (M : Int) xs s = true) (hin : ∀ y ∈ ys, 0 ≤ y ∧ y < (M : Int)) :
    Calls Try.prog 69 #[.agg #[.int .i64 M, .slice A n c], .int .i64 s, .slice B l cb] w (Gives w (costsL (M : Int) xs s ys)) := by
  have HX := Lib.hid hnx
  have HY := Lib.hid hly
  have HIN := Lib.hid hin
  have hmk := makeInt l hl
  have hni : nearI (M : Int) xs s = nearL M xs s := by rw [nearI, hH, if_pos rfl, Int.toNat_natCast]
  have HNI := Lib.hid hni
  clear hnx hly hin hni hH
  have hb0 : Past w (w.alloc (.cells #[.int .i64 M, .slice A n c] 29)) := (Past.refl _).alloc _
  go_enter Try.func69, Try.ntmps69
  go_wp2_with fail
  refine (implNearAll_any (M : Int) A n c xs s _ hn HX.out (hx.below hb0)).mono ?_
  rintro e w1 ⟨v1, rfl, hv1, hb1⟩
  rw [HNI.out] at hv1
  obtain ⟨D, cd, rfl, hd1, _⟩ := hv1.form
  rw [nearL_length]
  obtain ⟨d, hd⟩ : ∃ d, d = nearL M xs s := ⟨_, rfl⟩
  rw [← hd] at hd1
  have hdl : d.length = M := by rw [hd, nearL_length]
  have HCS : Hid (costsL (M : Int) xs s ys = ys.map (at_ d)) := by rw [Hid, costsL, hd, Int.toNat_natCast]
  have HDL := Lib.hid hdl
  have hp1 := hb0.trans hb1
  have hy1 := hy.below hp1
  have hs1 := hp1.size
  clear hd hdl hv1 hb1 hb0 hx hy
  obtain ⟨cs, hcs⟩ : ∃ cs, cs = costsL (M : Int) xs s ys := ⟨_, rfl⟩
  rw [← hcs] at HCS
  have HCC := Lib.hid hcs
  clear hcs
  go_wp2
  go_loopw [19] (fun i wr => ∃ k : Nat, k ≤ l ∧ i = .int .i64 k ∧ Past w1 wr ∧ MadeI wr w1.heap.size 3 l cs k) (fun i _ => l - (intOf i).toNat)
  case atStart => exact ⟨0, by omega, rfl, (Past.refl w1).alloc _, MadeI.start _ _ _ _ _ (by simp [size_madeCells])⟩
  case round =>
    obtain ⟨k, hk, rfl, hb, hm⟩ := hrel
    by_cases hlt : k < l
    · obtain ⟨y, ha⟩ : ∃ a, ys[k]? = some a := ⟨_, List.getElem?_eq_getElem (by have := HY.out; omega)⟩
      obtain ⟨g, o, rfl, c0⟩ := (hy1.below hb) k _ ha
      have hyb := HIN.out y (List.mem_of_getElem? ha)
      obtain ⟨z, hz⟩ : ∃ z, z = at_ d y := ⟨_, rfl⟩
      obtain ⟨g', o', rfl, d0⟩ := (hd1.below hb) y.toNat z (by rw [hz]; exact getElem_at' d y hyb.1 (by rw [HDL.out]; exact hyb.2))
      have HA : Hid (cs[k]? = some z) := by rw [Hid, HCS.out, List.getElem?_map, ha, hz]; rfl
      clear ha hz
      have i0 : (0 : Int) ≤ (k : Int) := by omega
      have i1 : (k : Int) < (l : Int) := by omega
      have y0 := hyb.1
      have y1 := hyb.2
      obtain ⟨v0, e0⟩ := hm.1.cell (i := k) hlt
      have z0 := hm.1.frozen k
      have hnx := hm.next HA.out hlt
      go_wp2
      go_roundw
      case rel => exact ⟨k + 1, by omega, by go_num, Below.setCell hb (p := ⟨w1.heap.size, k, none⟩) (by simp) _, hnx⟩
      case measure => simp [intOf]; omega
    · obtain rfl : l = k := by omega
      go_wp2
      go_ret
      have hlc : cs.length = l := by rw [HCS.out, List.length_map, HY.out]
      exact ⟨_, rfl, by rw [← HCC.out]; exact (hm.row hlc).res hlc hs1 hl, hp1.trans hb⟩

set_option maxRecDepth 100000 in
set_option maxHeartbeats 1000000 in
theorem implManyNear_any (m : Int) (A : Option Addr) (n c : Nat) (xs : List ArcD) (s : Int) (B : Option Addr) (l cb : Nat) (ys : List Int) (w : World) (hn : n ≤ 1048576) (hnx : xs.length = n) (hx : ArcsAt w A xs) (hl : l ≤ 1048576) (hly : ys.length = l) (hy : IntsAt w B ys) :
    Calls Try.prog 31 #[.agg #[.int .i64 m, .slice A n c], .int .i64 s, .slice B l cb] w fun e w' => e = .returned (.tuple #[.int .i64 (manyW m xs s ys), .int .i64 (manyC m xs s ys)]) ∧ Below w.heap.size w w' := by
  have HX := Lib.hid hnx
  have HY := Lib.hid hly
  clear hnx hly
  have hb0 : Past w (w.alloc (.cells #[.int .i64 m, .slice A n c] 29)) := (Past.refl _).alloc _
  go_enter Try.func31, Try.ntmps31
  go_wp2_with fail
  refine (listOk_any m A n c xs B l cb ys _ hn HX.out (hx.below hb0) hl HY.out (hy.below hb0)).mono ?_
  rintro e w1 ⟨rfl, hb1⟩
  have b0 := cell_in (p := ⟨w.heap.size, 0, none⟩) (v := .int .i64 m) hb1 (by go_simp)
  have b1 := cell_in (p := ⟨w.heap.size, 1, none⟩) (v := .slice A n c) hb1 (by go_simp)
  have hp1 := hb0.trans hb1
  have hx1 := hx.below hp1
  have hy1 := hy.below hp1
  clear hb0 hb1 hx hy
  cases hC : listB m xs ys with
  | false =>
    have HC := Lib.hid hC
    clear hC
    go_wp2
    go_ret2
    exact ⟨ret_two (by simp [manyW, HC.out]) (by simp [manyC, HC.out]), hp1⟩
  | true =>
    obtain ⟨hN, hl8, hin⟩ := (listB_iff _ _ _).1 hC
    obtain ⟨M, rfl, h1, h8⟩ := here_nat hN
    have HC := Lib.hid hC
    have HIN := Lib.hid hin
    have HN := Lib.hid hN
    rw [HY.out] at hl8
    clear hC hin hN
    have hpz : Past w1 (w1.alloc (.cells #[.int .i64 s] 3)) := (Past.refl _).alloc _
    have hz : IntsAt (w1.alloc (.cells #[.int .i64 s] 3)) (some ⟨w1.heap.size, 0, none⟩) [s] := fun k y hk => by
      cases k with
      | zero => simp at hk; subst hk; exact ⟨_, _, rfl, by go_simp⟩
      | succ k => simp at hk
    go_wp2_with fail
    refine (netHas_any (M : Int) A n c xs _ 1 1 [s] _ hn HX.out (hx1.below hpz) (by omega) rfl hz).mono ?_
    rintro e w2 ⟨rfl, hb2⟩
    have hH : (netB (M : Int) xs && [s].all (fun z => inB z 0 ((M : Int) - 1))) = hereB (M : Int) xs s := by simp [hereB]
    rw [hH]
    have b0 := cell_in hb2 (cell_in hpz b0)
    have b1 := cell_in hb2 (cell_in hpz b1)
    have hx2 := (hx1.below hpz).below hb2
    have hy2 := (hy1.below hpz).below hb2
    have hp2 := (hp1.trans hpz).trans hb2
    clear hH hb2 hpz hp1 hx1 hy1 hz
    cases hB : hereB (M : Int) xs s with
    | false =>
      have hI : inB s 0 ((M : Int) - 1) = false := by
        have := hB
        rw [hereB, HN.out, Bool.true_and] at this
        exact this
      have HI := Lib.hid hI
      clear hB hI
      go_wp2
      go_ret2
      exact ⟨ret_two (by simp [manyW, HI.out]) (by simp [manyC, HI.out]), hp2⟩
    | true =>
      have hI : inB s 0 ((M : Int) - 1) = true := by
        have := hB
        rw [hereB, HN.out, Bool.true_and] at this
        exact this
      have HI := Lib.hid hI
      have HB := Lib.hid hB
      clear hB hI
      go_wp2_with fail
      refine (costsTo_any M A n c xs s B l cb ys _ hn HX.out hx2 hl HY.out hy2 HB.out HIN.out).mono ?_
      rintro e w4 ⟨v4, rfl, hv4, hb4⟩
      obtain ⟨D, cd, rfl, hd4, _⟩ := hv4.form
      obtain ⟨cs, hcs⟩ : ∃ cs, cs = costsL (M : Int) xs s ys := ⟨_, rfl⟩
      rw [← hcs] at hd4 ⊢
      have hcl : cs.length = l := by rw [hcs, costsL, List.length_map, HY.out]
      rw [hcl]
      have HCC := Lib.hid hcs
      have HCL := Lib.hid hcl
      have hp4 := hp2.trans hb4
      clear hcs hcl hv4 hb4 hp2 hx2 hy2 b0 b1
      go_wp2
      go_loopw [8, 9, 28] (fun v b i wr => ∃ k : Nat, k ≤ l ∧ i = .int .i64 k ∧ b = .int .i64 (least cs k).2 ∧ v = .int .i64 (least cs k).1 ∧ Past w4 wr) (fun _ _ i _ => l - (intOf i).toNat)
      case atStart => exact ⟨0, by omega, rfl, rfl, rfl, Past.refl _⟩
      case round =>
        obtain ⟨k, hk, rfl, rfl, rfl, hb⟩ := hrel
        by_cases hlt : k < l
        · obtain ⟨z, hz⟩ : ∃ z, z = at_ cs (k : Int) := ⟨_, rfl⟩
          obtain ⟨g', o', rfl, d0⟩ := (hd4.below hb) k z (by rw [hz]; have := getElem_at' cs (k : Int) (by omega) (by rw [HCL.out]; omega); simpa using this)
          have HZ := Lib.hid hz.symm
          clear hz
          have i0 : (0 : Int) ≤ (k : Int) := by omega
          have i1 : (k : Int) < (l : Int) := by omega
          obtain ⟨W, hW⟩ : ∃ W, W = (least cs k).1 := ⟨_, rfl⟩
          obtain ⟨C, hC⟩ : ∃ C, C = (least cs k).2 := ⟨_, rfl⟩
          rw [← hW, ← hC]
          by_cases hzc : z < C
          · have HM : Hid (least cs (k + 1) = ((k : Int), z)) := least_next_lt HZ.out (by rw [← hC]; exact hzc)
            clear hC hW
            go_wp2
            go_roundw
            case rel => exact ⟨k + 1, by omega, by go_num, by rw [HM.out], by rw [HM.out], hb⟩
            case measure => simp [intOf]; omega
          · have HM : Hid (least cs (k + 1) = (W, C)) := by rw [Hid, least_next_ge HZ.out (by rw [← hC]; exact hzc), hW, hC]
            clear hC hW
            go_wp2
            go_roundw
            case rel => exact ⟨k + 1, by omega, by go_num, by rw [HM.out], by rw [HM.out], hb⟩
            case measure => simp [intOf]; omega
        · obtain rfl : l = k := by omega
          go_wp2
          go_ret2
          exact ⟨ret_two (by rw [manyW, HC.out, HI.out, ← HCC.out, HY.out]; rfl) (by rw [manyC, HC.out, HI.out, ← HCC.out, HY.out]; rfl), hp4.trans hb⟩

end Go.Proofs.Ytkmognandkamoaa
