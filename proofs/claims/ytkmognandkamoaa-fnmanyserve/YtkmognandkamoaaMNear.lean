/-
  Which of a list of nodes is nearest: spec.ManyNear, impl.costsTo, impl.ManyNear. No condition.
-/
import Derived.Test.YtkmognandkamoaaMList
import Derived.Test.YtkmognandkamoaaNAll
namespace Go.Proofs.Ytkmognandkamoaa
open Go.RowKit

theorem ret_two {a b a' b' : Int} (h : a = a') (h' : b = b') : Ending.returned (.tuple #[.int .i64 a, .int .i64 b]) = .returned (.tuple #[.int .i64 a', .int .i64 b']) := by rw [h, h']
theorem getElem_at' (d : List Int) (v : Int) (h0 : 0 ≤ v) (h : v < d.length) : d[v.toNat]? = some (at_ d v) := by
  have : v.toNat < d.length := by omega
  simp [at_, this]

set_option maxRecDepth 100000 in
set_option maxHeartbeats 1000000 in
theorem specManyNear_any (m : Int) (A : Option Addr) (n c : Nat) (xs : List ArcD) (s : Int) (B : Option Addr) (l cb : Nat) (ys : List Int) (w : World) (hn : n ≤ 1048576) (hnx : xs.length = n) (hx : ArcsAt w A xs) (hl : l ≤ 1048576) (hly : ys.length = l) (hy : IntsAt w B ys) :
    Calls Try.prog 30 #[.agg #[.int .i64 m, .slice A n c], .int .i64 s, .slice B l cb] w fun e w' => e = .returned (.tuple #[.int .i64 (manyW m xs s ys), .int .i64 (manyC m xs s ys)]) ∧ Below w.heap.size w w' := by
  have HX := Lib.hid hnx
  have HY := Lib.hid hly
  clear hnx hly
  have hb0 : Past w (w.alloc (.cells #[.int .i64 m, .slice A n c] 29)) := (Past.refl _).alloc _
  go_enter Try.func30, Try.ntmps30
  go_wp2_with fail
  refine (l1Ok_any m A n c xs _ hn HX.out (hx.below hb0)).mono ?_
  rintro e w1 ⟨rfl, hb1⟩
  have b0 := cell_in (p := ⟨w.heap.size, 0, none⟩) (v := .int .i64 m) hb1 (by go_simp)
  have b1 := cell_in (p := ⟨w.heap.size, 1, none⟩) (v := .slice A n c) hb1 (by go_simp)
  have hp1 := hb0.trans hb1
  have hx1 := hx.below hp1
  have hy1 := hy.below hp1
  clear hb0 hb1 hx hy
  cases hB : netB m xs with
  | false =>
    have HB := Lib.hid hB
    clear hB
    go_wp2
    go_ret2
    exact ⟨ret_two (by simp [manyW, listB, HB.out]) (by simp [manyC, listB, HB.out]), hp1⟩
  | true =>
    obtain ⟨M, rfl, h1, h8⟩ := here_nat hB
    have HB := Lib.hid hB
    clear hB
    have hw : IntKind.i64.wrap ((M : Int) - 1) = (M : Int) - 1 := IntWalk.i64_in _ (by omega)
    go_wp2_with fail
    refine (l1In_any _ _ _ _).mono ?_
    rintro e w2 ⟨rfl, rfl⟩
    cases hI : inB s 0 ((M : Int) - 1) with
    | false =>
      have HI := Lib.hid hI
      clear hI
      go_wp2
      go_ret2
      exact ⟨ret_two (by simp [manyW, HI.out]) (by simp [manyC, HI.out]), hp1⟩
    | true =>
      have hs := (inB_iff _ _ _).1 hI
      have HI := Lib.hid hI
      clear hI
      go_wp2_with fail
      refine (l11Nodes_any (M : Int) A n c B l cb ys _ ⟨by omega, by omega⟩ hl HY.out hy1).mono ?_
      rintro e w3 ⟨rfl, hb3⟩
      have hLB : listB (M : Int) xs ys = (decide (ys.length ≤ 8) && ys.all (fun z => inB z 0 ((M : Int) - 1))) := by rw [listB, HB.out, Bool.true_and]
      rw [← hLB]
      have b0 := cell_in hb3 b0
      have b1 := cell_in hb3 b1
      have hp3 := hp1.trans hb3
      have hx3 := hx1.below hb3
      have hy3 := hy1.below hb3
      clear hLB hb3 hp1 hx1 hy1
      cases hC : listB (M : Int) xs ys with
      | false =>
        have HC := Lib.hid hC
        clear hC
        go_wp2
        go_ret2
        exact ⟨ret_two (by simp [manyW, HC.out]) (by simp [manyC, HC.out]), hp3⟩
      | true =>
        obtain ⟨_, hl8, hin⟩ := (listB_iff _ _ _).1 hC
        have HC := Lib.hid hC
        have HIN := Lib.hid hin
        rw [HY.out] at hl8
        clear hC hin
        go_wp2_with fail
        refine (l3All_any M s A n c xs _ h8 HX.out hn hx3 (arcsIn_net HB.out) (by omega)).mono ?_
        rintro e w4 ⟨v4, rfl, hv4, hb4⟩
        obtain ⟨D, cd, rfl, hd4, _⟩ := hv4.form
        rw [nearL_length]
        obtain ⟨d, hd⟩ : ∃ d, d = nearL M xs s := ⟨_, rfl⟩
        rw [← hd] at hd4
        have hdl : d.length = M := by rw [hd, nearL_length]
        have HCS : Hid (costsL (M : Int) xs s ys = ys.map (at_ d)) := by rw [Hid, costsL, hd, Int.toNat_natCast]
        have HDL := Lib.hid hdl
        have hp4 := hp3.trans hb4
        have hy4 := hy3.below hb4
        clear hd hdl hv4 hb4 hp3 hx3 hy3 b0 b1
        obtain ⟨cs, hcs⟩ : ∃ cs, cs = costsL (M : Int) xs s ys := ⟨_, rfl⟩
        rw [← hcs] at HCS
        have HCC := Lib.hid hcs
        clear hcs
        go_wp2
        go_loopw [8, 9, 11] (fun b v i wr => ∃ k : Nat, k ≤ l ∧ i = .int .i64 k ∧ b = .int .i64 (least cs k).2 ∧ v = .int .i64 (least cs k).1 ∧ Past w4 wr) (fun _ _ i _ => l - (intOf i).toNat)
        case atStart => exact ⟨0, by omega, rfl, rfl, rfl, Past.refl _⟩
        case round =>
          obtain ⟨k, hk, rfl, rfl, rfl, hb⟩ := hrel
          by_cases hlt : k < l
          · obtain ⟨y, ha⟩ : ∃ a, ys[k]? = some a := ⟨_, List.getElem?_eq_getElem (by have := HY.out; omega)⟩
            obtain ⟨g, o, rfl, c0⟩ := (hy4.below hb) k _ ha
            have hyb := HIN.out y (List.mem_of_getElem? ha)
            obtain ⟨z, hz⟩ : ∃ z, z = at_ d y := ⟨_, rfl⟩
            obtain ⟨g', o', rfl, d0⟩ := (hd4.below hb) y.toNat z (by rw [hz]; exact getElem_at' d y hyb.1 (by rw [HDL.out]; exact hyb.2))
            have hcz : at_ cs (k : Int) = z := by rw [HCS.out, at_map ha, hz]
            have HZ := Lib.hid hcz
            clear ha hz hcz
            have i0 : (0 : Int) ≤ (k : Int) := by omega
            have i1 : (k : Int) < (l : Int) := by omega
            have y0 := hyb.1
            have y1 := hyb.2
            obtain ⟨W, hW⟩ : ∃ W, W = (least cs k).1 := ⟨_, rfl⟩
            obtain ⟨C, hC⟩ : ∃ C, C = (least cs k).2 := ⟨_, rfl⟩
            rw [← hW, ← hC]
            by_cases hzc : z < C
            · have HN : Hid (least cs (k + 1) = ((k : Int), z)) := least_next_lt HZ.out (by rw [← hC]; exact hzc)
              clear hC hW
              go_wp2
              go_roundw
              case rel => exact ⟨k + 1, by omega, by go_num, by rw [HN.out], by rw [HN.out], hb⟩
              case measure => simp [intOf]; omega
            · have HN : Hid (least cs (k + 1) = (W, C)) := by rw [Hid, least_next_ge HZ.out (by rw [← hC]; exact hzc), hW, hC]
              clear hC hW
              go_wp2
              go_roundw
              case rel => exact ⟨k + 1, by omega, by go_num, by rw [HN.out], by rw [HN.out], hb⟩
              case measure => simp [intOf]; omega
          · obtain rfl : l = k := by omega
            go_wp2
            go_ret2
            exact ⟨ret_two (by rw [manyW, HC.out, HI.out, ← HCC.out, HY.out]; rfl) (by rw [manyC, HC.out, HI.out, ← HCC.out, HY.out]; rfl), hp4.trans hb⟩

end Go.Proofs.Ytkmognandkamoaa
