/-
  A cost for each arc, of costs and tolls: impl.CostOf, and what it calls. No condition.
-/
import Derived.Test.YtkmognandkamoaaCOfS
namespace Go.Proofs.Ytkmognandkamoaa
open Go.RowKit

set_option maxRecDepth 100000 in
set_option maxHeartbeats 1000000 in
theorem costOf1_any (f t c' l' d p q : Int) (P Q : Nat) (w : World) (hp : w.cell? ⟨P, 0, none⟩ = some (.int .i64 p)) (hq : w.cell? ⟨Q, 0, none⟩ = some (.int .i64 q)) (ha : 0 ≤ c' ∧ c' ≤ 99 ∧ 0 ≤ l' ∧ l' ≤ 99) (hpb : 0 ≤ p ∧ p ≤ 100) (hqb : 0 ≤ q ∧ q ≤ 100) :
    Calls Try.prog 62 #[.agg #[.int .i64 f, .int .i64 t, .int .i64 c', .int .i64 l', .int .i64 d], .pointer (some ⟨P, 0, none⟩), .pointer (some ⟨Q, 0, none⟩)] w fun e w' => e = .returned (.int .i64 (costOne p q ⟨f, t, c', l', d⟩)) ∧ Below w.heap.size w w' := by
  obtain ⟨x, y, z, ex, ey, ez, bx, by_, bz, ec⟩ := costOne_way (p := p) (q := q) (a := ⟨f, t, c', l', d⟩) ha hpb hqb
  simp only at ex ey
  have t1 : IntKind.i64.wrap (c' * p) = x := by rw [ex]; exact IntWalk.i64_in _ (by omega)
  have t2 : IntKind.i64.wrap (l' * q) = y := by rw [ey]; exact IntWalk.i64_in _ (by omega)
  have t3 : IntKind.i64.wrap (x + y) = x + y := IntWalk.i64_in _ (by omega)
  have t4 : IntKind.i64.wrap ((x + y).tdiv 100) = z := by rw [ez]; exact IntWalk.i64_in _ (by omega)
  have HEC := Lib.hid ec
  have hb0 : Past w (w.alloc (.cells #[.int .i64 f, .int .i64 t, .int .i64 c', .int .i64 l', .int .i64 d] 52)) := (Past.refl _).alloc _
  have hp := cell_in hb0 hp
  have hq := cell_in hb0 hq
  clear ex ey ez ec
  by_cases hc : 99 < z
  · rw [if_pos hc] at HEC
    go_enter Try.func62, Try.ntmps62
    go_wp2
    go_ret
    exact ⟨by rw [HEC.out]; rfl, hb0⟩
  · rw [if_neg hc] at HEC
    go_enter Try.func62, Try.ntmps62
    go_wp2
    go_ret
    exact ⟨by rw [HEC.out]; rfl, hb0⟩

set_option maxRecDepth 100000 in
set_option maxHeartbeats 1000000 in
theorem costsByOf_any (m : Int) (A : Option Addr) (n c : Nat) (xs : List ArcD) (p q : Int) (P Q : Nat) (w : World) (hnx : xs.length = n) (hx : ArcsAt w A xs) (hp : w.cell? ⟨P, 0, none⟩ = some (.int .i64 p)) (hq : w.cell? ⟨Q, 0, none⟩ = some (.int .i64 q)) (hO : ofOkB m xs p q = true) :
    Calls Try.prog 61 #[.agg #[.int .i64 m, .slice A n c], .func (.func 62) #[] #[.pointer (some ⟨P, 0, none⟩), .pointer (some ⟨Q, 0, none⟩)]] w (Gives w (costsOf p q xs)) := by
  obtain ⟨hB, hP, hQ⟩ := (ofOkB_iff _ _ _ _).1 hO
  have hpb := (inB_iff _ _ _).1 hP
  have hqb := (inB_iff _ _ _).1 hQ
  have h16 := net_num hB
  rw [hnx] at h16
  have HB := Lib.hid hB
  have HX := Lib.hid hnx
  have hmk := makeInt n (by omega)
  clear hnx hO hB hP hQ
  obtain ⟨w1, hw1⟩ : ∃ w1, w1 = w.alloc (.cells #[.int .i64 m, .slice A n c] 29) := ⟨_, rfl⟩
  have hb0 : Past w w1 := by rw [hw1]; exact (Past.refl _).alloc _
  have hsz : w1.heap.size = w.heap.size + 1 := by rw [hw1]; simp
  have HS := Lib.hid hsz
  have hx1 := hx.below hb0
  have hp := cell_in hb0 hp
  have hq := cell_in hb0 hq
  have b1 : w1.cell? ⟨w.heap.size, 1, none⟩ = some (.slice A n c) := by rw [hw1]; go_simp
  obtain ⟨cs, hcs⟩ : ∃ cs, cs = costsOf p q xs := ⟨_, rfl⟩
  have HCC := Lib.hid hcs
  have hlc : cs.length = n := by rw [hcs, costsOf, List.length_map, HX.out]
  have HLC := Lib.hid hlc
  have HW := Lib.hid hw1
  clear hcs hlc hw1 hx hsz
  go_enter Try.func61, Try.ntmps61
  go_wp2
  rw [← HW.out]
  clear HW
  go_loopw [15] (fun i wr => ∃ k : Nat, k ≤ n ∧ i = .int .i64 k ∧ Past w1 wr ∧ MadeI wr (w.heap.size + 1) 3 n cs k) (fun i _ => n - (intOf i).toNat)
  case atStart => exact ⟨0, by omega, rfl, (Past.refl w1).alloc _, by have := MadeI.start w1 3 n cs (madeCells #[.int .i64 0] n) (by simp [size_madeCells]); rw [HS.out] at this; exact this⟩
  case round =>
    obtain ⟨k, hk, rfl, hb, hm⟩ := hrel
    by_cases hlt : k < n
    · obtain ⟨⟨f, t, c', l', d⟩, ha⟩ : ∃ a, xs[k]? = some a := ⟨_, List.getElem?_eq_getElem (by have := HX.out; omega)⟩
      obtain ⟨g, o, rfl, d0, d1, d2, d3, d4⟩ := (hx1.below hb) k _ ha
      have hab := net_arc HB.out ha
      simp only at hab
      have HA : Hid (cs[k]? = some (costOne p q ⟨f, t, c', l', d⟩)) := by rw [Hid, HCC.out, costsOf, List.getElem?_map, ha]; rfl
      clear ha
      have i0 : (0 : Int) ≤ (k : Int) := by omega
      have i1 : (k : Int) < (n : Int) := by omega
      go_wp2_with fail
      refine (costOf1_any f t c' l' d p q P Q _ (cell_in ((Past.refl _).alloc _) (cell_in hb hp)) (cell_in ((Past.refl _).alloc _) (cell_in hb hq)) hab hpb hqb).mono ?_
      rintro e w2 ⟨rfl, hb2⟩
      have hb2 : Past wr w2 := ((Past.refl wr).alloc _).trans hb2
      have hm := hm.below hb2
      have hb := hb.trans hb2
      clear hb2 d0 d1 d2 d3 d4
      obtain ⟨z, hz⟩ : ∃ z, z = costOne p q ⟨f, t, c', l', d⟩ := ⟨_, rfl⟩
      rw [← hz] at HA ⊢
      clear hz
      obtain ⟨v0, e0⟩ := hm.1.cell (i := k) hlt
      have z0 := hm.1.frozen k
      have hnx := hm.next HA.out hlt
      go_wp2
      go_roundw
      case rel => exact ⟨k + 1, by omega, by go_num, Below.setCell hb (p := ⟨w.heap.size + 1, k, none⟩) (by rw [HS.out]; simp) _, hnx⟩
      case measure => simp [intOf]; omega
    · obtain rfl : n = k := by omega
      go_wp2
      go_ret
      exact ⟨_, rfl, by rw [← HCC.out]; exact (hm.row HLC.out).res HLC.out (by omega) (by omega), hb0.trans hb⟩

set_option maxRecDepth 100000 in
set_option maxHeartbeats 1000000 in
theorem implCostOf_any (m : Int) (A : Option Addr) (n c : Nat) (xs : List ArcD) (p q : Int) (w : World) (hn : n ≤ 1048576) (hnx : xs.length = n) (hx : ArcsAt w A xs) :
    Calls Try.prog 26 #[.agg #[.int .i64 m, .slice A n c], .int .i64 p, .int .i64 q] w (Gives w (costOfI m xs p q)) := by
  have HX := Lib.hid hnx
  clear hnx
  obtain ⟨W, hW⟩ : ∃ W, W = ((w.alloc (.cells #[.int .i64 m, .slice A n c] 29)).alloc (.cells #[.int .i64 p] 3)).alloc (.cells #[.int .i64 q] 3) := ⟨_, rfl⟩
  have hb0 : Past w W := by rw [hW]; exact (((Past.refl _).alloc _).alloc _).alloc _
  have b0 : W.cell? ⟨w.heap.size, 0, none⟩ = some (.int .i64 m) := by rw [hW]; go_simp
  have b1 : W.cell? ⟨w.heap.size, 1, none⟩ = some (.slice A n c) := by rw [hW]; go_simp
  have b2 : W.cell? ⟨w.heap.size + 1, 0, none⟩ = some (.int .i64 p) := by rw [hW]; go_simp
  have b3 : W.cell? ⟨w.heap.size + 1 + 1, 0, none⟩ = some (.int .i64 q) := by rw [hW]; go_simp
  have HW := Lib.hid hW
  have hx0 := hx.below hb0
  clear hW hx
  go_enter Try.func26, Try.ntmps26
  go_wp2_with fail
  rw [← HW.out]
  clear HW
  refine (implNetOk_any m A n c xs _ hn HX.out hx0).mono ?_
  rintro e w1 ⟨rfl, hb1⟩
  have b0 := cell_in hb1 b0
  have b1 := cell_in hb1 b1
  have b2 := cell_in hb1 b2
  have b3 := cell_in hb1 b3
  have hx1 := hx0.below hb1
  have hb1 := hb0.trans hb1
  clear hb0 hx0
  cases hB : netB m xs with
  | false =>
    have HB := Lib.hid hB
    clear hB
    go_wp2
    go_ret
    exact ⟨_, rfl, by simp only [costOfI, ofOkB, HB.out, Bool.false_and, Bool.false_eq_true, if_false]; exact Res.nil _ _, hb1⟩
  | true =>
    have HB := Lib.hid hB
    clear hB
    go_wp2_with fail
    refine (within_any p 100 _).mono ?_
    rintro e w2 ⟨rfl, rfl⟩
    cases hP : inB p 0 100 with
    | false =>
      have HP := Lib.hid hP
      clear hP
      go_wp2
      go_ret
      exact ⟨_, rfl, by simp only [costOfI, ofOkB, HP.out, Bool.false_and, Bool.and_false, Bool.false_eq_true, if_false]; exact Res.nil _ _, hb1⟩
    | true =>
      have HP := Lib.hid hP
      clear hP
      go_wp2_with fail
      refine (within_any q 100 _).mono ?_
      rintro e w2 ⟨rfl, rfl⟩
      cases hQ : inB q 0 100 with
      | false =>
        have HQ := Lib.hid hQ
        clear hQ
        go_wp2
        go_ret
        exact ⟨_, rfl, by simp only [costOfI, ofOkB, HQ.out, Bool.and_false, Bool.false_eq_true, if_false]; exact Res.nil _ _, hb1⟩
      | true =>
        have HO : Hid (ofOkB m xs p q = true) := (ofOkB_iff _ _ _ _).2 ⟨HB.out, HP.out, hQ⟩
        clear hQ
        go_wp2_with fail
        refine (costsByOf_any m A n c xs p q _ _ _ HX.out hx1 b2 b3 HO.out).mono ?_
        rintro e w3 ⟨v, rfl, hv, hb3⟩
        go_wp2
        go_ret
        exact ⟨_, rfl, by rw [costOfI, HO.out, if_pos rfl]; exact hv.lower hb1.size, hb1.trans hb3⟩

end Go.Proofs.Ytkmognandkamoaa
