/-
  A cost for each arc, with heights taken off and put on: impl.CostLift, and what it calls. No condition.
-/
import Derived.Test.YtfhnkmakgijiaaaCMet
namespace Go.Proofs.Ytfhnkmakgijiaaa
open Go.RowKit

set_option maxRecDepth 100000 in
set_option maxHeartbeats 1000000 in
theorem costLift1_any (f t c' l' d x y : Int) (P : Nat) (B : Option Addr) (l cb : Nat) (hs : List Int) (w : World) (hp : w.cell? ⟨P, 0, none⟩ = some (.slice B l cb)) (hy : IntsAt w B hs) (hf : 0 ≤ f ∧ f < (l : Int)) (ht : 0 ≤ t ∧ t < (l : Int)) (q1 : hs[f.toNat]? = some x) (q2 : hs[t.toNat]? = some y) (hc : 0 ≤ c' ∧ c' ≤ 99) (hx : 0 ≤ x ∧ x ≤ 99) (hy' : 0 ≤ y ∧ y ≤ 99) :
    Calls Try.prog 64 #[.agg #[.int .i64 f, .int .i64 t, .int .i64 c', .int .i64 l', .int .i64 d], .pointer (some ⟨P, 0, none⟩)] w fun e w' => e = .returned (.int .i64 (c' - x + y)) ∧ Below w.heap.size w w' := by
  have hb0 : Past w (w.alloc (.cells #[.int .i64 f, .int .i64 t, .int .i64 c', .int .i64 l', .int .i64 d] 52)) := (Past.refl _).alloc _
  have hp := cell_in hb0 hp
  obtain ⟨g, o, rfl, c0⟩ := (hy.below hb0) _ _ q1
  obtain ⟨g1, o1, eg, c1⟩ := (hy.below hb0) _ _ q2
  injection eg with eg
  injection eg with eg1 eg2
  subst eg1 eg2
  have t1 : IntKind.i64.wrap (c' - x) = c' - x := IntWalk.i64_in _ (by omega)
  have t2 : IntKind.i64.wrap (c' - x + y) = c' - x + y := IntWalk.i64_in _ (by omega)
  have f0 := hf.1
  have f1 := hf.2
  have u0 := ht.1
  have u1 := ht.2
  clear q1 q2
  go_enter Try.func64, Try.ntmps64
  go_wp2_with fail
  go_quiet (fail)
  go_wp2
  go_ret
  exact ⟨rfl, hb0.drewN _⟩

set_option maxRecDepth 100000 in
set_option maxHeartbeats 1000000 in
theorem costsByLift_any (m : Int) (A : Option Addr) (n c : Nat) (xs : List ArcD) (B : Option Addr) (l cb : Nat) (hs : List Int) (P : Nat) (w : World) (hnx : xs.length = n) (hx : ArcsAt w A xs) (hly : hs.length = l) (hy : IntsAt w B hs) (hp : w.cell? ⟨P, 0, none⟩ = some (.slice B l cb)) (hO : highB m xs hs = true) :
    Calls Try.prog 61 #[.agg #[.int .i64 m, .slice A n c], .func (.func 64) #[] #[.pointer (some ⟨P, 0, none⟩)]] w (Gives w (liftsOf hs xs)) := by
  obtain ⟨hB, hlm, _⟩ := (highB_iff _ _ _).1 hO
  rw [hly] at hlm
  have h16 := net_num hB
  rw [hnx] at h16
  have HO := Lib.hid hO
  have HX := Lib.hid hnx
  have hmk := makeInt n (by omega)
  clear hnx hO hB
  obtain ⟨w1, hw1⟩ : ∃ w1, w1 = w.alloc (.cells #[.int .i64 m, .slice A n c] 29) := ⟨_, rfl⟩
  have hb0 : Past w w1 := by rw [hw1]; exact (Past.refl _).alloc _
  have hsz : w1.heap.size = w.heap.size + 1 := by rw [hw1]; simp
  have HS := Lib.hid hsz
  have hx1 := hx.below hb0
  have hy1 := hy.below hb0
  have hp := cell_in hb0 hp
  have b1 : w1.cell? ⟨w.heap.size, 1, none⟩ = some (.slice A n c) := by rw [hw1]; go_simp
  obtain ⟨cs, hcs⟩ : ∃ cs, cs = liftsOf hs xs := ⟨_, rfl⟩
  have HCC := Lib.hid hcs
  have hlc : cs.length = n := by rw [hcs, liftsOf, List.length_map, HX.out]
  have HLC := Lib.hid hlc
  have HW := Lib.hid hw1
  clear hcs hlc hw1 hx hsz
  go_enter Try.func61, Try.ntmps61
  go_wp2
  rw [← HW.out]
  clear HW
  go_loopw [15] (fun i wr => ∃ k : Nat, k ≤ n ∧ i = .int .i64 k ∧ Past w1 wr ∧ MadeI wr (w.heap.size + 1) 3 n cs k) (fun i _ => n - (intOf i).toNat)
  case atStart => exact ⟨0, by omega, rfl, (Past.refl w1).alloc _, by have := MadeI.start w1 3 n cs (madeCells #[.int .i64 0] n) (by simp [size_madeCells]); rw [HS.out] at this; exact this⟩
  case round =>
    obtain ⟨k, hk, rfl, hb, hm⟩ := hrel
    by_cases hlt : k < n
    · obtain ⟨⟨f, t, c', l', d⟩, ha⟩ : ∃ a, xs[k]? = some a := ⟨_, List.getElem?_eq_getElem (by have := HX.out; omega)⟩
      obtain ⟨g, o, rfl, d0, d1, d2, d3, d4⟩ := (hx1.below hb) k _ ha
      obtain ⟨x, y, q1, q2, bx, by_, bc, bf, bt, eo⟩ := lift_way HO.out ha
      simp only at q1 q2 bc bf bt eo
      have HA : Hid (cs[k]? = some (c' - x + y)) := by rw [Hid, HCC.out, liftsOf, List.getElem?_map, ha, ← eo]; rfl
      clear ha eo
      have i0 : (0 : Int) ≤ (k : Int) := by omega
      have i1 : (k : Int) < (n : Int) := by omega
      go_wp2_with fail
      refine (costLift1_any f t c' l' d x y P B l cb hs _ (cell_in ((Past.refl _).alloc _) (cell_in hb hp)) ((hy1.below hb).below ((Past.refl _).alloc _)) (by omega) (by omega) q1 q2 bc bx by_).mono ?_
      rintro e w2 ⟨rfl, hb2⟩
      have hb2 : Past wr w2 := ((Past.refl wr).alloc _).trans hb2
      have hm := hm.below hb2
      have hb := hb.trans hb2
      clear hb2 d0 d1 d2 d3 d4
      obtain ⟨z, hz⟩ : ∃ z, z = c' - x + y := ⟨_, rfl⟩
      rw [← hz] at HA ⊢
      clear hz
      obtain ⟨v0, e0⟩ := hm.1.cell (i := k) hlt
      have z0 := hm.1.frozen k
      have hnx := hm.next HA.out hlt
      go_wp2
      go_roundw
      case rel => exact ⟨k + 1, by omega, by go_num, Below.setCell hb (p := ⟨w.heap.size + 1, k, none⟩) (by rw [HS.out]; simp) _, hnx⟩
      case measure => simp [intOf]; omega
    · obtain rfl : n = k := by omega
      go_wp2
      go_ret
      exact ⟨_, rfl, by rw [← HCC.out]; exact (hm.row HLC.out).res HLC.out (by omega) (by omega), hb0.trans hb⟩

theorem lift_bad {m : Int} {xs : List ArcD} {hs : List Int} (h : highB m xs hs = false) : liftB m xs hs = false ∧ liftI m xs hs = [] := by
  have : liftB m xs hs = false := by rw [liftB, h, Bool.false_and]
  exact ⟨this, by rw [liftI, this]; rfl⟩

set_option maxRecDepth 100000 in
set_option maxHeartbeats 1000000 in
theorem implCostLift_any (m : Int) (A : Option Addr) (n c : Nat) (xs : List ArcD) (B : Option Addr) (l cb : Nat) (ys : List Int) (w : World) (hn : n ≤ 1048576) (hnx : xs.length = n) (hx : ArcsAt w A xs) (hl : l ≤ 1048576) (hly : ys.length = l) (hy : IntsAt w B ys) :
    Calls Try.prog 29 #[.agg #[.int .i64 m, .slice A n c], .slice B l cb] w (GivesB w (liftI m xs ys) (liftB m xs ys)) := by
  have HX := Lib.hid hnx
  have HY := Lib.hid hly
  clear hnx hly
  obtain ⟨W, hW⟩ : ∃ W, W = (w.alloc (.cells #[.int .i64 m, .slice A n c] 29)).alloc (.cells #[.slice B l cb] 25) := ⟨_, rfl⟩
  have hb0 : Past w W := by rw [hW]; exact ((Past.refl _).alloc _).alloc _
  have b0 : W.cell? ⟨w.heap.size, 0, none⟩ = some (.int .i64 m) := by rw [hW]; go_simp
  have b1 : W.cell? ⟨w.heap.size, 1, none⟩ = some (.slice A n c) := by rw [hW]; go_simp
  have b2 : W.cell? ⟨w.heap.size + 1, 0, none⟩ = some (.slice B l cb) := by rw [hW]; go_simp
  have HW := Lib.hid hW
  have hx0 := hx.below hb0
  have hy0 := hy.below hb0
  clear hW hx hy
  go_enter Try.func29, Try.ntmps29
  go_wp2_with fail
  rw [← HW.out]
  clear HW
  refine (implNetOk_any m A n c xs _ hn HX.out hx0).mono ?_
  rintro e w1 ⟨rfl, hb1⟩
  have b0 := cell_in hb1 b0
  have b1 := cell_in hb1 b1
  have b2 := cell_in hb1 b2
  have hx1 := hx0.below hb1
  have hy1 := hy0.below hb1
  have hb1 := hb0.trans hb1
  clear hb0 hx0 hy0
  cases hB : netB m xs with
  | false =>
    have HB := Lib.hid (lift_bad (m := m) (xs := xs) (hs := ys) (by rw [highB, hB]; rfl))
    clear hB
    go_wp2
    go_ret2
    exact ⟨_, by rw [HB.out.1]; rfl, by rw [HB.out.2]; exact Res.nil _ _, hb1⟩
  | true =>
    have HB := Lib.hid hB
    clear hB
    go_wp2_with fail
    refine (eachWithin_any B l cb ys m _ hl HY.out hy1).mono ?_
    rintro e w2 ⟨rfl, hb2⟩
    have hH : (decide ((ys.length : Int) = m) && allB ys) = highB m xs ys := by rw [highB, HB.out, Bool.true_and]
    rw [hH]
    have b0 := cell_in hb2 b0
    have b1 := cell_in hb2 b1
    have b2 := cell_in hb2 b2
    have hx2 := hx1.below hb2
    have hy2 := hy1.below hb2
    have hb2 := hb1.trans hb2
    clear hH hb1 hx1 hy1
    cases hC : highB m xs ys with
    | false =>
      have HC := Lib.hid (lift_bad hC)
      clear hC
      go_wp2
      go_ret2
      exact ⟨_, by rw [HC.out.1]; rfl, by rw [HC.out.2]; exact Res.nil _ _, hb2⟩
    | true =>
      have HC := Lib.hid hC
      clear hC
      go_wp2_with fail
      refine (costsByLift_any m A n c xs B l cb ys _ _ HX.out hx2 HY.out hy2 b2 HC.out).mono ?_
      rintro e w3 ⟨v, rfl, hv, hb3⟩
      have hcl : (liftsOf ys xs).length = n := by rw [liftsOf, List.length_map, HX.out]
      obtain ⟨D, cd, rfl, hd3, _⟩ := hv.form
      obtain ⟨cs, hcs⟩ : ∃ cs, cs = liftsOf ys xs := ⟨_, rfl⟩
      rw [← hcs] at hcl hv hd3 ⊢
      rw [hcl] at hv ⊢
      have HCL := Lib.hid hcl
      have HCS := Lib.hid hcs
      have b0 := cell_in hb3 b0
      have b1 := cell_in hb3 b1
      have hx3 := hx2.below hb3
      have hs2 := hb2.size
      have hb3 := hb2.trans hb3
      clear hcl hcs b2 hx2 hy2 hb2
      go_wp2_with fail
      refine (metricOk_any m A n c xs D n cd cs _ hn HX.out hx3 hn HCL.out hd3).mono ?_
      rintro e w4 ⟨rfl, hb4⟩
      have hM : metricB m xs cs = liftB m xs ys := by rw [metricB, HB.out, liftB, HC.out, HCL.out, HX.out, HCS.out]; simp
      rw [hM]
      have hv4 := (hv.below hb4).lower hs2
      have hb4 := hb3.trans hb4
      clear hM hv hb3
      cases hL : liftB m xs ys with
      | false =>
        have HL := Lib.hid hL
        clear hL
        go_wp2
        go_ret2
        exact ⟨_, by rw [HL.out]; rfl, by rw [liftI, HL.out]; exact Res.nil _ _, hb4⟩
      | true =>
        have HL := Lib.hid hL
        clear hL
        go_wp2
        go_ret2
        exact ⟨_, by rw [HL.out]; rfl, by rw [liftI, HL.out, if_pos rfl, ← HCS.out]; exact hv4, hb4⟩

end Go.Proofs.Ytfhnkmakgijiaaa
