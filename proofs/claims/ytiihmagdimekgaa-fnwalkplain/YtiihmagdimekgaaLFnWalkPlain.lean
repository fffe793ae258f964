/-
  FnWalkPlain answers true at every input: a walk without its rings comes to no node twice. No condition.
-/
import Derived.Test.YtiihmagdimekgaaDrawWalkPlain
import Derived.Test.YtiihmagdimekgaaOpenB
import Derived.Test.YtiihmagdimekgaaPlain2
import Derived.Test.YtiihmagdimekgaaPPlain
import Derived.Test.YtiihmagdimekgaaWkInts
import Derived.Test.YtiihmagdimekgaaWkIn
import Derived.Test.YtiihmagdimekgaaQPast
import Derived.Test.YtiihmagdimekgaaForm2
namespace Go.Proofs.Ytiihmagdimekgaa
open Go.ChangeShapes Go.WideShapes Go.ChangeAt Go.RowKit

/-- What the last line of the law reads. -/
structure PlainS (w0 W : World) (nb : Nat) (m : Int) (B : Option Addr) (k cap : Nat) (xs : List ArcD) (D : Option Addr) (zs : List Int) (X : Option Addr) (ps : List Int) (g o R g' o' L : Nat) (x0 x1 : Int) : Prop where
  past : Past w0 W
  arcs : ArcsAt W B xs
  walk : IntsAt W D zs
  plain : IntsAt W X ps
  c0 : W.cell? ⟨nb, 0, none⟩ = some (.int .i64 m)
  c1 : W.cell? ⟨nb, 1, none⟩ = some (.slice B k cap)
  d0 : W.cell? ⟨g, o, none⟩ = some (.int .i64 x0)
  d1 : W.cell? ⟨g, o + R, none⟩ = some (.int .i64 x1)
  e0 : W.cell? ⟨g', o', none⟩ = some (.int .i64 x0)
  e1 : W.cell? ⟨g', o' + L, none⟩ = some (.int .i64 x1)

theorem PlainS.below {w0 W W' : World} {nb : Nat} {m : Int} {B : Option Addr} {k cap : Nat} {xs : List ArcD} {D : Option Addr} {zs : List Int} {X : Option Addr} {ps : List Int} {g o R g' o' L : Nat} {x0 x1 : Int}
    (h : PlainS w0 W nb m B k cap xs D zs X ps g o R g' o' L x0 x1) (hb : Past W W') : PlainS w0 W' nb m B k cap xs D zs X ps g o R g' o' L x0 x1 :=
  ⟨h.past.trans hb, h.arcs.below hb, h.walk.below hb, h.plain.below hb, cell_in hb h.c0, cell_in hb h.c1, cell_in hb h.d0, cell_in hb h.d1, cell_in hb h.e0, cell_in hb h.e1⟩

set_option maxRecDepth 100000 in
set_option maxHeartbeats 4000000 in
theorem fnWalkPlain_walk (A : Option Addr) (n c : Nat) (w : World) (hn : n ≤ c) (hc : c ≤ maxLen) (hb : BytesAt w A n) :
    Calls Try.prog 14 #[.slice A n c] w fun e w' => e = .returned (.bool true) ∧ Below w.heap.size w w' := by
  by_cases h1 : 1048576 < n
  · have h1' : (1048576 : Int) < (n : Int) := by omega
    go_enter Try.func14, Try.ntmps14
    go_wp2
    go_ret
    exact ⟨rfl, Below.refl _ _⟩
  have h1' : ¬ (1048576 : Int) < (n : Int) := by omega
  go_enter Try.func14, Try.ntmps14
  go_wp2_with fail
  refine (drawWalkPlain_any A n c w hn hc hb).mono ?_
  rintro e w1 ⟨m, B, k, cap, xs, v, zs, rfl, hxk, hk, hx1, _, hzl, hv, hb1⟩
  obtain ⟨D, cd, rfl, hi1, _⟩ := hv.form
  obtain ⟨L, hL⟩ : ∃ L, L = zs.length := ⟨_, rfl⟩
  rw [← hL] at hzl ⊢
  have HL := Lib.hid hL.symm
  have HX := Lib.hid hxk
  clear hL hxk hv hb hn hc
  have hpW : Past w1 (w1.alloc (.cells #[.int .i64 m, .slice B k cap] 29)) := (Past.refl w1).alloc _
  go_wp2_with fail
  refine (implWalkPlain_any m B D k cap L cd xs zs _ (by omega) (by omega) HX.out HL.out (hx1.below hpW) (hi1.below hpW)).mono ?_
  rintro e w2 ⟨v2, rfl, hv2, hb2⟩
  have b0 := cell_in (p := ⟨w1.heap.size, 0, none⟩) (v := .int .i64 m) hb2 (by go_simp)
  have b1 := cell_in (p := ⟨w1.heap.size, 1, none⟩) (v := .slice B k cap) hb2 (by go_simp)
  have hx2 := (hx1.below hpW).below hb2
  have hi2 := (hi1.below hpW).below hb2
  have hp2 : Past w w2 := Past.trans hb1 (hpW.trans hb2)
  obtain ⟨X, cx, rfl, hs2, _⟩ := hv2.form
  obtain ⟨ps, hps⟩ : ∃ ps, ps = plainI m xs zs := ⟨_, rfl⟩
  rw [← hps] at hs2 ⊢
  obtain ⟨R, hR⟩ : ∃ R, R = ps.length := ⟨_, rfl⟩
  have hR1 : R ≤ 1048576 := by rw [hR, hps]; exact plainI_len m xs zs
  rw [← hR]
  have HPS := Lib.hid hps
  have HR := Lib.hid hR.symm
  clear hps hR hv2 hx1 hi1 hb1 hb2 hpW
  go_wp2_with fail
  refine (specWalkPlain_any m B D k cap L cd xs zs _ (by omega) (by omega) HX.out HL.out hx2 hi2).mono ?_
  rintro e w3 ⟨v3, rfl, hv3, hb3⟩
  obtain ⟨F, cf, rfl, hs3, _⟩ := hv3.form
  rw [← HPS.out] at hs3 ⊢
  rw [HR.out]
  have b0 := cell_in hb3 b0
  have b1 := cell_in hb3 b1
  have hx3 := hx2.below hb3
  have hi3 := hi2.below hb3
  have hs23 := hs2.below hb3
  have hp3 := Past.trans hp2 hb3
  clear hv3 hx2 hi2 hs2 hb3 hp2
  go_wp2_with fail
  refine (wkInts_same X F R cx cf ps _ hR1 HR.out hs23 hs3).mono ?_
  rintro e w4 ⟨rfl, hb4⟩
  have b0 := cell_in hb4 b0
  have b1 := cell_in hb4 b1
  have hx4 := hx3.below hb4
  have hi4 := hi3.below hb4
  have hs4 := hs23.below hb4
  have hp4 := Past.trans hp3 hb4
  clear hx3 hi3 hs23 hs3 hb4 hp3
  go_wp2_with fail
  refine (implWalkOk_any m B D k cap L cd xs zs _ (by omega) (by omega) HX.out HL.out hx4 hi4).mono ?_
  rintro e w5 ⟨rfl, hb5⟩
  have b0 := cell_in hb5 b0
  have b1 := cell_in hb5 b1
  have hx5 := hx4.below hb5
  have hi5 := hi4.below hb5
  have hs5 := hs4.below hb5
  have hp5 := Past.trans hp4 hb5
  clear hx4 hi4 hs4 hb5 hp4
  cases hO : okB m xs zs with
  | false =>
    clear hO
    go_wp2_with fail
    refine (specWalkPlain_any m B D k cap L cd xs zs _ (by omega) (by omega) HX.out HL.out hx5 hi5).mono ?_
    rintro e w6 ⟨v6, rfl, hv6, hb6⟩
    obtain ⟨F, cf, rfl, hs6, _⟩ := hv6.form
    rw [← HPS.out] at hs6 ⊢
    rw [HR.out]
    go_wp2_with fail
    refine (wkInts_same X F R cx cf ps _ hR1 HR.out (hs5.below hb6) hs6).mono ?_
    rintro e w7 ⟨rfl, hb7⟩
    go_wp2
    go_ret
    exact ⟨rfl, (Past.trans hp5 hb6).trans hb7⟩
  | true =>
    have HO := Lib.hid hO
    clear hO
    by_cases hR0 : R = 0
    · subst hR0
      have h00 : (plainI m xs zs).length = 0 := by rw [← HPS.out]; exact HR.out
      by_cases hL0 : L = 0
      · subst hL0
        clear h00
        go_wp2_with fail
        go_quiet (fail)
        go_wp2
        go_ret
        exact ⟨rfl, hp5.drewN _⟩
      · have he := plain_none HO.out h00 (by rw [HL.out]; exact hL0)
        rw [HL.out] at he
        obtain ⟨q, hq⟩ : ∃ q, q = L - 1 := ⟨_, rfl⟩
        rw [← hq] at he
        obtain ⟨y0, ha0⟩ : ∃ a, zs[0]? = some a := ⟨_, List.getElem?_eq_getElem (by have := HL.out; omega)⟩
        obtain ⟨y1, ha1⟩ : ∃ a, zs[q]? = some a := ⟨_, List.getElem?_eq_getElem (by have := HL.out; omega)⟩
        obtain ⟨p0, ⟨f, t, c', l', d⟩, rfl, hq0, _, _, he0⟩ := ok_arc HO.out ha0
        obtain ⟨p1, ⟨f2, t2, c2, l2, d2⟩, rfl, hq1, _, _, he1⟩ := ok_arc HO.out ha1
        rw [he0, he1] at he
        simp only at he
        subst he
        obtain ⟨g, o, rfl, z0⟩ := hi5 0 _ ha0
        rw [Nat.add_zero] at z0
        obtain ⟨g2, o2, eE, z1⟩ := hi5 q _ ha1
        injection eE with eE
        injection eE with eE1 eE2
        subst eE1 eE2
        obtain ⟨g3, o3, rfl, d0, d1, _, _, _⟩ := hx5 p0 _ hq0
        obtain ⟨g4, o4, eE, f0, f1, _, _, _⟩ := hx5 p1 _ hq1
        injection eE with eE
        injection eE with eE1 eE2
        subst eE1 eE2
        have hk0 : p0 < k := by rw [← HX.out]; exact (List.getElem?_eq_some_iff.1 hq0).1
        have hk1 : p1 < k := by rw [← HX.out]; exact (List.getElem?_eq_some_iff.1 hq1).1
        have i0 : (0 : Int) < (L : Int) := by omega
        have i0' : 0 < L := by omega
        have i1 : (q : Int) < (L : Int) := by omega
        have i2 : (0 : Int) ≤ (q : Int) := by omega
        have j0 : (0 : Int) ≤ (p0 : Int) := by omega
        have j1 : (p0 : Int) < (k : Int) := by omega
        have j2 : (0 : Int) ≤ (p1 : Int) := by omega
        have j3 : (p1 : Int) < (k : Int) := by omega
        have hw : IntKind.i64.wrap ((L : Int) - 1) = (q : Int) := by rw [IntWalk.i64_in _ (by omega)]; omega
        have hL1 : ¬ ((L : Int) = 0) := by omega
        clear ha0 ha1 hq0 hq1 he0 he1 hq h00 hx5 hi5 hs5
        go_wp2_with fail
        go_quiet (fail)
        go_wp2
        go_ret
        exact ⟨rfl, hp5.drewN _⟩
    have hR2 : ¬ ((R : Int) = 0) := by omega
    have hR3 : ((R : Int) == 0) = false := by simpa using hR2
    obtain ⟨hL0, hPl⟩ := plains HO.out (by rw [← HPS.out, HR.out]; exact hR0)
    rw [← HPS.out] at hPl
    have HPl := Lib.hid hPl
    have hL2 : ¬ (L = 0) := by rw [← HL.out]; exact hL0
    clear hPl hL0
    go_wp2_with fail
    refine (implWalkNodes_any m B X k cap R cx xs ps _ (by omega) hR1 HX.out HR.out hx5 hs5).mono ?_
    rintro e w6 ⟨v6, rfl, hv6, hb6⟩
    obtain ⟨E, ce, rfl, hn6, hNc, hcm, _⟩ := hv6.form2
    obtain ⟨ss, hss⟩ : ∃ ss, ss = nodesI m xs ps := ⟨_, rfl⟩
    rw [← hss] at hn6 hNc ⊢
    obtain ⟨N, hN⟩ : ∃ N, N = ss.length := ⟨_, rfl⟩
    have hNR : N = R + 1 := by rw [hN, hss, HPl.out.len, HR.out]
    rw [← hN] at hNc ⊢
    have HSS := Lib.hid hss
    have HN := Lib.hid hN.symm
    have b0 := cell_in hb6 b0
    have b1 := cell_in hb6 b1
    have hx6 := hx5.below hb6
    have hi6 := hi5.below hb6
    have hs6 := hs5.below hb6
    have hp6 := Past.trans hp5 hb6
    have HNR := Lib.hid hNR
    have hN9 : N ≤ 1048577 := by omega
    clear hss hN hv6 hx5 hi5 hs5 hb6 hp5 hNR
    go_wp2
    go_loopw [7] (fun i wr => ∃ j : Nat, j ≤ N ∧ i = .int .i64 j ∧ Past w6 wr) (fun i _ => N - (intOf i).toNat)
    case atStart => exact ⟨0, by omega, rfl, Past.refl _⟩
    case round =>
      obtain ⟨j, hj, rfl, hbr⟩ := hrel
      have b0 := cell_in hbr b0
      have b1 := cell_in hbr b1
      by_cases hlt : j < N
      · obtain ⟨y, ha⟩ : ∃ a, ss[j]? = some a := ⟨_, List.getElem?_eq_getElem (by have := HN.out; omega)⟩
        have hnot : y ∉ ss.take j := by
          intro h
          have hnd : ss.Nodup := by rw [HSS.out]; exact HPl.out.nodup
          obtain ⟨i, hi, e⟩ := List.mem_iff_getElem.1 h
          rw [List.length_take] at hi
          rw [List.getElem_take] at e
          have := (List.getElem?_inj (i := i) (j := j) (by omega) hnd).1 (by rw [ha, List.getElem?_eq_getElem (by omega), e])
          omega
        have hit : IntsAt wr E (ss.take j) := fun i x hix => (hn6.below hbr) i x (by rw [List.getElem?_take] at hix; split at hix; exact hix; cases hix)
        have htl : (ss.take j).length = j := by rw [List.length_take, HN.out]; omega
        obtain ⟨g, o, rfl, e0⟩ := (hn6.below hbr) j _ ha
        have C1 := Lib.hid (fun q : PastOf wr => (wkIn_not (some ⟨g, o, none⟩) j ce (ss.take j) y q.W (by have := HNR.out; omega) htl (hit.below q.h) hnot))
        have E0 := past_cell e0
        have i0 : (0 : Int) ≤ (j : Int) := by omega
        have i1 : (j : Int) < (N : Int) := by omega
        have i2 : (j : Int) ≤ (ce : Int) := by omega
        have i3 : (j : Int) ≤ (N : Int) := by omega
        clear ha hnot hit htl
        go_wp2_with fail
        refine wp_region_past (by kernel_rfl) (by kernel_rfl) ?_
        repeat (quiet_step (with_reducible exact rfl))
        quiet_step ((go_at_call 45; exact past_call (C1.out _)))
        refine wpQuiet_nil ?_
        rintro _ ⟨⟨W8, hW8⟩, rfl⟩
        go_wp2
        go_roundw
        case rel => exact ⟨j + 1, by omega, by go_num, hbr.trans hW8⟩
        case measure => simp [intOf]; omega
      · obtain rfl : N = j := by omega
        have hx7 := hx6.below hbr
        have hi7 := hi6.below hbr
        have hs7 := hs6.below hbr
        have hn7 := hn6.below hbr
        have hp7 := Past.trans hp6 hbr
        clear hx6 hi6 hs6 hn6 hp6
        go_wp2_with fail
        refine (implWalkNodes_any m B D k cap L cd xs zs _ (by omega) (by omega) HX.out HL.out hx7 hi7).mono ?_
        rintro e w8 ⟨v8, rfl, hv8, hb8⟩
        obtain ⟨G, cg, rfl, hm8, _⟩ := hv8.form
        obtain ⟨ts, hts⟩ : ∃ ts, ts = nodesI m xs zs := ⟨_, rfl⟩
        rw [← hts] at hm8 ⊢
        obtain ⟨M, hM⟩ : ∃ M, M = ts.length := ⟨_, rfl⟩
        have hML : M = L + 1 := by rw [hM, hts, nodesI, if_pos HO.out, nodesW_length (by rw [HL.out]; exact hL2), HL.out]
        rw [← hM]
        have hfst : ss[0]? = ts[0]? := by rw [HSS.out, hts]; exact HPl.out.first
        have hlst : ss[R]? = ts[L]? := by have := HPl.out.last; rw [HR.out, HL.out] at this; rw [HSS.out, hts]; exact this
        obtain ⟨x0, hx0⟩ : ∃ a, ss[0]? = some a := ⟨_, List.getElem?_eq_getElem (by have := HN.out; have := HNR.out; omega)⟩
        obtain ⟨x1, hx1⟩ : ∃ a, ss[R]? = some a := ⟨_, List.getElem?_eq_getElem (by have := HN.out; have := HNR.out; omega)⟩
        rw [hx0] at hfst
        rw [hx1] at hlst
        have hn8 := hn7.below hb8
        obtain ⟨g, o, rfl, d0⟩ := hn8 0 _ hx0
        obtain ⟨g1, o1, eE, d1⟩ := hn8 R _ hx1
        injection eE with eE
        injection eE with eE1 eE2
        subst eE1 eE2
        obtain ⟨g', o', rfl, e0⟩ := hm8 0 _ hfst.symm
        obtain ⟨g2, o2, eE, e1⟩ := hm8 L _ hlst.symm
        injection eE with eE
        injection eE with eE1 eE2
        subst eE1 eE2
        rw [Nat.add_zero] at d0 e0
        have hS : PlainS w w8.drew w1.heap.size m B k cap xs D zs X ps g o R g' o' L x0 x1 :=
          ⟨(hp7.trans hb8).drew, (hx7.below hb8).drew, (hi7.below hb8).drew, (hs7.below hb8).drew, cell_in (Past.drew hb8) b0, cell_in (Past.drew hb8) b1, d0, d1, e0, e1⟩
        have b0 := cell_in hb8 b0
        have b1 := cell_in hb8 b1
        have HOP := Lib.hid HPl.out.ok
        have HSF := Lib.hid HPl.out.self
        obtain ⟨S, hS1⟩ : ∃ S, S = costI m xs ps := ⟨_, rfl⟩
        obtain ⟨T, hT1⟩ : ∃ T, T = costI m xs zs := ⟨_, rfl⟩
        have hST : S ≤ T := by rw [hS1, hT1]; exact HPl.out.cost
        have HS1 := Lib.hid hS1
        have HT1 := Lib.hid hT1
        have hw1 : IntKind.i64.wrap ((N : Int) - 1) = (R : Int) := by have := HNR.out; rw [IntWalk.i64_in _ (by omega)]; omega
        have hw2 : IntKind.i64.wrap ((M : Int) - 1) = (L : Int) := by rw [IntWalk.i64_in _ (by omega)]; omega
        have i0 : (0 : Int) < (N : Int) := by have := HNR.out; omega
        have i1 : (0 : Int) < (M : Int) := by omega
        have i0' : 0 < N := by have := HNR.out; omega
        have i1' : 0 < M := by omega
        have i2 : (R : Int) < (N : Int) := by have := HNR.out; omega
        have i3 : (L : Int) < (M : Int) := by omega
        have i4 : (0 : Int) ≤ (R : Int) := by omega
        have i5 : (0 : Int) ≤ (L : Int) := by omega
        have hkk : k ≤ 1048576 := by omega
        have hLL : L ≤ 1048576 := by omega
        clear hS1 hT1 hx0 hx1 hfst hlst hn8 hm8 hn7 hx7 hi7 hs7 hts hM hML hv8 hb8
        go_upto_region 16 with (fail)
        go_region_held3 (fun w' => w'.cell? ⟨w1.heap.size, 0, none⟩ = some (.int .i64 m) ∧ w'.cell? ⟨w1.heap.size, 1, none⟩ = some (.slice B k cap) ∧ w'.cell? ⟨g, o, none⟩ = some (.int .i64 x0) ∧ w'.cell? ⟨g, o + R, none⟩ = some (.int .i64 x1) ∧ w'.cell? ⟨g', o', none⟩ = some (.int .i64 x0) ∧ w'.cell? ⟨g', o' + L, none⟩ = some (.int .i64 x1))
          (go_keep)
          (first
            | (go_at_call 31; refine (implWalkOk_any m B X k cap R cx xs ps _ hkk hR1 HX.out HR.out hS.arcs hS.plain).mono ?_; rintro e w9 ⟨rfl, hb9⟩; rw [HOP.out]; have hS := hS.below hb9; have b0 := hS.c0; have b1 := hS.c1; have d0 := hS.d0; have d1 := hS.d1; have e0 := hS.e0; have e1 := hS.e1)
            | (go_at_call 33; have _mk := MK; refine (implWalkCost_any m B D k cap L cd xs zs _ hkk hLL HX.out HL.out hS.arcs hS.walk).mono ?_; rintro e w9 ⟨rfl, hb9⟩; rw [← HT1.out]; have hS := hS.below hb9; have b0 := hS.c0; have b1 := hS.c1; have d0 := hS.d0; have d1 := hS.d1; have e0 := hS.e0; have e1 := hS.e1)
            | (go_at_call 33; refine (implWalkCost_any m B X k cap R cx xs ps _ hkk hR1 HX.out HR.out hS.arcs hS.plain).mono ?_; rintro e w9 ⟨rfl, hb9⟩; have MK : True := trivial; rw [← HS1.out]; have hS := hS.below hb9; have b0 := hS.c0; have b1 := hS.c1; have d0 := hS.d0; have d1 := hS.d1; have e0 := hS.e0; have e1 := hS.e1)
            | (go_at_call 39; refine (implWalkPlain_any m B X k cap R cx xs ps _ hkk hR1 HX.out HR.out hS.arcs hS.plain).mono ?_; rintro e w9 ⟨v9, rfl, hv9, hb9⟩; rw [HSF.out] at hv9; obtain ⟨Y, cy, rfl, hy9, _⟩ := hv9.form; rw [HR.out]; have hS := hS.below hb9; have b0 := hS.c0; have b1 := hS.c1; have d0 := hS.d0; have d1 := hS.d1; have e0 := hS.e0; have e1 := hS.e1)
            | (go_at_call 43; refine (wkInts_same Y X R cy cx ps _ hR1 HR.out hy9 hS.plain).mono ?_; rintro e w9 ⟨rfl, hb9⟩; have hS := hS.below hb9; have b0 := hS.c0; have b1 := hS.c1; have d0 := hS.d0; have d1 := hS.d1; have e0 := hS.e0; have e1 := hS.e1))
        go_wp2
        go_ret
        exact ⟨rfl, hS.past⟩

set_option maxRecDepth 100000 in
theorem fnWalkPlain_lifted (os : Os) (started : os.Started) (H : Type) (enc : TypeId × Value → H) :
    ReturnsInHanded {} Try.checked os 14 .any (Rows.fnWalkPlainSpec.pre6 enc Try.prog Try.f14 Rows.fnWalkPlainRow.domain false) (Rows.fnWalkPlainSpec.post enc Try.prog Try.f14 false true false false) := by
  refine returnsInHanded_of_change (C := Try.checked) own started (by kernel_rfl) Try.func14
    (ChangeSpec.witness6 (enc := enc) (C := Try.checked) false ⟨#[], #[.slice none 0 0], []⟩ 8 (by kernel_rfl) (by kernel_rfl) (by kernel_rfl) (by kernel_rfl)) ?_
  intro W base args ds gs before hval0 hW hcnd _
  have hval : ∀ (j : Nat) t v, Try.f14.params[j]? = some t → args[j]? = some v → Value.okWide Try.prog W .any base t v := hval0
  have hW' := hW
  obtain ⟨p, q, hA0, hV, rfl, hfz, hnd⟩ := hW
  have hA : DataW.TrodAll enc Try.prog W 0 (fun _ => true) true Try.f14.params.toList args.toList ds p := hA0
  rw [Try.params14] at hA hval
  obtain ⟨v0, vs0, d0, ds0, p0, q0, hargs, rfl, rfl, h0, r0⟩ := trodAll_cons hA
  obtain ⟨rfl, rfl, rfl⟩ := trodAll_nil r0
  obtain rfl : args = #[v0] := by cases args; simp_all
  obtain ⟨rfl, rfl⟩ := trodVars_none hV
  have k0 := h0
  have lt0 := places_lt k0
  obtain ⟨A0, n0, c0, rfl, hn0, hc0, hb0⟩ := open_bytes (hval 0 48 v0 rfl rfl) h0
  clear hA0 hval0
  refine (fnWalkPlain_walk A0 n0 c0 W hn0 hc0 hb0).mono fun e W' ⟨he, bel⟩ => ?_
  subst he
  exact ⟨_, rfl, _, _, _, [], _, [], hW', trodAll_mk1 (shut_bool Try.underlying4 _), (trodAll_cons_mk (Below.trod laidOut (by kernel_rfl) (of_decide_eq_true (by kernel_rfl)) k0 bel lt0) trodAll_mk0), rfl, bel.frame _, fun h => by cases h⟩

/-- The given statement. -/
theorem fnWalkPlain_proved : Rows.FnWalkPlainSaid :=
  OpenClaim.holds_of_wide 14 Try.f14 rfl rfl rfl rfl rfl rfl rfl ⟨rfl, rfl, rfl, rfl, rfl⟩ rfl rfl rfl rfl rfl (by kernel_rfl) Try.func14 (by kernel_rfl)
    (of_decide_eq_true (by kernel_rfl)) (by unfold Func.isWrapper; first | (rw [if_pos (by decide +kernel)]; kernel_rfl) | (rw [if_neg (by decide +kernel)]; exact ⟨rfl, rfl⟩))
    (fun os started H enc _ => fnWalkPlain_lifted os started H enc)

end Go.Proofs.Ytiihmagdimekgaa
