/-
  FnNearAll answers true at every input: no arc makes anything nearer. No condition.
-/
import Derived.Test.YtlkphhidicfnjaaQTail
import Derived.Test.YtlkphhidicfnjaaDrawNearAll
import Derived.Test.YtlkphhidicfnjaaOpenB
import Derived.Test.YtlkphhidicfnjaaNAll
import Derived.Test.YtlkphhidicfnjaaSteps
import Derived.Test.YtlkphhidicfnjaaPWay
import Derived.Test.YtlkphhidicfnjaaRBool
import Derived.Test.YtlkphhidicfnjaaWkInts
namespace Go.Proofs.Ytlkphhidicfnjaa
open Go.ChangeShapes Go.WideShapes Go.ChangeAt Go.RowKit

/-- What is known to be reached behind the first i arcs. -/
structure HasI (ds : List Int) (xs : List ArcD) (M S i : Nat) (hs : List Bool) : Prop where
  len : hs.length = M
  here : hs[S]? = some true
  arcs : ∀ j a, j < i → xs[j]? = some a → at_ ds a.f < 99999 → at_ ds a.t = at_ ds a.f + a.c → hs[a.t.toNat]? = some true
theorem HasI.next {ds : List Int} {xs : List ArcD} {M S i : Nat} {hs : List Bool} {f t c l d : Int} {b x : Bool} (h : HasI ds xs M S i hs) (ha : xs[i]? = some ⟨f, t, c, l, d⟩) (hb : hs[t.toNat]? = some b) (hx : b = true → x = true) (hx2 : at_ ds f < 99999 → at_ ds t = at_ ds f + c → x = true) : HasI ds xs M S (i + 1) (hs.set t.toNat x) := by
  have hlt : t.toNat < hs.length := (List.getElem?_eq_some_iff.1 hb).1
  have keep : ∀ k, hs[k]? = some true → (hs.set t.toNat x)[k]? = some true := fun k hk => by
    rw [List.getElem?_set]
    by_cases e : t.toNat = k
    · subst e
      rw [hb] at hk
      injection hk with hk
      simp [hlt, hx hk]
    · rw [if_neg e]; exact hk
  refine ⟨by rw [List.length_set]; exact h.len, keep _ h.here, fun j a hj hja h1 h2 => ?_⟩
  rcases Nat.lt_or_ge j i with hlt' | hge
  · exact keep _ (h.arcs j a hlt' hja h1 h2)
  · obtain rfl : j = i := by omega
    rw [ha] at hja
    injection hja with hja
    subst hja
    rw [List.getElem?_set]
    simp [hlt, hx2 h1 h2]

set_option maxRecDepth 100000 in
set_option maxHeartbeats 20000000 in
theorem fnNearAll_walk (A : Option Addr) (n c : Nat) (w : World) (hn : n ≤ c) (hc : c ≤ maxLen) (hb : BytesAt w A n) :
    Calls Try.prog 3 #[.slice A n c] w fun e w' => e = .returned (.bool true) ∧ Below w.heap.size w w' := by
  by_cases h1 : 1048576 < n
  · have h1' : (1048576 : Int) < (n : Int) := by omega
    go_enter Try.func3, Try.ntmps3
    go_wp2
    go_ret
    exact ⟨rfl, Below.refl _ _⟩
  have h1' : ¬ (1048576 : Int) < (n : Int) := by omega
  go_enter Try.func3, Try.ntmps3
  go_wp2_with fail
  refine (drawNearAll_any A n c w hn hc hb).mono ?_
  rintro e w1 ⟨m, B, k, cap, xs, nd, rfl, hxk, hk, hx1, _, hb1⟩
  have HX := Lib.hid hxk
  clear hxk hb hn hc
  have hkk : k ≤ 1048576 := by omega
  have hpW : Past w1 (w1.alloc (.cells #[.int .i64 m, .slice B k cap] 25)) := (Past.refl w1).alloc _
  go_wp2_with fail
  refine (implNearAll_any m B k cap xs nd _ hkk HX.out (hx1.below hpW)).mono ?_
  rintro e w2 ⟨v2, rfl, hv2, hb2⟩
  have b0 := cell_in (p := ⟨w1.heap.size, 0, none⟩) (v := .int .i64 m) hb2 (by go_simp)
  have b1 := cell_in (p := ⟨w1.heap.size, 1, none⟩) (v := .slice B k cap) hb2 (by go_simp)
  have hx2 := (hx1.below hpW).below hb2
  have hp2 : Past w w2 := Past.trans hb1 (hpW.trans hb2)
  obtain ⟨X, cx, rfl, hs2, _⟩ := hv2.form
  obtain ⟨ps, hps⟩ : ∃ ps, ps = nearI m xs nd := ⟨_, rfl⟩
  rw [← hps] at hs2 ⊢
  obtain ⟨R, hR⟩ : ∃ R, R = ps.length := ⟨_, rfl⟩
  have hR1 : R ≤ 1048576 := by rw [hR, hps]; exact nearI_len m xs nd
  rw [← hR]
  have HPS := Lib.hid hps
  have HR := Lib.hid hR.symm
  clear hps hR hv2 hx1 hb1 hb2 hpW
  go_wp2_with fail
  refine (specNearAll_any m B k cap xs nd _ hkk HX.out hx2).mono ?_
  rintro e w3 ⟨v3, rfl, hv3, hb3⟩
  obtain ⟨F, cf, rfl, hs3, _⟩ := hv3.form
  rw [← HPS.out] at hs3 ⊢
  rw [HR.out]
  have b0 := cell_in hb3 b0
  have b1 := cell_in hb3 b1
  have hx3 := hx2.below hb3
  have hs23 := hs2.below hb3
  have hp3 := Past.trans hp2 hb3
  clear hv3 hx2 hs2 hb3 hp2
  go_wp2_with fail
  refine (wkInts_same X F R cx cf ps _ hR1 HR.out hs23 hs3).mono ?_
  rintro e w4 ⟨rfl, hb4⟩
  have b0 := cell_in hb4 b0
  have b1 := cell_in hb4 b1
  have hx4 := hx3.below hb4
  have hs4 := hs23.below hb4
  have hp4 := Past.trans hp3 hb4
  clear hx3 hs23 hs3 hb4 hp3
  cases hO : hereB m xs nd with
  | false =>
    obtain rfl : R = 0 := by rw [← HR.out, HPS.out, nearI, hO]; rfl
    clear hO
    go_wp2_with fail
    refine (specNearAll_any m B k cap xs nd _ hkk HX.out hx4).mono ?_
    rintro e w6 ⟨v6, rfl, hv6, hb6⟩
    obtain ⟨F, cf, rfl, hs6, _⟩ := hv6.form
    rw [← HPS.out] at hs6 ⊢
    rw [HR.out]
    go_wp2_with fail
    refine (wkInts_same X F 0 cx cf ps _ hR1 HR.out (hs4.below hb6) hs6).mono ?_
    rintro e w7 ⟨rfl, hb7⟩
    go_wp2
    go_ret
    exact ⟨rfl, (Past.trans hp4 hb6).trans hb7⟩
  | true =>
    obtain ⟨hN, hn0, hn1⟩ := (hereB_iff _ _ _).1 hO
    obtain ⟨M, rfl, hM1, hM8⟩ := here_nat hN
    have HN := Lib.hid hN
    have hps : ps = nearL M xs nd := by rw [HPS.out, nearI, hO, if_pos rfl, Int.toNat_natCast]
    obtain rfl : M = R := by rw [← HR.out, hps, nearL_length]
    have HP2 := Lib.hid hps
    obtain ⟨S, rfl⟩ : ∃ S : Nat, nd = (S : Int) := ⟨nd.toNat, by omega⟩
    have hnb : 0 ≤ (S : Int) ∧ (S : Int) < (M : Int) := ⟨hn0, hn1⟩
    have hin := arcsIn_net hN
    have hpl : ps.length = M := HR.out
    obtain ⟨gX, oX, rfl, _⟩ := hs4.cell (v := (S : Int)) hn0 (by omega)
    have hdc : ∀ v : Int, 0 ≤ v → v < M → w4.cell? ⟨gX, oX + v.toNat, none⟩ = some (.int .i64 (at_ ps v)) := fun v h0 h1 => by
      obtain ⟨g, o, e, h⟩ := hs4.cell (v := v) h0 (by omega)
      injection e with e
      injection e with e1 e2
      subst e1 e2
      exact h
    have hdb : ∀ v : Int, 0 ≤ v → v < M → 0 ≤ at_ ps v ∧ at_ ps v ≤ 99999 := fun v h0 h1 => by rw [hps]; exact nearL_bound hin hnb ⟨h0, h1⟩
    have harc : ∀ a ∈ xs, at_ ps a.f < 99999 → at_ ps a.t ≤ at_ ps a.f + a.c := fun a ha h => by rw [hps] at h ⊢; exact nearL_arc (by omega) hin hnb ha h
    have hlast : ∀ v : Int, 0 ≤ v → v < M → at_ ps v < 99999 → v = (S : Int) ∨ ∃ a ∈ xs, a.t = v ∧ at_ ps a.f < 99999 ∧ at_ ps v = at_ ps a.f + a.c := fun v h0 h1 h => by rw [hps] at h ⊢; exact nearL_last (by omega) hin hnb ⟨h0, h1⟩ h
    have hst0 : at_ ps (S : Int) = 0 := by rw [hps]; exact nearL_start (by omega) hin hnb
    have cS := hdc (S : Int) hn0 hn1
    rw [hst0, Int.toNat_natCast] at cS
    have HDC := Lib.hid hdc
    have HDB := Lib.hid hdb
    have HARC := Lib.hid harc
    have HLAST := Lib.hid hlast
    have HIN := Lib.hid hin
    have hM0 : ¬ (M : Int) = 0 := by omega
    have hM0' : ¬ M = 0 := by omega
    have hMb : ((M : Int) == 0) = false := by simpa using hM0
    have hmk := makeBool M (by omega)
    have hSM : S < M := by omega
    have hrow0 := rowB_start w4 M
    have hrowS := hrow0.set S true (by simp; exact hSM)
    obtain ⟨y0, ey0⟩ := hrow0.1.cell (i := S) (by simp; exact hSM)
    have zS := hrow0.1.frozen S
    have hb0' : Past w4 ((w4.alloc (.cells (madeCells #[.bool false] M) 4)).setCell ⟨w4.heap.size, S, none⟩ (.bool true)) := Below.setCell ((Past.refl w4).alloc _) (by simp) _
    have hEq : (w4.alloc (.cells (madeCells #[.bool false] M) 4)).setCell ⟨w4.heap.size, S, none⟩ (.bool true) = w4.alloc (.cells ((madeCells #[.bool false] M).setIfInBounds S (.bool true)) 4) := by go_simp
    rw [hEq] at hb0' hrowS
    have HST : Hid (HasI ps xs M S 0 ((List.replicate M false).set S true)) := ⟨by simp, by simp [hSM], fun j a hj => absurd hj (by omega)⟩
    clear hO hN hps hdc hdb harc hlast hin hs4 hrow0 hst0 hEq
    go_wp2
    go_loopw [7] (fun i wr => ∃ (j : Nat) (hs : List Bool), j ≤ k ∧ i = .int .i64 j ∧ Past w4 wr ∧ RowB wr w4.heap.size hs ∧ HasI ps xs M S j hs) (fun i _ => k - (intOf i).toNat)
    case atStart => exact ⟨0, _, by omega, rfl, hb0', hrowS, HST.out⟩
    case round =>
      obtain ⟨j, hs, hj, rfl, hbr, hrow, hH⟩ := hrel
      have b0r := cell_in hbr b0
      have b1r := cell_in hbr b1
      clear hrowS hb0' HST ey0 zS
      by_cases hlt : j < k
      · obtain ⟨⟨f, t, c', l, e⟩, ha⟩ : ∃ a, xs[j]? = some a := ⟨_, List.getElem?_eq_getElem (by have := HX.out; omega)⟩
        obtain ⟨g, o, rfl, c0, c1, c2, c3, c4⟩ := (hx4.below hbr) j _ ha
        have hbd := HIN.out _ (List.mem_of_getElem? ha)
        simp only at hbd
        have harc := HARC.out _ (List.mem_of_getElem? ha)
        simp only at harc
        obtain ⟨W1, hW1⟩ : ∃ W1, W1 = wr.alloc (.cells #[.int .i64 f, .int .i64 t, .int .i64 c', .int .i64 l, .int .i64 e] 33) := ⟨_, rfl⟩
        have e0 : W1.cell? ⟨wr.heap.size, 0, none⟩ = some (.int .i64 f) := by rw [hW1]; go_simp
        have e1 : W1.cell? ⟨wr.heap.size, 1, none⟩ = some (.int .i64 t) := by rw [hW1]; go_simp
        have e2 : W1.cell? ⟨wr.heap.size, 2, none⟩ = some (.int .i64 c') := by rw [hW1]; go_simp
        have hbW1 : Past wr W1 := by rw [hW1]; exact (Past.refl _).alloc _
        have hrow1 := hrow.below hbW1
        have hb1 := hbr.trans hbW1
        have df := cell_in hb1 (HDC.out f (by omega) (by omega))
        have dt := cell_in hb1 (HDC.out t (by omega) (by omega))
        have pf := HDB.out f (by omega) (by omega)
        have hlen := hH.len
        obtain ⟨bt, hbt⟩ : ∃ b, hs[t.toNat]? = some b := ⟨_, List.getElem?_eq_getElem (by omega)⟩
        have ct := hrow1.2 _ _ hbt
        have zt := hrow1.1.frozen t.toNat
        have j0 : (0 : Int) ≤ f := by omega
        have j1 : f < (M : Int) := by omega
        have j2 : (0 : Int) ≤ t := by omega
        have j3 : t < (M : Int) := by omega
        have k0 : (0 : Int) ≤ (j : Int) := by omega
        have k1 : (j : Int) < (k : Int) := by omega
        obtain ⟨p, hp⟩ : ∃ p, p = at_ ps f := ⟨_, rfl⟩
        obtain ⟨q, hq⟩ : ∃ q, q = at_ ps t := ⟨_, rfl⟩
        rw [← hp] at df pf harc
        rw [← hq] at dt harc
        have s1 : IntKind.i64.wrap (p + c') = p + c' := IntWalk.i64_in _ (by omega)
        have hnext := fun x => hH.next (x := x) (i := j) ha hbt
        simp only [← hp, ← hq] at hnext
        have htl : t.toNat < hs.length := by omega
        have HN1 := Lib.hid hnext
        have HW1 := Lib.hid hW1
        clear hW1 ha hbd hp hq hbt hnext hH hrow hbW1 hlen
        by_cases h1 : p < 99999
        · have g1 : decide (p < 99999) = true := by simpa using h1
          have hle := harc h1
          have hle' : ¬ (p + c' < q) := by omega
          clear harc
          cases bt with
          | true =>
            go_wp2_with fail
            rw [← HW1.out]
            go_quiet (fail)
            obtain ⟨W2, hW2⟩ : ∃ W2, W2 = W1.drewN nq := ⟨_, rfl⟩
            have e0 : W2.cell? ⟨wr.heap.size, 0, none⟩ = some (.int .i64 f) := by rw [hW2]; exact e0
            have e1 : W2.cell? ⟨wr.heap.size, 1, none⟩ = some (.int .i64 t) := by rw [hW2]; exact e1
            have e2 : W2.cell? ⟨wr.heap.size, 2, none⟩ = some (.int .i64 c') := by rw [hW2]; exact e2
            have df := cell_in (W := W1) (w1 := W2) (by rw [hW2]; exact (Past.refl W1).drewN nq) df
            have dt := cell_in (W := W1) (w1 := W2) (by rw [hW2]; exact (Past.refl W1).drewN nq) dt
            have ct := cell_in (W := W1) (w1 := W2) (by rw [hW2]; exact (Past.refl W1).drewN nq) ct
            have zt : W2.frozen? ⟨w4.heap.size, t.toNat, none⟩ = false := by rw [hW2]; exact zt
            have hrow2 : RowB W2.drew w4.heap.size hs := by rw [hW2]; exact hrow1
            have hb2 : Past w4 W2.drew := by rw [hW2]; exact (hb1.drewN nq).drew
            have HSET := Lib.hid (hrow2.set t.toNat true htl)
            have HB2 := Lib.hid (show Past w4 (W2.drew.setCell ⟨w4.heap.size, t.toNat, none⟩ (.bool true)) from Below.setCell hb2 (by simp) _)
            have HNX := Lib.hid (HN1.out true (fun _ => rfl) (fun _ _ => rfl))
            go_wp2_with fail
            rw [← hW2]
            clear hW2 hrow2 hb2 hrow1 hb1 HN1
            refine wp_region_quiet_tail 33 (by kernel_rfl) (by kernel_rfl) ?_
            simp only [List.take_succ_cons, List.take_zero, List.drop_succ_cons, List.drop_zero]
            repeat (go_big_quiet_step (fail))
            refine wpQuiet_nil ?_
            go_wp2
            go_roundw
            case rel => exact ⟨j + 1, _, by omega, by go_num, HB2.out, HSET.out, HNX.out⟩
            case measure => simp [intOf]; omega
          | false =>
            by_cases h2 : q = p + c'
            · have g2 : (q == p + c') = true := by simpa using h2
              clear h2
              go_wp2_with fail
              rw [← HW1.out]
              go_quiet (fail)
              obtain ⟨W2, hW2⟩ : ∃ W2, W2 = W1.drewN nq := ⟨_, rfl⟩
              have e0 : W2.cell? ⟨wr.heap.size, 0, none⟩ = some (.int .i64 f) := by rw [hW2]; exact e0
              have e1 : W2.cell? ⟨wr.heap.size, 1, none⟩ = some (.int .i64 t) := by rw [hW2]; exact e1
              have e2 : W2.cell? ⟨wr.heap.size, 2, none⟩ = some (.int .i64 c') := by rw [hW2]; exact e2
              have df := cell_in (W := W1) (w1 := W2) (by rw [hW2]; exact (Past.refl W1).drewN nq) df
              have dt := cell_in (W := W1) (w1 := W2) (by rw [hW2]; exact (Past.refl W1).drewN nq) dt
              have ct := cell_in (W := W1) (w1 := W2) (by rw [hW2]; exact (Past.refl W1).drewN nq) ct
              have zt : W2.frozen? ⟨w4.heap.size, t.toNat, none⟩ = false := by rw [hW2]; exact zt
              have hrow2 : RowB W2.drew w4.heap.size hs := by rw [hW2]; exact hrow1
              have hb2 : Past w4 W2.drew := by rw [hW2]; exact (hb1.drewN nq).drew
              have HSET := Lib.hid (hrow2.set t.toNat true htl)
              have HB2 := Lib.hid (show Past w4 (W2.drew.setCell ⟨w4.heap.size, t.toNat, none⟩ (.bool true)) from Below.setCell hb2 (by simp) _)
              have HNX := Lib.hid (HN1.out true (fun _ => rfl) (fun _ _ => rfl))
              go_wp2_with fail
              rw [← hW2]
              clear hW2 hrow2 hb2 hrow1 hb1 HN1
              refine wp_region_quiet_tail 33 (by kernel_rfl) (by kernel_rfl) ?_
              simp only [List.take_succ_cons, List.take_zero, List.drop_succ_cons, List.drop_zero]
              repeat (go_big_quiet_step (fail))
              refine wpQuiet_nil ?_
              go_wp2
              go_roundw
              case rel => exact ⟨j + 1, _, by omega, by go_num, HB2.out, HSET.out, HNX.out⟩
              case measure => simp [intOf]; omega
            · have g2 : (q == p + c') = false := by simpa using h2
              go_wp2_with fail
              rw [← HW1.out]
              go_quiet (fail)
              obtain ⟨W2, hW2⟩ : ∃ W2, W2 = W1.drewN nq := ⟨_, rfl⟩
              have e0 : W2.cell? ⟨wr.heap.size, 0, none⟩ = some (.int .i64 f) := by rw [hW2]; exact e0
              have e1 : W2.cell? ⟨wr.heap.size, 1, none⟩ = some (.int .i64 t) := by rw [hW2]; exact e1
              have e2 : W2.cell? ⟨wr.heap.size, 2, none⟩ = some (.int .i64 c') := by rw [hW2]; exact e2
              have df := cell_in (W := W1) (w1 := W2) (by rw [hW2]; exact (Past.refl W1).drewN nq) df
              have dt := cell_in (W := W1) (w1 := W2) (by rw [hW2]; exact (Past.refl W1).drewN nq) dt
              have ct := cell_in (W := W1) (w1 := W2) (by rw [hW2]; exact (Past.refl W1).drewN nq) ct
              have zt : W2.frozen? ⟨w4.heap.size, t.toNat, none⟩ = false := by rw [hW2]; exact zt
              have hrow2 : RowB W2.drew w4.heap.size hs := by rw [hW2]; exact hrow1
              have hb2 : Past w4 W2.drew := by rw [hW2]; exact (hb1.drewN nq).drew
              have HSET := Lib.hid (hrow2.set t.toNat false htl)
              have HB2 := Lib.hid (show Past w4 (W2.drew.setCell ⟨w4.heap.size, t.toNat, none⟩ (.bool false)) from Below.setCell hb2 (by simp) _)
              have HNX := Lib.hid (HN1.out false (fun e => by cases e) (fun _ e => absurd e h2))
              go_wp2_with fail
              rw [← hW2]
              clear hW2 hrow2 hb2 hrow1 hb1 HN1
              refine wp_region_quiet_tail 33 (by kernel_rfl) (by kernel_rfl) ?_
              simp only [List.take_succ_cons, List.take_zero, List.drop_succ_cons, List.drop_zero]
              repeat (go_big_quiet_step (fail))
              refine wpQuiet_nil ?_
              go_wp2
              go_roundw
              case rel => exact ⟨j + 1, _, by omega, by go_num, HB2.out, HSET.out, HNX.out⟩
              case measure => simp [intOf]; omega
        · obtain rfl : p = 99999 := by omega
          clear harc h1
          cases bt with
          | true =>
            go_wp2_with fail
            rw [← HW1.out]
            go_quiet (fail)
            obtain ⟨W2, hW2⟩ : ∃ W2, W2 = W1.drewN nq := ⟨_, rfl⟩
            have e0 : W2.cell? ⟨wr.heap.size, 0, none⟩ = some (.int .i64 f) := by rw [hW2]; exact e0
            have e1 : W2.cell? ⟨wr.heap.size, 1, none⟩ = some (.int .i64 t) := by rw [hW2]; exact e1
            have e2 : W2.cell? ⟨wr.heap.size, 2, none⟩ = some (.int .i64 c') := by rw [hW2]; exact e2
            have df := cell_in (W := W1) (w1 := W2) (by rw [hW2]; exact (Past.refl W1).drewN nq) df
            have dt := cell_in (W := W1) (w1 := W2) (by rw [hW2]; exact (Past.refl W1).drewN nq) dt
            have ct := cell_in (W := W1) (w1 := W2) (by rw [hW2]; exact (Past.refl W1).drewN nq) ct
            have zt : W2.frozen? ⟨w4.heap.size, t.toNat, none⟩ = false := by rw [hW2]; exact zt
            have hrow2 : RowB W2.drew w4.heap.size hs := by rw [hW2]; exact hrow1
            have hb2 : Past w4 W2.drew := by rw [hW2]; exact (hb1.drewN nq).drew
            have HSET := Lib.hid (hrow2.set t.toNat true htl)
            have HB2 := Lib.hid (show Past w4 (W2.drew.setCell ⟨w4.heap.size, t.toNat, none⟩ (.bool true)) from Below.setCell hb2 (by simp) _)
            have HNX := Lib.hid (HN1.out true (fun _ => rfl) (fun _ _ => rfl))
            go_wp2_with fail
            rw [← hW2]
            clear hW2 hrow2 hb2 hrow1 hb1 HN1
            refine wp_region_quiet_tail 33 (by kernel_rfl) (by kernel_rfl) ?_
            simp only [List.take_succ_cons, List.take_zero, List.drop_succ_cons, List.drop_zero]
            repeat (go_big_quiet_step (fail))
            refine wpQuiet_nil ?_
            go_wp2
            go_roundw
            case rel => exact ⟨j + 1, _, by omega, by go_num, HB2.out, HSET.out, HNX.out⟩
            case measure => simp [intOf]; omega
          | false =>
            go_wp2_with fail
            rw [← HW1.out]
            go_quiet (fail)
            obtain ⟨W2, hW2⟩ : ∃ W2, W2 = W1.drewN nq := ⟨_, rfl⟩
            have e0 : W2.cell? ⟨wr.heap.size, 0, none⟩ = some (.int .i64 f) := by rw [hW2]; exact e0
            have e1 : W2.cell? ⟨wr.heap.size, 1, none⟩ = some (.int .i64 t) := by rw [hW2]; exact e1
            have e2 : W2.cell? ⟨wr.heap.size, 2, none⟩ = some (.int .i64 c') := by rw [hW2]; exact e2
            have df := cell_in (W := W1) (w1 := W2) (by rw [hW2]; exact (Past.refl W1).drewN nq) df
            have dt := cell_in (W := W1) (w1 := W2) (by rw [hW2]; exact (Past.refl W1).drewN nq) dt
            have ct := cell_in (W := W1) (w1 := W2) (by rw [hW2]; exact (Past.refl W1).drewN nq) ct
            have zt : W2.frozen? ⟨w4.heap.size, t.toNat, none⟩ = false := by rw [hW2]; exact zt
            have hrow2 : RowB W2.drew w4.heap.size hs := by rw [hW2]; exact hrow1
            have hb2 : Past w4 W2.drew := by rw [hW2]; exact (hb1.drewN nq).drew
            have HSET := Lib.hid (hrow2.set t.toNat false htl)
            have HB2 := Lib.hid (show Past w4 (W2.drew.setCell ⟨w4.heap.size, t.toNat, none⟩ (.bool false)) from Below.setCell hb2 (by simp) _)
            have HNX := Lib.hid (HN1.out false (fun e => by cases e) (fun e => absurd e (by omega)))
            go_wp2_with fail
            rw [← hW2]
            clear hW2 hrow2 hb2 hrow1 hb1 HN1
            refine wp_region_quiet_tail 33 (by kernel_rfl) (by kernel_rfl) ?_
            simp only [List.take_succ_cons, List.take_zero, List.drop_succ_cons, List.drop_zero]
            repeat (go_big_quiet_step (fail))
            refine wpQuiet_nil ?_
            go_wp2
            go_roundw
            case rel => exact ⟨j + 1, _, by omega, by go_num, HB2.out, HSET.out, HNX.out⟩
            case measure => simp [intOf]; omega
      · obtain rfl : k = j := by omega
        have HDONE : Hid (∀ v : Nat, v < M → at_ ps (v : Int) < 99999 → hs[v]? = some true) := fun v hv h => by
          rcases HLAST.out (v : Int) (by omega) (by omega) h with e | ⟨a, ha, e1, e2, e3⟩
          · obtain rfl : v = S := by omega
            exact hH.here
          · obtain ⟨i, hi⟩ := List.getElem?_of_mem ha
            have := hH.arcs i a (by rw [← HX.out]; exact (List.getElem?_eq_some_iff.1 hi).1) hi e2 (by rw [e1]; exact e3)
            rw [e1, Int.toNat_natCast] at this
            exact this
        clear hH
        go_wp2
        go_loopw [9] (fun i wz => ∃ v : Nat, v ≤ M ∧ i = .int .i64 v ∧ Past wr wz) (fun i _ => M - (intOf i).toNat)
        case atStart => exact ⟨0, by omega, rfl, Past.refl _⟩
        case round =>
          obtain ⟨v, hv, rfl, hbz⟩ := hrel
          have hbq := hbr.trans hbz
          have b0z := cell_in hbq b0
          by_cases hvM : v < M
          · have v0 : (0 : Int) ≤ (v : Int) := by omega
            have v1 : (v : Int) < (M : Int) := by omega
            have dv := cell_in hbq (HDC.out (v : Int) v0 v1)
            have yb := HDB.out (v : Int) v0 v1
            have hdn := HDONE.out v hvM
            rw [Int.toNat_natCast] at dv
            obtain ⟨y, hy⟩ : ∃ y, y = at_ ps (v : Int) := ⟨_, rfl⟩
            rw [← hy] at dv yb hdn
            have y0 : ¬ (y < 0) := by omega
            have y1 : ¬ (99999 < y) := by omega
            clear hy
            by_cases hyf : y < 99999
            · have hvt := (hrow.below hbz).2 v true (hdn hyf)
              clear hdn
              go_wp2
              go_roundw
              case rel => exact ⟨v + 1, by omega, by go_num, hbz⟩
              case measure => simp [intOf]; omega
            · obtain rfl : y = 99999 := by omega
              clear hdn
              go_wp2
              go_roundw
              case rel => exact ⟨v + 1, by omega, by go_num, hbz⟩
              case measure => simp [intOf]; omega
          · obtain rfl : M = v := by omega
            have cSz := cell_in hbq cS
            go_wp2
            go_ret
            exact ⟨rfl, hp4.trans hbq⟩

set_option maxRecDepth 100000 in
theorem fnNearAll_lifted (os : Os) (started : os.Started) (H : Type) (enc : TypeId × Value → H) :
    ReturnsInHanded {} Try.checked os 3 .any (Rows.fnNearAllSpec.pre6 enc Try.prog Try.f3 Rows.fnNearAllRow.domain false) (Rows.fnNearAllSpec.post enc Try.prog Try.f3 false true false false) := by
  refine returnsInHanded_of_change (C := Try.checked) own started (by kernel_rfl) Try.func3
    (ChangeSpec.witness6 (enc := enc) (C := Try.checked) false ⟨#[], #[.slice none 0 0], []⟩ 8 (by kernel_rfl) (by kernel_rfl) (by kernel_rfl) (by kernel_rfl)) ?_
  intro W base args ds gs before hval0 hW hcnd _
  have hval : ∀ (j : Nat) t v, Try.f3.params[j]? = some t → args[j]? = some v → Value.okWide Try.prog W .any base t v := hval0
  have hW' := hW
  obtain ⟨p, q, hA0, hV, rfl, hfz, hnd⟩ := hW
  have hA : DataW.TrodAll enc Try.prog W 0 (fun _ => true) true Try.f3.params.toList args.toList ds p := hA0
  rw [Try.params3] at hA hval
  obtain ⟨v0, vs0, d0, ds0, p0, q0, hargs, rfl, rfl, h0, r0⟩ := trodAll_cons hA
  obtain ⟨rfl, rfl, rfl⟩ := trodAll_nil r0
  obtain rfl : args = #[v0] := by cases args; simp_all
  obtain ⟨rfl, rfl⟩ := trodVars_none hV
  have k0 := h0
  have lt0 := places_lt k0
  obtain ⟨A0, n0, c0, rfl, hn0, hc0, hb0⟩ := open_bytes (hval 0 22 v0 rfl rfl) h0
  clear hA0 hval0
  refine (fnNearAll_walk A0 n0 c0 W hn0 hc0 hb0).mono fun e W' ⟨he, bel⟩ => ?_
  subst he
  exact ⟨_, rfl, _, _, _, [], _, [], hW', trodAll_mk1 (shut_bool Try.underlying4 _), (trodAll_cons_mk (Below.trod laidOut (by kernel_rfl) (of_decide_eq_true (by kernel_rfl)) k0 bel lt0) trodAll_mk0), rfl, bel.frame _, fun h => by cases h⟩

/-- The given statement. -/
theorem fnNearAll_proved : Rows.FnNearAllSaid :=
  OpenClaim.holds_of_wide 3 Try.f3 rfl rfl rfl rfl rfl rfl rfl ⟨rfl, rfl, rfl, rfl, rfl⟩ rfl rfl rfl rfl rfl (by kernel_rfl) Try.func3 (by kernel_rfl)
    (of_decide_eq_true (by kernel_rfl)) (by unfold Func.isWrapper; first | (rw [if_pos (by decide +kernel)]; kernel_rfl) | (rw [if_neg (by decide +kernel)]; exact ⟨rfl, rfl⟩))
    (fun os started H enc _ => fnNearAll_lifted os started H enc)

end Go.Proofs.Ytlkphhidicfnjaa
