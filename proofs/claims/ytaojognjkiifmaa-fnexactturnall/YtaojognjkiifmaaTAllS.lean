/-
  What it costs at least to each node where turns cost, as the specification goes: spec.l4All, spec.TurnAll. No condition.
-/
import Derived.Test.YtaojognjkiifmaaTArcsS
namespace Go.Proofs.Ytaojognjkiifmaa
open Go.RowKit

/-- To each node what it costs to end with an arc that leads there. -/
def intoTo (xs : List ArcD) (d o : List Int) : Nat → List Int
  | 0 => o
  | k + 1 => match xs[k]? with
    | some a => if at_ d (k : Int) < at_ (intoTo xs d o k) a.t then (intoTo xs d o k).set a.t.toNat (at_ d (k : Int)) else intoTo xs d o k
    | none => intoTo xs d o k
theorem intoTo_length (xs : List ArcD) (d o : List Int) : ∀ k, (intoTo xs d o k).length = o.length
  | 0 => rfl
  | k + 1 => by
    have h := intoTo_length xs d o k
    unfold intoTo
    split
    · split
      · rw [List.length_set]; exact h
      · exact h
    · exact h
theorem intoTo_next {xs : List ArcD} {d o : List Int} {k : Nat} {a : ArcD} (ha : xs[k]? = some a) : intoTo xs d o (k + 1) = if at_ d (k : Int) < at_ (intoTo xs d o k) a.t then (intoTo xs d o k).set a.t.toNat (at_ d (k : Int)) else intoTo xs d o k := by
  rw [intoTo, ha]
def tallL (m : Nat) (xs : List ArcD) (ts : List TurnD) (s : Int) : List Int := intoTo xs (arcsL xs ts s) (start m s) xs.length
theorem tallL_length (m : Nat) (xs : List ArcD) (ts : List TurnD) (s : Int) : (tallL m xs ts s).length = m := by rw [tallL, intoTo_length, start_length]

set_option maxRecDepth 100000 in
set_option maxHeartbeats 4000000 in
theorem l4All_any (m : Nat) (A : Option Addr) (n c : Nat) (xs : List ArcD) (B : Option Addr) (l cb : Nat) (ts : List TurnD) (s : Int) (w : World) (hnx : xs.length = n) (hx : ArcsAt w A xs) (hl : l ≤ 1048576) (hlt : ts.length = l) (ht : TurnsAt w B ts) (hT : turnsB m xs ts = true) (hs : 0 ≤ s ∧ s < m) :
    Calls Try.prog 58 #[.agg #[.int .i64 (m : Int), .slice A n c], .slice B l cb, .int .i64 s] w (Gives w (tallL m xs ts s)) := by
  obtain ⟨hs0, hs1⟩ := hs
  have hn16 : n ≤ 16 := by rw [← hnx]; exact ((netB_iff _ _).1 (turnsB_all hT).1).2.1
  have hm8 : m ≤ 8 := by have := ((netB_iff _ _).1 (turnsB_all hT).1).1; omega
  have HIN := Lib.hid (arcsIn_net (turnsB_all hT).1)
  have HX := Lib.hid hnx
  have HL := Lib.hid hlt
  have HT := Lib.hid hT
  clear hnx hlt hT
  have hmk := makeInt m (by omega)
  have hb0 : Past w (w.alloc (.cells #[.int .i64 (m : Int), .slice A n c] 32)) := (Past.refl _).alloc _
  go_enter Try.func58, Try.ntmps58
  go_wp2_with fail
  refine (l4Arcs_any (m : Int) A n c xs B l cb ts s _ HX.out (hx.below hb0) hl HL.out (ht.below hb0) HT.out).mono ?_
  rintro e W ⟨v, rfl, hv, hbW⟩
  have b0 := cell_in (p := ⟨w.heap.size, 0, none⟩) (v := .int .i64 (m : Int)) hbW (by go_simp)
  have b1 := cell_in (p := ⟨w.heap.size, 1, none⟩) (v := .slice A n c) hbW (by go_simp)
  obtain ⟨F, cf, rfl, hd, _⟩ := hv.form
  rw [arcsL_length, HX.out]
  obtain ⟨E, hE⟩ : ∃ E, E = arcsL xs ts s := ⟨_, rfl⟩
  have hEl : E.length = n := by rw [hE, arcsL_length, HX.out]
  rw [← hE] at hd
  have HE := Lib.hid hE
  have hxW := (hx.below hb0).below hbW
  have hp0 : Past w W := hb0.trans hbW
  have hw0 := hp0.size
  clear hE hv hbW
  go_wp2
  go_loopw [9] (fun i wr => ∃ k : Nat, k ≤ m ∧ i = .int .i64 k ∧ Past W wr ∧ MadeI wr W.heap.size 3 m (List.replicate m farI) k) (fun i _ => m - (intOf i).toNat)
  case atStart => exact ⟨0, by omega, rfl, (Past.refl _).alloc _, MadeI.start W 3 m (List.replicate m farI) (madeCells #[.int .i64 0] m) (by simp [size_madeCells])⟩
  case round =>
    obtain ⟨k, hk, rfl, hb, hmd⟩ := hrel
    have b0' := cell_in hb b0
    by_cases hlt : k < m
    · have HF : Hid ((List.replicate m farI)[k]? = some farI) := by rw [Hid, List.getElem?_replicate, if_pos hlt]
      obtain ⟨v0, e0⟩ := hmd.1.cell (i := k) hlt
      have z0 := hmd.1.frozen k
      go_wp2
      go_roundw
      case rel => exact ⟨k + 1, by omega, by go_num, Below.setCell hb (by simp) _, hmd.next HF.out hlt⟩
      case measure => simp [intOf]; omega
    · obtain rfl : m = k := by omega
      have hrow : RowI wr W.heap.size (List.replicate m farI) := hmd.row (by simp)
      have hst := hrow.set s.toNat 0 (by simp; omega)
      have HST : Hid (RowI (wr.setCell ⟨W.heap.size, s.toNat, none⟩ (.int .i64 0)) W.heap.size (intoTo xs E (start m s) 0)) := hst
      obtain ⟨v0, e0⟩ := hmd.1.cell (i := s.toNat) (by omega)
      have z0 := hmd.1.frozen s.toNat
      have hbs : Past W (wr.setCell ⟨W.heap.size, s.toNat, none⟩ (.int .i64 0)) := Below.setCell hb (by simp) _
      clear hst hrow hmd
      go_wp2
      go_loopw [10] (fun i wq => ∃ k : Nat, k ≤ n ∧ i = .int .i64 k ∧ Past W wq ∧ RowI wq W.heap.size (intoTo xs E (start m s) k)) (fun i _ => n - (intOf i).toNat)
      case atStart => exact ⟨0, by omega, rfl, hbs, HST.out⟩
      case round =>
        obtain ⟨k, hk, rfl, hbq, hrow⟩ := hrel
        have b1q := cell_in hbq b1
        clear hbs HST
        by_cases hlt : k < n
        · obtain ⟨⟨f, t, c', l', d'⟩, ha⟩ : ∃ a, xs[k]? = some a := ⟨_, List.getElem?_eq_getElem (by have := HX.out; omega)⟩
          obtain ⟨g, o, rfl, a0, a1, a2, a3, a4⟩ := (hxW.below hbq) k _ ha
          obtain ⟨g2, o2, rfl, d0⟩ := (hd.below hbq) k _ (List.getElem?_eq_getElem (by omega))
          have hbd := HIN.out _ (List.mem_of_getElem? ha)
          simp only at hbd
          obtain ⟨D, hD⟩ : ∃ D, D = intoTo xs E (start m s) k := ⟨_, rfl⟩
          have hDl : D.length = m := by rw [hD, intoTo_length, start_length]
          have hnx := intoTo_next (d := E) (o := start m s) ha
          rw [← hD] at hrow hnx
          simp only at hnx
          have hat : at_ E (k : Int) = E[k] := by simp [at_, hEl, hlt]
          have dt := hrow.at_ (v := t) (by omega) (by omega)
          obtain ⟨p, hp⟩ : ∃ p, p = E[k] := ⟨_, rfl⟩
          obtain ⟨q, hq⟩ : ∃ q, q = at_ D t := ⟨_, rfl⟩
          rw [hat, ← hp, ← hq] at hnx
          rw [← hp] at d0
          rw [← hq] at dt
          have htl : t.toNat < D.length := by omega
          have HN := Lib.hid hnx
          have k0 : (0 : Int) ≤ (k : Int) := by omega
          have k1 : (k : Int) < (n : Int) := by omega
          have j2 : (0 : Int) ≤ t := by omega
          have j3 : t < (m : Int) := by omega
          simp only at a1
          have z1 := hrow.1.frozen t.toNat
          clear hnx hat hp hq hD ha hbd a0 a2 a3 a4
          by_cases hc : p < q
          · have g1 : decide (p < q) = true := by simpa using hc
            have HV := Lib.hid (HN.out.trans (if_pos hc))
            clear hc
            go_wp2_with fail
            go_quiet (fail)
            clear g1
            obtain ⟨W2, hW2⟩ : ∃ W2, W2 = wr.drewN nq := ⟨_, rfl⟩
            have b1q : W2.cell? ⟨w.heap.size, 1, none⟩ = some (.slice (some ⟨g, o, none⟩) n c) := by rw [hW2]; exact b1q
            have a1 : W2.cell? ⟨g, o + k * 5 + 1, none⟩ = some (.int .i64 t) := by rw [hW2]; exact a1
            have d0 : W2.cell? ⟨g2, o2 + k, none⟩ = some (.int .i64 p) := by rw [hW2]; exact d0
            have dt : W2.cell? ⟨W.heap.size, t.toNat, none⟩ = some (.int .i64 q) := by rw [hW2]; exact dt
            have z1 : W2.frozen? ⟨W.heap.size, t.toNat, none⟩ = false := by rw [hW2]; exact z1
            have hrow2 : RowI W2.drew W.heap.size D := by rw [hW2]; exact hrow
            have hb2 : Past W W2.drew := by rw [hW2]; exact (hbq.drewN nq).drew
            have HSET2 := Lib.hid (hrow2.set t.toNat p htl)
            have HB2 := Lib.hid (show Past W (W2.drew.setCell ⟨W.heap.size, t.toNat, none⟩ (.int .i64 p)) from Below.setCell hb2 (by simp) _)
            go_wp2_with fail
            rw [← hW2]
            clear hW2 hrow2 hb2 hrow
            go_still_tail 12, (by kernel_rfl)
            change wpList _ _ _ _ _ W2.drew
            go_wp2
            go_roundw
            case rel => exact ⟨k + 1, by omega, by go_num, HB2.out, by rw [HV.out]; exact HSET2.out⟩
            case measure => simp [intOf]; omega
          · have g1 : decide (p < q) = false := by simpa using hc
            have HV := Lib.hid (HN.out.trans (if_neg hc))
            clear hc
            go_wp2_with fail
            go_quiet (fail)
            clear g1
            go_wp2
            go_roundw
            case rel => exact ⟨k + 1, by omega, by go_num, hbq.drewN _, by rw [HV.out]; exact hrow.drewN _⟩
            case measure => simp [intOf]; omega
        · obtain rfl : k = n := by omega
          have hrow : RowI wr W.heap.size (tallL m xs ts s) := by rw [tallL, HX.out, ← HE.out]; exact hrow
          go_wp2
          go_ret
          exact ⟨_, rfl, hrow.res (tallL_length m xs ts s) (by omega) (by omega), hp0.trans hbq⟩

/-- A plan of turns and a node that are there. -/
def theretB (m : Int) (xs : List ArcD) (ts : List TurnD) (s : Int) : Bool := turnsB m xs ts && inB s 0 (m - 1)
def tallI (m : Int) (xs : List ArcD) (ts : List TurnD) (s : Int) : List Int := if theretB m xs ts s then tallL m.toNat xs ts s else []
theorem theretB_iff (m : Int) (xs : List ArcD) (ts : List TurnD) (s : Int) : theretB m xs ts s = true ↔ turnsB m xs ts = true ∧ 0 ≤ s ∧ s < m := by
  simp only [theretB, Bool.and_eq_true, inB_iff]
  exact ⟨fun ⟨h1, h2, h3⟩ => ⟨h1, h2, by omega⟩, fun ⟨h1, h2, h3⟩ => ⟨h1, h2, by omega⟩⟩
theorem tallI_len (m : Int) (xs : List ArcD) (ts : List TurnD) (s : Int) : (tallI m xs ts s).length ≤ 1048576 := by
  unfold tallI
  split
  · rename_i h
    rw [tallL_length]
    have := ((netB_iff _ _).1 (turnsB_all ((theretB_iff _ _ _ _).1 h).1).1).1
    omega
  · simp

set_option maxRecDepth 100000 in
set_option maxHeartbeats 2000000 in
theorem specTurnAll_any (m : Int) (A : Option Addr) (n c : Nat) (xs : List ArcD) (B : Option Addr) (l cb : Nat) (ts : List TurnD) (s : Int) (w : World) (hn : n ≤ 1048576) (hnx : xs.length = n) (hx : ArcsAt w A xs) (hl : l ≤ 1048576) (hlt : ts.length = l) (ht : TurnsAt w B ts) :
    Calls Try.prog 17 #[.agg #[.int .i64 m, .slice A n c], .slice B l cb, .int .i64 s] w (Gives w (tallI m xs ts s)) := by
  have HX := Lib.hid hnx
  have HL := Lib.hid hlt
  clear hnx hlt
  have hb0 : Past w (w.alloc (.cells #[.int .i64 m, .slice A n c] 32)) := (Past.refl _).alloc _
  go_enter Try.func17, Try.ntmps17
  go_wp2_with fail
  refine (l1Ok_any m A n c xs _ hn HX.out (hx.below hb0)).mono ?_
  rintro e w1 ⟨rfl, hb1⟩
  have b0 := cell_in (p := ⟨w.heap.size, 0, none⟩) (v := .int .i64 m) hb1 (by go_simp)
  have b1 := cell_in (p := ⟨w.heap.size, 1, none⟩) (v := .slice A n c) hb1 (by go_simp)
  have hp1 : Past w w1 := hb0.trans hb1
  clear hb0 hb1
  cases hB : netB m xs with
  | false =>
    have HF : Hid (theretB m xs ts s = false) := by rw [Hid, theretB, turnsB_list, hB]; rfl
    clear hB
    go_wp2
    go_ret
    exact ⟨_, rfl, by rw [tallI, HF.out]; exact Res.nil _ _, hp1⟩
  | true =>
  have HF : Hid (turnsB m xs ts = tlistB xs ts) := by rw [Hid, turnsB_list, hB]; rfl
  have hm8 := ((netB_iff _ _).1 hB).1
  clear hB
  go_wp2_with fail
  refine (l4Ok_any m A n c xs B l cb ts _ hn HX.out (hx.below hp1) hl HL.out (ht.below hp1)).mono ?_
  rintro e w2 ⟨rfl, hb2⟩
  have b0 := cell_in hb2 b0
  have b1 := cell_in hb2 b1
  have hp2 : Past w w2 := hp1.trans hb2
  clear hb2 hp1
  cases hC : tlistB xs ts with
  | false =>
    have HV : Hid (theretB m xs ts s = false) := by rw [Hid, theretB, HF.out, hC]; rfl
    clear hC
    go_wp2
    go_ret
    exact ⟨_, rfl, by rw [tallI, HV.out]; exact Res.nil _ _, hp2⟩
  | true =>
  have HT : Hid (turnsB m xs ts = true) := by rw [Hid, HF.out, hC]
  clear hC HF
  have s1 : IntKind.i64.wrap (m - 1) = m - 1 := IntWalk.i64_in _ (by omega)
  cases hD : inB s 0 (m - 1) with
  | false =>
    have HV : Hid (theretB m xs ts s = false) := by rw [Hid, theretB, hD, Bool.and_false]
    have cA := fun w => (in_q hD w).mono (R' := fun e w' => e = .returned (.bool _) ∧ w = w') fun _ _ e => ⟨e.1, e.2.symm⟩
    clear hD
    go_wp2_with fail
    refine (cA _).mono ?_
    rintro e w3 ⟨rfl, rfl⟩
    go_wp2
    go_ret
    exact ⟨_, rfl, by rw [tallI, HV.out]; exact Res.nil _ _, hp2⟩
  | true =>
  have HV : Hid (theretB m xs ts s = true) := by rw [Hid, theretB, HT.out, hD]; rfl
  have hs := (inB_iff _ _ _).1 hD
  have cA := fun w => (in_q hD w).mono (R' := fun e w' => e = .returned (.bool _) ∧ w = w') fun _ _ e => ⟨e.1, e.2.symm⟩
  clear hD
  obtain ⟨M, rfl⟩ : ∃ M : Nat, m = M := ⟨m.toNat, by omega⟩
  go_wp2_with fail
  refine (cA _).mono ?_
  rintro e w3 ⟨rfl, rfl⟩
  clear cA
  go_wp2_with fail
  refine (l4All_any M A n c xs B l cb ts s _ HX.out (hx.below hp2) hl HL.out (ht.below hp2) HT.out (by omega)).mono ?_
  rintro e w4 ⟨v, rfl, hv, hb4⟩
  go_wp2
  go_ret
  exact ⟨_, rfl, by rw [tallI, HV.out]; exact (show Res w4 w2.heap.size v (tallL M xs ts s) from hv).lower hp2.size, hp2.trans hb4⟩

end Go.Proofs.Ytaojognjkiifmaa
