/-
  Whether turns are ok: spec.l4Ok, spec.TurnsOk. No condition.
-/
import Derived.Test.YtaojognjkiifmaaTOk
namespace Go.Proofs.Ytaojognjkiifmaa
open Go.RowKit

theorem in_q {n lo hi : Int} {b : Bool} (h : inB n lo hi = b) (w : World) : Calls Try.prog 57 #[.int .i64 n, .int .i64 lo, .int .i64 hi] w fun e w' => e = .returned (.bool b) ∧ w' = w :=
  (l1In_any n lo hi w).mono fun _ _ e => ⟨by rw [e.1, h], e.2.symm⟩

/-- Turns are ok, in a net that is. -/
def tlistB (xs : List ArcD) (ts : List TurnD) : Bool := decide (ts.length ≤ 12) && (ts.all (turnB xs) && freeB ts ts.length)
theorem tlistB_bad {xs : List ArcD} {ts : List TurnD} {k : Nat} {t : TurnD} (ha : ts[k]? = some t) (hf : turnB xs t = false) : tlistB xs ts = false := by
  rw [tlistB, all_turn_bad ha hf]; simp
theorem tlistB_twice {xs : List ArcD} {ts : List TurnD} {k : Nat} {t : TurnD} (ha : ts[k]? = some t) (hf : (ts.take k).any (sameT t.x0 t.x1) = true) : tlistB xs ts = false := by
  have hk : k < ts.length := (List.getElem?_eq_some_iff.1 ha).1
  have h1 : freeB ts ts.length = false := by
    rw [Bool.eq_false_iff]
    intro h
    have := freeB_mono ts ts.length (k + 1) hk h
    rw [freeB_next ha, hf] at this
    simp at this
  rw [tlistB, h1]; simp
theorem any_next {ts : List TurnD} {j : Nat} {a b : Int} {t : TurnD} (h : (ts.take j).any (sameT a b) = false) (ha : ts[j]? = some t) (hf : sameT a b t = false) : (ts.take (j + 1)).any (sameT a b) = false := by
  rw [List.take_add_one, List.any_append, h, ha]
  simp [hf]
theorem any_hit {ts : List TurnD} {j k : Nat} {a b : Int} {t : TurnD} (hj : j < k) (ha : ts[j]? = some t) (hf : sameT a b t = true) : (ts.take k).any (sameT a b) = true := by
  rw [List.any_eq_true]
  exact ⟨t, List.mem_of_getElem? (i := j) (by rw [List.getElem?_take_of_lt hj]; exact ha), hf⟩

set_option maxRecDepth 100000 in
set_option maxHeartbeats 4000000 in
theorem l4Ok_any (m : Int) (A : Option Addr) (n c : Nat) (xs : List ArcD) (B : Option Addr) (l cb : Nat) (ts : List TurnD) (w : World) (hn : n ≤ 1048576) (hnx : xs.length = n) (hx : ArcsAt w A xs) (hl : l ≤ 1048576) (hlt : ts.length = l) (ht : TurnsAt w B ts) :
    Calls Try.prog 56 #[.agg #[.int .i64 m, .slice A n c], .slice B l cb] w fun e w' => e = .returned (.bool (tlistB xs ts)) ∧ Below w.heap.size w w' := by
  have HX := Lib.hid hnx
  have HL := Lib.hid hlt
  clear hnx hlt
  have hb0 : Past w (w.alloc (.cells #[.int .i64 m, .slice A n c] 32)) := (Past.refl _).alloc _
  have hw : Hid (IntKind.i64.wrap ((n : Int) - 1) = (n : Int) - 1) := IntWalk.i64_in _ (by omega)
  go_enter Try.func56, Try.ntmps56
  go_wp2
  go_loopw [5] (fun i wr => ∃ k : Nat, k ≤ l ∧ i = .int .i64 k ∧ Past (w.alloc (.cells #[.int .i64 m, .slice A n c] 32)) wr ∧ (ts.take k).all (turnB xs) = true ∧ freeB ts k = true) (fun i _ => l - (intOf i).toNat)
  case atStart => exact ⟨0, by omega, rfl, Past.refl _, by simp, rfl⟩
  case round =>
    obtain ⟨k, hk, rfl, hb, hok, hfr⟩ := hrel
    have HK := Lib.hid hok
    have HF := Lib.hid hfr
    clear hok hfr
    have hz := hb.lt
    have b0 := cell_in (p := ⟨w.heap.size, 0, none⟩) (v := .int .i64 m) hb (by go_simp)
    have b1 := cell_in (p := ⟨w.heap.size, 1, none⟩) (v := .slice A n c) hb (by go_simp)
    have hxr := (hx.below hb0).below hb
    have htr := (ht.below hb0).below hb
    by_cases hkl : k < l
    · obtain ⟨⟨x0, x1, x2⟩, ha⟩ : ∃ a, ts[k]? = some a := ⟨_, List.getElem?_eq_getElem (by have := HL.out; omega)⟩
      obtain ⟨g, o, rfl, c0, c1, c2⟩ := htr k _ ha
      have HA := Lib.hid ha
      have i0 : (0 : Int) ≤ (k : Int) := by omega
      have i1 : (k : Int) < (l : Int) := by omega
      clear ha
      cases hB0 : inB x0 0 ((n : Int) - 1) with
      | false =>
        have HB : Hid (tlistB xs ts = false) := tlistB_bad HA.out (turnB_bad1 (by rw [HX.out]; exact hB0))
        have cA := fun w => in_q hB0 w
        have hw := hw.out
        clear hB0
        go_wp2_with fail
        go_quiet ((go_at_call 57; with_reducible exact Calls.quiet_of_same (cA _)))
        go_wp2
        go_ret
        exact ⟨ret_bool HB.out.symm, hb0.trans (hb.drewN _)⟩
      | true =>
      have cA := fun w => in_q hB0 w
      cases hB1 : inB x1 0 ((n : Int) - 1) with
      | false =>
        have HB : Hid (tlistB xs ts = false) := tlistB_bad HA.out (turnB_bad2 (by rw [HX.out]; exact hB1))
        have cB := fun w => in_q hB1 w
        have hw := hw.out
        clear hB0 hB1
        go_wp2_with fail
        go_quiet ((go_at_call 57; first | (with_reducible exact Calls.quiet_of_same (cA _)) | (with_reducible exact Calls.quiet_of_same (cB _))))
        go_wp2
        go_ret
        exact ⟨ret_bool HB.out.symm, hb0.trans (hb.drewN _)⟩
      | true =>
      have cB := fun w => in_q hB1 w
      have p0 := (inB_iff _ _ _).1 hB0
      have p1 := (inB_iff _ _ _).1 hB1
      obtain ⟨⟨f, t, c', l', d⟩, ha⟩ : ∃ a, xs[x0.toNat]? = some a := ⟨_, List.getElem?_eq_getElem (by have := HX.out; omega)⟩
      obtain ⟨⟨f', t', c'', l'', d'⟩, hb'⟩ : ∃ a, xs[x1.toNat]? = some a := ⟨_, List.getElem?_eq_getElem (by have := HX.out; omega)⟩
      have HT : Hid (turnB xs ⟨x0, x1, x2⟩ = (decide (t = f') && inB x2 (-1) 99)) := turnB_arcs (by rw [HX.out]; exact hB0) (by rw [HX.out]; exact hB1) ha hb'
      obtain ⟨g2, o2, rfl, d0, d1, d2, d3, d4⟩ := hxr _ _ ha
      obtain ⟨g', o', eg, e0, e1, e2, e3, e4⟩ := hxr _ _ hb'
      injection eg with eg
      injection eg with eg1 eg2
      subst eg1 eg2
      have j0 := p0.1
      have j1 : x0 < (n : Int) := by omega
      have j2 := p1.1
      have j3 : x1 < (n : Int) := by omega
      clear hB0 hB1 ha hb' p0 p1 d0 d2 d3 d4 e1 e2 e3 e4
      by_cases hE : t = f'
      rotate_left
      · have q1 : (t != f') = true := by simpa using hE
        have HB : Hid (tlistB xs ts = false) := tlistB_bad HA.out (by rw [HT.out, decide_eq_false hE]; rfl)
        have hw := hw.out
        clear hE
        go_wp2_with fail
        go_quiet ((go_at_call 57; first | (with_reducible exact Calls.quiet_of_same (cA _)) | (with_reducible exact Calls.quiet_of_same (cB _))))
        go_wp2
        go_ret
        exact ⟨ret_bool HB.out.symm, hb0.trans (hb.drewN _)⟩
      have q1 : (t != f') = false := by simpa using hE
      have HC : Hid (turnB xs ⟨x0, x1, x2⟩ = inB x2 (-1) 99) := by rw [Hid, HT.out, decide_eq_true hE, Bool.true_and]
      clear hE
      cases hB2 : inB x2 (-1) 99 with
      | false =>
        have cC := fun w => in_q hB2 w
        have HB : Hid (tlistB xs ts = false) := tlistB_bad HA.out (by rw [HC.out, hB2])
        have hw := hw.out
        clear hB2
        go_wp2_with fail
        go_quiet ((go_at_call 57; first | (with_reducible exact Calls.quiet_of_same (cA _)) | (with_reducible exact Calls.quiet_of_same (cB _)) | (with_reducible exact Calls.quiet_of_same (cC _))))
        go_wp2
        go_ret
        exact ⟨ret_bool HB.out.symm, hb0.trans (hb.drewN _)⟩
      | true =>
      have cC := fun w => in_q hB2 w
      have HN := Lib.hid (all_turn_next HK.out HA.out (by rw [HC.out, hB2]))
      have hw := hw.out
      clear hB2
      go_wp2_with fail
      go_quiet ((go_at_call 57; first | (with_reducible exact Calls.quiet_of_same (cA _)) | (with_reducible exact Calls.quiet_of_same (cB _)) | (with_reducible exact Calls.quiet_of_same (cC _))))
      clear cA cB cC hw q1 d1 e0 j0 j1 j2 j3
      go_wp2
      go_loopw [6] (fun i wi => ∃ j : Nat, j ≤ k ∧ i = .int .i64 j ∧ Past wr wi ∧ (ts.take j).any (sameT x0 x1) = false) (fun i _ => k - (intOf i).toNat)
      case atStart => exact ⟨0, by omega, rfl, (Past.refl _).drewN _, by simp⟩
      case round =>
        obtain ⟨j, hj, rfl, hbi, hno⟩ := hrel
        have HNO := Lib.hid hno
        clear hno
        by_cases hjk : j < k
        · obtain ⟨⟨y0, y1, y2⟩, ha2⟩ : ∃ a, ts[j]? = some a := ⟨_, List.getElem?_eq_getElem (by have := HL.out; omega)⟩
          obtain ⟨g4, o4, eg, f0, f1, f2⟩ := (htr.below hbi) j _ ha2
          injection eg with eg
          injection eg with eg1 eg2
          subst eg1 eg2
          have c0 := cell_in hbi c0
          have c1 := cell_in hbi c1
          have HA2 := Lib.hid ha2
          have k0 : (0 : Int) ≤ (j : Int) := by omega
          have k1 : (j : Int) < (l : Int) := by omega
          have k2 : (j : Int) < (k : Int) := by omega
          clear ha2
          by_cases h1 : y0 = x0
          · have q1 : (y0 == x0) = true := by simpa using h1
            by_cases h2 : y1 = x1
            · have q2 : (y1 == x1) = true := by simpa using h2
              have HB : Hid (tlistB xs ts = false) := tlistB_twice HA.out (any_hit hjk HA2.out (by simp [sameT, h1, h2]))
              clear h1 h2
              go_wp2_with fail
              go_quiet (fail)
              go_wp2
              go_ret
              exact ⟨ret_bool HB.out.symm, hb0.trans (hb.trans (hbi.drewN _))⟩
            · have q2 : (y1 == x1) = false := by simpa using h2
              have HM := Lib.hid (any_next HNO.out HA2.out (by simp [sameT, h2]))
              clear h1 h2
              go_wp2_with fail
              go_quiet (fail)
              go_wp2
              go_roundw
              case rel => exact ⟨j + 1, by omega, by go_num, hbi.drewN _, HM.out⟩
              case measure => simp [intOf]; omega
          · have q1 : (y0 == x0) = false := by simpa using h1
            have HM := Lib.hid (any_next HNO.out HA2.out (by simp [sameT, h1]))
            clear h1
            go_wp2_with fail
            go_quiet (fail)
            go_wp2
            go_roundw
            case rel => exact ⟨j + 1, by omega, by go_num, hbi.drewN _, HM.out⟩
            case measure => simp [intOf]; omega
        · obtain rfl : j = k := by omega
          have HG : Hid (freeB ts (j + 1) = true) := by rw [Hid, freeB_next HA.out, HF.out, HNO.out]; rfl
          go_wp2
          go_roundw
          case rel => exact ⟨j + 1, by omega, by go_num, hb.trans hbi, HN.out, HG.out⟩
          case measure => simp [intOf]; omega
    · obtain rfl : l = k := by omega
      have HALL : Hid (ts.all (turnB xs) = true) := by
        have := HK.out
        rw [List.take_of_length_le (by have := HL.out; omega)] at this
        exact this
      have HB : Hid (tlistB xs ts = decide (l ≤ 12)) := by rw [Hid, tlistB, HALL.out, HL.out, HF.out]; simp
      by_cases h12 : l ≤ 12
      · have g12 : (l : Int) ≤ 12 := by omega
        have HR : Hid (tlistB xs ts = true) := by rw [Hid, HB.out]; simpa using h12
        go_wp2
        go_ret
        exact ⟨ret_bool HR.out.symm, hb0.trans hb⟩
      · have g12 : ¬ (l : Int) ≤ 12 := by omega
        have HR : Hid (tlistB xs ts = false) := by rw [Hid, HB.out]; simpa using h12
        go_wp2
        go_ret
        exact ⟨ret_bool HR.out.symm, hb0.trans hb⟩

theorem turnsB_list (m : Int) (xs : List ArcD) (ts : List TurnD) : turnsB m xs ts = (netB m xs && tlistB xs ts) := rfl

end Go.Proofs.Ytaojognjkiifmaa
