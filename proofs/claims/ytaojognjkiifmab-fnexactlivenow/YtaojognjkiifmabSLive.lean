/-
  When a net with news is ok: spec.l16Ok, spec.LiveOk. No condition.
-/
import Derived.Test.YtaojognjkiifmabPLive
import Derived.Test.YtaojognjkiifmabIn
namespace Go.Proofs.Ytaojognjkiifmab
open Go.RowKit

theorem in_live {n lo hi : Int} {b : Bool} (h : inB n lo hi = b) (w : World) : Calls Try.prog 57 #[.int .i64 n, .int .i64 lo, .int .i64 hi] w fun e w' => e = .returned (.bool b) ∧ w' = w :=
  (l1In_any n lo hi w).mono fun _ _ e => ⟨by rw [e.1, h], e.2.symm⟩

set_option maxRecDepth 100000 in
set_option maxHeartbeats 4000000 in
theorem l16Ok_any (m : Int) (A : Option Addr) (n c : Nat) (xs : List ArcD) (B : Option Addr) (l cb : Nat) (ns : List NewsD) (w : World) (hn : n ≤ 1048576) (hnx : xs.length = n) (hx : ArcsAt w A xs) (hl : l ≤ 1048576) (hly : ns.length = l) (hy : NewssAt w B ns) :
    Calls Try.prog 74 #[.agg #[.int .i64 m, .slice A n c, .slice B l cb]] w fun e w' => e = .returned (.bool (liveB m xs ns)) ∧ Below w.heap.size w w' := by
  have HX := Lib.hid hnx
  have HL := Lib.hid hly
  clear hnx hly
  have hb0 : Past w (w.alloc (.cells #[.int .i64 m, .slice A n c, .slice B l cb] 52)) := (Past.refl _).alloc _
  have hw : Hid (IntKind.i64.wrap ((n : Int) - 1) = (n : Int) - 1) := IntWalk.i64_in _ (by omega)
  go_enter Try.func74, Try.ntmps74
  go_wp2
  go_loopw [3] (fun i wr => ∃ k : Nat, k ≤ l ∧ i = .int .i64 k ∧ Past (w.alloc (.cells #[.int .i64 m, .slice A n c, .slice B l cb] 52)) wr ∧ NwTo n ns k) (fun i _ => l - (intOf i).toNat)
  case atStart => exact ⟨0, by omega, rfl, Past.refl _, fun j h => absurd h (by omega)⟩
  case round =>
    obtain ⟨k, hk, rfl, hb, hok⟩ := hrel
    have HK := Lib.hid hok
    clear hok
    have hz := hb.lt
    have b0 := cell_in (p := ⟨w.heap.size, 0, none⟩) (v := .int .i64 m) hb (by go_simp)
    have b1 := cell_in (p := ⟨w.heap.size, 1, none⟩) (v := .slice A n c) hb (by go_simp)
    have b2 := cell_in (p := ⟨w.heap.size, 2, none⟩) (v := .slice B l cb) hb (by go_simp)
    have hxr := (hx.below hb0).below hb
    have hyr := (hy.below hb0).below hb
    by_cases hkl : k < l
    · obtain ⟨⟨x0, x1, x2⟩, ha⟩ : ∃ a, ns[k]? = some a := ⟨_, List.getElem?_eq_getElem (by have := HL.out; omega)⟩
      obtain ⟨g, o, rfl, c0, c1, c2⟩ := hyr k _ ha
      have HA := Lib.hid ha
      have i0 : (0 : Int) ≤ (k : Int) := by omega
      have i1 : (k : Int) < (l : Int) := by omega
      clear ha
      cases hB0 : inB x0 1 999 with
      | false =>
        have HB : Hid (liveB m xs ns = false) := liveB_bad (by have := HL.out; omega) (nwB_no HA.out (newsB_no0 hB0))
        have cA := fun w => in_live hB0 w
        have hw := hw.out
        clear hB0
        go_wp2_with fail
        go_quiet ((go_at_call 57; with_reducible exact Calls.quiet_of_same (cA _)))
        go_wp2
        go_ret
        exact ⟨ret_bool HB.out.symm, hb0.trans (Past.drewN (hb.alloc _) _)⟩
      | true =>
      have cA := fun w => in_live hB0 w
      cases hB1 : inB x1 0 ((n : Int) - 1) with
      | false =>
        have HB : Hid (liveB m xs ns = false) := liveB_bad (by have := HL.out; omega) (nwB_no HA.out (newsB_no1 (by rw [HX.out]; exact hB1)))
        have cB := fun w => in_live hB1 w
        have hw := hw.out
        clear hB0 hB1
        go_wp2_with fail
        go_quiet ((go_at_call 57; first | (with_reducible exact Calls.quiet_of_same (cA _)) | (with_reducible exact Calls.quiet_of_same (cB _))))
        go_wp2
        go_ret
        exact ⟨ret_bool HB.out.symm, hb0.trans (Past.drewN (hb.alloc _) _)⟩
      | true =>
      have cB := fun w => in_live hB1 w
      cases hB2 : inB x2 (-1) 99 with
      | false =>
        have cC := fun w => in_live hB2 w
        have HB : Hid (liveB m xs ns = false) := liveB_bad (by have := HL.out; omega) (nwB_no HA.out (newsB_no2 hB2))
        have hw := hw.out
        clear hB0 hB1 hB2
        go_wp2_with fail
        go_quiet ((go_at_call 57; first | (with_reducible exact Calls.quiet_of_same (cA _)) | (with_reducible exact Calls.quiet_of_same (cB _)) | (with_reducible exact Calls.quiet_of_same (cC _))))
        go_wp2
        go_ret
        exact ⟨ret_bool HB.out.symm, hb0.trans (Past.drewN (hb.alloc _) _)⟩
      | true =>
      have cC := fun w => in_live hB2 w
      have HN : Hid (newsB n ⟨x0, x1, x2⟩ = true) := newsB_yes hB0 hB1 hB2
      have hw := hw.out
      clear hB0 hB1 hB2
      by_cases hk0 : k = 0
      · have k1 : decide (0 < k) = false := by simp; omega
        have HK0 := Lib.hid hk0
        clear hk0
        go_wp2_with fail
        go_quiet ((go_at_call 57; first | (with_reducible exact Calls.quiet_of_same (cA _)) | (with_reducible exact Calls.quiet_of_same (cB _)) | (with_reducible exact Calls.quiet_of_same (cC _))))
        go_wp2
        go_roundw
        case rel => exact ⟨k + 1, by omega, by go_num, Past.drewN (hb.alloc _) _, HK.out.next (by have e := HK0.out; subst e; rw [nwB_first HA.out]; exact HN.out)⟩
        case measure => simp [intOf]; omega
      · obtain ⟨⟨y0, y1, y2⟩, ha'⟩ : ∃ a, ns[k - 1]? = some a := ⟨_, List.getElem?_eq_getElem (by have := HL.out; omega)⟩
        obtain ⟨g3, o3, eg, d0, d1, d2⟩ := hyr (k - 1) _ ha'
        injection eg with eg
        injection eg with eg1 eg2
        subst eg1 eg2
        have HS := Lib.hid (nwB_next (n := n) hk0 HA.out ha')
        have d0 := cell_in ((Past.refl wr).alloc (.cells #[.int .i64 x0, .int .i64 x1, .int .i64 x2] 64)) d0
        clear ha' d1 d2
        have k1 : decide (0 < k) = true := by simp; omega
        have k2 : IntKind.i64.wrap ((k : Int) - 1) = (k : Int) - 1 := IntWalk.i64_in _ (by omega)
        have k3 : (0 : Int) ≤ (k : Int) - 1 := by omega
        have k4 : (k : Int) - 1 < (l : Int) := by omega
        have k5 : ((k : Int) - 1).toNat = k - 1 := by omega
        by_cases u0 : x0 ≤ y0
        · have q0 : decide (x0 ≤ y0) = true := by simpa using u0
          have HB : Hid (liveB m xs ns = false) := liveB_bad (k := k) (by have := HL.out; omega) (by rw [HX.out, HS.out, HN.out]; simp; omega)
          clear HS
          go_wp2_with fail
          go_quiet ((go_at_call 57; first | (with_reducible exact Calls.quiet_of_same (cA _)) | (with_reducible exact Calls.quiet_of_same (cB _)) | (with_reducible exact Calls.quiet_of_same (cC _))))
          go_wp2
          go_ret
          exact ⟨ret_bool HB.out.symm, hb0.trans (Past.drewN (hb.alloc _) _)⟩
        · have q0 : decide (x0 ≤ y0) = false := by simpa using u0
          have HNx := Lib.hid (HK.out.next (by rw [HS.out, HN.out]; simp; omega))
          clear HS
          go_wp2_with fail
          go_quiet ((go_at_call 57; first | (with_reducible exact Calls.quiet_of_same (cA _)) | (with_reducible exact Calls.quiet_of_same (cB _)) | (with_reducible exact Calls.quiet_of_same (cC _))))
          go_wp2
          go_roundw
          case rel => exact ⟨k + 1, by omega, by go_num, Past.drewN (hb.alloc _) _, HNx.out⟩
          case measure => simp [intOf]; omega
    · obtain rfl : l = k := by omega
      have HE : Hid (liveB m xs ns = (netB m xs && decide (l ≤ 6))) := by
        have e1 := HL.out
        have e2 := HX.out
        subst e1 e2
        exact HK.out.end_
      go_wp2_with fail
      refine (l1Ok_any m A n c xs _ hn HX.out hxr).mono ?_
      rintro e w9 ⟨rfl, hb9⟩
      have b2 := cell_in hb9 b2
      have hp9 := hb0.trans (hb.trans hb9)
      cases hN : netB m xs with
      | false =>
        have HV : Hid (liveB m xs ns = false) := by rw [Hid, HE.out, hN]; rfl
        clear hN
        go_wp2
        go_ret
        exact ⟨ret_bool HV.out.symm, hp9⟩
      | true =>
        by_cases h6 : l ≤ 6
        · have h6' : (l : Int) ≤ 6 := by omega
          have HV : Hid (liveB m xs ns = true) := by rw [Hid, HE.out, hN, decide_eq_true h6]; rfl
          clear hN
          go_wp2
          go_ret
          exact ⟨ret_bool HV.out.symm, hp9⟩
        · have h6' : ¬ (l : Int) ≤ 6 := by omega
          have HV : Hid (liveB m xs ns = false) := by rw [Hid, HE.out, hN, decide_eq_false h6]; rfl
          have h6d : decide ((l : Int) ≤ 6) = false := by simpa using h6'
          clear hN
          go_wp2
          go_ret
          exact ⟨ret_bool HV.out.symm, hp9⟩

theorem specLiveOk_any (m : Int) (A : Option Addr) (n c : Nat) (xs : List ArcD) (B : Option Addr) (l cb : Nat) (ns : List NewsD) (w : World) (hn : n ≤ 1048576) (hnx : xs.length = n) (hx : ArcsAt w A xs) (hl : l ≤ 1048576) (hly : ns.length = l) (hy : NewssAt w B ns) :
    Calls Try.prog 28 #[.agg #[.int .i64 m, .slice A n c, .slice B l cb]] w fun e w' => e = .returned (.bool (liveB m xs ns)) ∧ Below w.heap.size w w' := by
  have HX := Lib.hid hnx
  have HL := Lib.hid hly
  clear hnx hly
  have hb0 : Past w (w.alloc (.cells #[.int .i64 m, .slice A n c, .slice B l cb] 52)) := (Past.refl _).alloc _
  go_enter Try.func28, Try.ntmps28
  go_wp2_with fail
  refine (l16Ok_any m A n c xs B l cb ns _ hn HX.out (hx.below hb0) hl HL.out (hy.below hb0)).mono ?_
  rintro e w1 ⟨rfl, hb1⟩
  go_wp2
  go_ret
  exact ⟨rfl, hb0.trans hb1⟩

end Go.Proofs.Ytaojognjkiifmab
