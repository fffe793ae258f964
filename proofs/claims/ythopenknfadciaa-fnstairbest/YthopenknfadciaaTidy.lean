/-
  Steps in order without those of no use: impl.stairOf, spec.l5Tidy.
-/
import Derived.Test.YthopenknfadciaaSStep
import Derived.Test.YthopenknfadciaaPLinkL
namespace Go.Proofs.Ythopenknfadciaa
open Go.Shelf Go.RowKit Go.Lib Go.Sort

theorem StepsAt.none {w : World} {xs : List StepD} (h : StepsAt w none xs) : xs = [] := by
  cases xs with
  | nil => rfl
  | cons x xs => obtain ⟨g, o, e, _⟩ := h 0 x rfl; cases e

set_option maxRecDepth 100000 in
set_option maxHeartbeats 1000000 in
theorem cloneStep_any (A : Option Addr) (n c : Nat) (xs : List StepD) (w : World) (hn : n ≤ 2097152) (hl : xs.length = n) (hx : StepsAt w A xs) :
    Calls Try.prog 63 #[.slice A n c] w (GivesStep w xs) := by
  obtain ⟨i0, hi, hz0, hz1, hz2⟩ := info_parts infoStep
  cases A with
  | none =>
    have h0 := hx.none
    subst h0
    have hn0 : n = 0 := by rw [← hl]; rfl
    subst hn0
    have heq := fun u : World => Lib.run_eql_slice_nil (P := Try.prog) u 25 42 none 0 c 0 0 Try.underlying25
    simp only [Option.isNone_none] at heq
    go_enter Try.func63, Try.ntmps63
    go_wp2
    go_ret
    exact ⟨_, rfl, ResStep.nil _ _, Below.refl _ _⟩
  | some ad =>
    have HL := Lib.hid hl
    clear hl
    have heq := fun u : World => Lib.run_eql_slice_nil (P := Try.prog) u 25 42 (some ad) n c 0 0 Try.underlying25
    simp only [Option.isNone_some] at heq
    have hb0 : Past w (w.alloc (.cells #[] 42)) := (Past.refl _).alloc _
    have hv0 : (w.alloc (.cells #[] 42)).ownsRow w.heap.size 42 2 (.slice (some ⟨w.heap.size, 0, none⟩) 0 0) 0 [] := World.ownsRow_made w _ 0 (Nat.le_refl _) (by unfold maxLen; omega) rfl
    have hnews : ∀ j u, (cellsStep xs)[j]? = some u → (w.alloc (.cells #[] 42)).cell? (ad.add j) = some u := fun j u hu => by
      have hpos : 0 < xs.length := by
        have := (List.getElem?_eq_some_iff.1 hu).1
        rw [cellsStep_length] at this
        omega
      obtain ⟨g, o, e, _⟩ := hx 0 _ (List.getElem?_eq_getElem hpos)
      injection e with e
      subst e
      rw [Addr.add_lit]
      refine cells_of_steps xs o (fun k a hk => ?_) j u hu
      obtain ⟨g', o', e, h5⟩ := (hx.below hb0) k a hk
      injection e with e
      injection e with e1 e2
      subst e1 e2
      exact h5
    have HV := Lib.hid hv0
    have HN := Lib.hid hnews
    clear hv0 hnews
    go_enter Try.func63, Try.ntmps63
    go_wp2_with (first | (at_builtin; refine wpList_append_own _ rfl _ _ 25 rfl w.heap.size 42 i0 _ 2 16 Try.underlying25 hi hz0 hz1 hz2 rfl (by decide) _ 0 [] rfl HV.out ad n c (cellsStep xs) rfl (by rw [cellsStep_length, HL.out]) HN.out (cellsStep_one xs) (by unfold maxLen; omega) (by omega) (by simp) ?_; intro v' w3 hown' hgrow3 hnil3))
    go_ret
    refine ⟨_, rfl, ?_, Past.grownBy hb0 HV.out hgrow3 (Nat.le_refl _)⟩
    unfold ResStep
    rw [HL.out]
    simpa using hown'

/-- Behind a sort, by who goes later and who comes first. -/
def SortedTo (w : World) (A : Option Addr) (n : Nat) (xs : List StepD) (e : Ending) (w' : World) : Prop :=
  e = .returned (.tuple #[]) ∧ ∃ ys : List StepD, ys.length = n ∧ (∀ s, s ∈ ys ↔ s ∈ xs) ∧ ys.Pairwise ahead ∧ StepsAt w' A ys ∧ w.grownBy w' (blk A)

set_option maxHeartbeats 1000000 in
theorem sortStep_any (lo : Nat) (v : Value) (xs : List StepD) (w : World) (hn : xs.length ≤ 2097152) (hv : ResStep w lo v xs) :
    ∃ A c, v = .slice A xs.length c ∧ Calls Try.prog 64 #[v, .func (.func 65) #[] #[]] w (SortedTo w A xs.length xs) := by
  obtain ⟨A, c, rfl, hx, ho⟩ := hv.form
  refine ⟨A, c, rfl, ?_⟩
  by_cases h0 : xs.length = 0
  · have hxs : xs = [] := List.eq_nil_of_length_eq_zero h0
    subst hxs
    have hcon := AnyF.slices_SortFunc_none sortL A c (.func (.func 65) #[] #[]) w
    exact hcon.mono fun e w' ⟨he, hw⟩ => by
      subst hw
      exact ⟨he, [], rfl, fun _ => Iff.rfl, List.Pairwise.nil, fun k a hk => by simp at hk, grown_refl _ _⟩
  · rcases ho with ⟨_, h⟩ | ⟨g, sz, rfl, hlo, hr, hs⟩
    · exact absurd h h0
    · have hH := holds_step hx hr.frozen
      have hcon := AnyQ.slices_SortFunc sortL 2 Try.isAgg42 Try.sizeOf42 encStep (fun _ => rfl) encStep_one laterI laterI_swo 65 #[] g 0 c xs.toArray w (enters_of Try.func65 (by kernel_rfl) rfl)
        (fun _ _ _ _ x y => later_any x y _) hH hr.lt (by simp; omega)
      have hsz : xs.toArray.size = xs.length := by simp
      rw [hsz] at hcon
      refine hcon.mono fun e w' ⟨he, d', m, os, hp, hso, hw⟩ => ?_
      subst hw
      have hds : d'.size = xs.length := by rw [hp.1]; simp
      have hperm : d'.toList.Perm xs := by
        have h3 := hp.2.2
        rw [Array.extract_eq_self_of_le (by omega), Array.extract_eq_self_of_le (by simp)] at h3
        simpa using h3
      refine ⟨he, d'.toList, by simp [hds], fun s => hperm.mem_iff, ?_, ?_, grown_put d'⟩
      · rw [List.pairwise_iff_getElem]
        intro i j hi hj hij
        have hj' : j < d'.size := by have h := hj; rw [Array.length_toList] at h; exact h
        have := hso i j (Nat.zero_le _) hij (by omega)
        rw [getElem!_pos d' j hj', getElem!_pos d' i (by omega), laterI_lt] at this
        simp only [decide_eq_false_iff_not] at this
        have e1 : d'.toList[i] = d'[i] := by simp
        have e2 : d'.toList[j] = d'[j] := by simp
        rw [e1, e2]
        exact ⟨by omega, fun e => by omega⟩
      · exact steps_held (holdsK_grow encStep 2 _ os g 0 d' (by simpa [putRowK] using hr.lt) (holdsK_putRowK encStep 2 (Sort.ahead w m) g 0 xs.toArray d' hH (by simp [hds])))

set_option maxHeartbeats 1000000 in
/-- slices.Reverse of a slice of the call's own. -/
theorem revStep_any (lo : Nat) (v : Value) (xs : List StepD) (w : World) (hn : xs.length ≤ 2097152) (hv : ResStep w lo v xs) :
    Calls Try.prog 66 #[v] w fun e w' => e = .returned (.tuple #[]) ∧ ResStep w' lo v xs.reverse ∧ w.grownBy w' v.ownBlock := by
  obtain ⟨A, c, rfl, hx, ho⟩ := hv.form
  by_cases h0 : xs.length = 0
  · have hxs : xs = [] := List.eq_nil_of_length_eq_zero h0
    subst hxs
    have hcon := AnyQ.slices_Reverse_empty revL A c w
    exact hcon.mono fun e w' ⟨he, hw⟩ => by
      subst hw
      exact ⟨he, hv, grown_refl _ _⟩
  · rcases ho with ⟨_, h⟩ | ⟨g, sz, rfl, hlo, hr, hs⟩
    · exact absurd h h0
    · have hH := holds_step hx hr.frozen
      have hcon := AnyQ.slices_Reverse revL 2 Try.isAgg42 Try.sizeOf42 encStep (fun _ => rfl) encStep_one g 0 c xs.toArray w hH (by simp; omega)
      have hsz : xs.toArray.size = xs.length := by simp
      rw [hsz] at hcon
      refine hcon.mono fun e w' ⟨he, m, hw⟩ => ?_
      have hw' : w' = grow (putRowK encStep 2 (Sort.ahead w m) g 0 xs.toArray.reverse) #[] := by rw [hw, grow_empty]
      subst hw'
      refine ⟨he, hv.again (row_put _ hv.row.1) ?_ (by simp), grown_put _⟩
      have := steps_held (holdsK_grow encStep 2 _ #[] g 0 xs.toArray.reverse (by simpa [putRowK] using hr.lt) (holdsK_putRowK encStep 2 (Sort.ahead w m) g 0 xs.toArray xs.toArray.reverse hH (by simp)))
      simpa using this

/-- What is kept of the first k, in the order of keeping. -/
def KeptInv (w2 : World) (lo n : Nat) (ys : List StepD) (v i : Value) (wr : World) : Prop :=
  ∃ (k D c : Nat) (A : Option Addr), k ≤ n ∧ i = .int .i64 k ∧ v = .slice A D c ∧ D = (keptR (ys.take k)).length ∧ ResStep wr lo (.slice A D c) (keptR (ys.take k)).reverse ∧ Past w2 wr

theorem keptR_le (ys : List StepD) : (keptR ys).length ≤ ys.length := by
  induction ys using snoc_ind with
  | h0 => simp [keptR]
  | h1 l a ih =>
    rw [keptR_snoc, List.length_append]
    unfold keepR
    split
    · simp
    · split
      · simp_all
      · simp_all; omega
set_option maxRecDepth 100000 in
set_option maxHeartbeats 2000000 in
theorem implstairOf_any (A : Option Addr) (n c : Nat) (xs : List StepD) (w : World) (hn : n ≤ 2097152) (hl : xs.length = n) (hx : StepsAt w A xs) (hok : ∀ s ∈ xs, stOk s = true) :
    Calls Try.prog 49 #[.slice A n c] w (GivesStep w (tidy xs)) := by
  obtain ⟨i0, hi, hz0, hz1, hz2⟩ := info_parts infoStep
  have HX := Lib.hid hl
  have HOK := Lib.hid hok
  clear hl hok
  go_enter Try.func49, Try.ntmps49
  go_wp2_with fail
  refine (cloneStep_any A n c xs _ hn HX.out hx).mono ?_
  rintro e w1 ⟨v1, rfl, hv1, hb1⟩
  obtain ⟨A1, c1, rfl, hs1⟩ := sortStep_any _ v1 xs w1 (by rw [HX.out]; exact hn) hv1
  rw [HX.out] at hs1 hv1 ⊢
  obtain ⟨A1', c1', e1, hx1, ho1⟩ := hv1.form
  rw [HX.out] at e1 ho1
  injection e1 with e1 e2 e3
  subst e1 e3
  have HS := Lib.hid hs1
  clear hs1 e2 hx1
  go_wp2_with fail
  refine HS.out.mono ?_
  rintro e w2 ⟨rfl, ys, hyl, hym, hyp, hy2, hg2⟩
  have hb12 : Past w w2 := below_marked hb1 hg2 ho1 (Nat.le_refl _)
  have HT : Hid (keptR ys = tidy xs) := by
    rw [Hid, keptR_tidy ys (fun s hs => HOK.out s ((hym s).1 hs)) hyp]
    exact tidy_congr hym
  have HY := Lib.hid hyl
  have hb2s := hb12.size
  clear hyl hym hyp hg2 ho1 hv1 hb1 HS
  go_wp2
  go_loopw [4, 13] (fun v i wr => KeptInv w2 w2.heap.size n ys v i wr) (fun _ i _ => n - (intOf i).toNat)
  case atStart => exact ⟨0, 0, 0, none, by omega, rfl, rfl, by simp [keptR], by simpa [keptR] using ResStep.nil _ _, Past.refl _⟩
  case round =>
    obtain ⟨k, D, c', A', hk, rfl, rfl, hD, hv, hb⟩ := hrel
    have HD := Lib.hid hD
    clear hD
    have hys := hy2.below hb
    have hkl := keptR_le (ys.take k)
    rw [← HD.out, List.length_take] at hkl
    have hDk : D ≤ k := by omega
    clear hkl
    by_cases hlt : k < n
    · obtain ⟨⟨x0, x1⟩, ha⟩ : ∃ a, ys[k]? = some a := ⟨_, List.getElem?_eq_getElem (by have := HY.out; omega)⟩
      obtain ⟨g, o, rfl, d0, d1⟩ := hys k _ ha
      have HN := Lib.hid (show keptR (ys.take (k + 1)) = keepR (keptR (ys.take k)) ⟨x0, x1⟩ by rw [take_next ha, keptR_snoc])
      clear ha
      have i0' : (0 : Int) ≤ (k : Int) := by omega
      have i1' : (k : Int) < (n : Int) := by omega
      obtain ⟨W, hW⟩ : ∃ W, W = wr.alloc (.cells #[.int .i64 x0, .int .i64 x1] 42) := ⟨_, rfl⟩
      have hbW : Past wr W := by rw [hW]; exact (Past.refl _).alloc _
      have b0 : W.cell? ⟨wr.heap.size, 0, none⟩ = some (.int .i64 x0) := by rw [hW]; go_simp
      have b1 : W.cell? ⟨wr.heap.size, 1, none⟩ = some (.int .i64 x1) := by rw [hW]; go_simp
      have hvW := hv.below hbW
      have hbb := hb.trans hbW
      have hbs := hbb.size
      have HW := Lib.hid hW
      clear hW hv
      cases hK : keptR (ys.take k) with
      | nil =>
        have hD0 : D = 0 := by rw [HD.out, hK]; rfl
        have hD1 : ((D : Int) == 0) = true := by simp [hD0]
        rw [hK] at hvW
        have HE : Hid (keptR (ys.take (k + 1)) = [⟨x0, x1⟩]) := by rw [Hid, HN.out, hK]; rfl
        have HD0 := Lib.hid hD0
        clear hK hD0 HN HD
        go_wp2_with fail
        rw [← HW.out]
        go_quiet (fail)
        have hown : W.ownsRow w2.heap.size 42 2 (.slice A' D c') D [] := by have := hvW; unfold ResStep at this; simp only [List.reverse_nil, List.length_nil, cellsStep] at this; rw [HD0.out] at this ⊢; exact this
        have HO := Lib.hid hown
        clear hown hvW
        go_wp2_with (first | (at_builtin; refine wpList_append_lies _ rfl _ _ 51 rfl w2.heap.size 42 i0 _ 2 16 Try.underlying51 hi hz0 hz1 hz2 rfl (by decide) _ D _ rfl (World.ownsRow.alloc (w := W.drewN nq) HO.out _) ⟨W.heap.size, 0, none⟩ 1 1 [.int .i64 x0, .int .i64 x1] rfl rfl (newStep (W.drewN nq) _ _ _) (cellsStep_one [⟨x0, x1⟩]) (by omega) (by unfold maxLen; omega) (by omega) (by simp; omega) _ rfl ?_; intro gg cap w3 hown' hgrow3 hat hlt3))
        go_roundw
        case rel =>
          exact ⟨k + 1, D + 1, cap, _, by omega, by go_num, rfl, by rw [HE.out, HD0.out]; rfl, by rw [HE.out]; exact ResStep.push (xs := []) (a := ⟨x0, x1⟩) (by have := hown'; rw [HD0.out] at this ⊢; exact this), Past.grown ((hbb.drewN nq).alloc _) (World.ownsRow.alloc (w := W.drewN nq) HO.out _) hgrow3 (Nat.le_refl _)⟩
        case measure => simp [intOf]; omega
      | cons kk r =>
        obtain ⟨k0, k1⟩ := kk
        have hDr : D = r.length + 1 := by rw [HD.out, hK]; rfl
        have hD1 : ((D : Int) == 0) = false := by simp; omega
        rw [hK] at hvW
        have HDr := Lib.hid hDr
        obtain ⟨A2, c2, e2, hxW, _⟩ := hvW.form
        have hlr : ((⟨k0, k1⟩ :: r : List StepD).reverse).length = D := by simp [hDr]
        rw [hlr] at e2
        injection e2 with e2 _ e3
        subst e2 e3
        have hlast : ((⟨k0, k1⟩ :: r : List StepD).reverse)[D - 1]? = some ⟨k0, k1⟩ := by rw [hDr]; simp
        obtain ⟨g2, o2, rfl, f0, f1⟩ := hxW (D - 1) _ hlast
        have j0 : (0 : Int) ≤ (D : Int) - 1 := by omega
        have j1 : (D : Int) - 1 < (D : Int) := by omega
        have j2 : ((D : Int) - 1).toNat = D - 1 := by omega
        have j3 : IntKind.i64.wrap ((D : Int) - 1) = (D : Int) - 1 := IntWalk.i64_in _ (by omega)
        have HLR := Lib.hid hlr
        clear hlast hDr hlr hxW
        by_cases hc : x1 < k1
        · have q1 : decide (x1 < k1) = true := by simpa using hc
          have HE : Hid (keptR (ys.take (k + 1)) = ⟨x0, x1⟩ :: ⟨k0, k1⟩ :: r) := by rw [Hid, HN.out, hK]; simp [keepR, hc]
          clear hK HN HD
          go_wp2_with fail
          rw [← HW.out]
          go_quiet (fail)
          have hown : W.ownsRow w2.heap.size 42 2 (.slice (some ⟨g2, o2, none⟩) D c') D (cellsStep (⟨k0, k1⟩ :: r).reverse) := by have := hvW; unfold ResStep at this; rw [HLR.out] at this; exact this
          have HO := Lib.hid hown
          clear hown hvW
          go_wp2_with (first | (at_builtin; refine wpList_append_lies _ rfl _ _ 51 rfl w2.heap.size 42 i0 _ 2 16 Try.underlying51 hi hz0 hz1 hz2 rfl (by decide) _ D _ rfl (World.ownsRow.alloc (w := W.drewN nq) HO.out _) ⟨W.heap.size, 0, none⟩ 1 1 [.int .i64 x0, .int .i64 x1] rfl rfl (newStep (W.drewN nq) _ _ _) (cellsStep_one [⟨x0, x1⟩]) (by omega) (by unfold maxLen; omega) (by omega) (by simp; omega) _ rfl ?_; intro gg cap w3 hown' hgrow3 hat hlt3))
          go_roundw
          case rel =>
            refine ⟨k + 1, D + 1, cap, _, by omega, by go_num, rfl, by rw [HE.out, HDr.out]; rfl, ?_, Past.grown ((hbb.drewN nq).alloc _) (World.ownsRow.alloc (w := W.drewN nq) HO.out _) hgrow3 (Nat.le_refl _)⟩
            rw [HE.out, List.reverse_cons]
            exact ResStep.push (a := ⟨x0, x1⟩) (by rw [HLR.out]; exact hown')
          case measure => simp [intOf]; omega
        · have q1 : decide (x1 < k1) = false := by simpa using hc
          have HE : Hid (keptR (ys.take (k + 1)) = ⟨k0, k1⟩ :: r) := by rw [Hid, HN.out, hK]; simp [keepR, hc]
          clear hK HN HD
          go_wp2_with fail
          rw [← HW.out]
          go_quiet (fail)
          go_wp2
          go_roundw
          case rel => exact ⟨k + 1, D, c', _, by omega, by go_num, rfl, by rw [HE.out, HDr.out]; rfl, by rw [HE.out]; exact hvW.drewN nq, hbb.drewN nq⟩
          case measure => simp [intOf]; omega
    · obtain rfl : n = k := by omega
      have hfull : ys.take n = ys := List.take_of_length_le (by rw [HY.out]; exact Nat.le_refl _)
      rw [hfull] at hv
      have hlr : (keptR ys).reverse.length = D := by rw [List.length_reverse, HD.out, hfull]
      have hrev := revStep_any _ _ _ wr (by rw [hlr]; omega) hv
      have HR := Lib.hid hrev
      have HV := Lib.hid hv
      clear hrev hv hfull hlr
      go_wp2_with fail
      refine HR.out.mono ?_
      rintro e w5 ⟨rfl, hv5, hg5⟩
      rw [List.reverse_reverse] at hv5
      have hb5 : Past w w5 := Past.grown (hb12.trans hb) HV.out hg5 hb2s
      have HV5 := Lib.hid hv5
      clear hv5
      go_wp2
      go_ret
      exact ⟨_, rfl, by rw [← HT.out]; exact HV5.out.lower hb2s, hb5⟩

end Go.Proofs.Ythopenknfadciaa
