/-
  A walk without its rings: spec.WalkPlain, impl.WalkPlain.
-/
import Derived.Test.YtiihmagdimekgaaPlain
namespace Go.Proofs.Ytiihmagdimekgaa
open Go.RowKit

set_option maxHeartbeats 400000 in
theorem implWalkPlain_any (m : Int) (A B : Option Addr) (n c l cb : Nat) (xs : List ArcD) (ys : List Int) (w : World) (hn : n ≤ 1048576) (hl : l ≤ 1048576) (hnx : xs.length = n) (hny : ys.length = l) (hx : ArcsAt w A xs) (hy : IntsAt w B ys) :
    Calls Try.prog 39 #[.agg #[.int .i64 m, .slice A n c], .slice B l cb] w (Gives w (plainI m xs ys)) := by
  have HX := Lib.hid hnx
  have HY := Lib.hid hny
  clear hnx hny
  have hb0 : Past w (w.alloc (.cells #[.int .i64 m, .slice A n c] 29)) := (Past.refl _).alloc _
  go_enter Try.func39, Try.ntmps39
  go_wp2_with fail
  refine (implWalkOk_any m A B n c l cb xs ys _ hn hl HX.out HY.out (hx.below hb0) (hy.below hb0)).mono ?_
  rintro e w1 ⟨rfl, hb1⟩
  have b0 := cell_in (p := ⟨w.heap.size, 0, none⟩) (v := .int .i64 m) hb1 (by go_simp)
  have b1 := cell_in (p := ⟨w.heap.size, 1, none⟩) (v := .slice A n c) hb1 (by go_simp)
  cases hB : okB m xs ys with
  | false =>
    have HB := Lib.hid hB
    clear hB
    go_wp2
    go_ret
    exact ⟨_, rfl, by simp only [plainI, HB.out, Bool.false_eq_true, if_false]; exact Res.nil _ _, hb0.trans hb1⟩
  | true =>
    have HB := Lib.hid hB
    clear hB
    go_wp2_with fail
    refine (walkPlain_any m A B n c l cb xs ys _ HX.out HY.out ((hx.below hb0).below hb1) ((hy.below hb0).below hb1) HB.out).mono ?_
    rintro e w2 ⟨v, rfl, hv, hb2⟩
    go_wp2
    go_ret
    exact ⟨_, rfl, hv.lower (hb0.trans hb1).size, hb0.trans (Past.trans hb1 hb2)⟩

/-- At the head of a round: what was kept, and where the walk stands. -/
def PlainHead (nd ys tot done : List Int) (l i : Nat) : Prop := (i ≤ l ∧ ∃ fuel, PlainAt nd ys tot done i fuel) ∨ (i = l + 1 ∧ done = tot)

/-- p is where x stands last among places i to k. -/
structure LastIn (nd : List Int) (x : Int) (i p k : Nat) : Prop where
  lo : i ≤ p
  hi : p ≤ k
  here : nd[p]? = some x
  none_ : ∀ j, p < j → j ≤ k → nd[j]? ≠ some x

theorem LastIn.miss {nd : List Int} {x : Int} {i p k : Nat} (h : LastIn nd x i p k) (hne : nd[k + 1]? ≠ some x) : LastIn nd x i p (k + 1) :=
  ⟨h.lo, by have := h.hi; omega, h.here, fun j h1 h2 => by
    rcases Nat.lt_or_ge k j with hlt | hge
    · obtain rfl : j = k + 1 := by omega
      exact hne
    · exact h.none_ j h1 hge⟩
theorem LastIn.hit {nd : List Int} {x : Int} {i p k : Nat} (h : LastIn nd x i p k) (he : nd[k + 1]? = some x) : LastIn nd x i (k + 1) (k + 1) :=
  ⟨by have := h.lo; have := h.hi; omega, Nat.le_refl _, he, fun j h1 h2 => by omega⟩
theorem LastIn.last {nd : List Int} {x : Int} {i p k : Nat} (h : LastIn nd x i p k) (hl : nd.length ≤ k + 1) : IsLast nd x p :=
  ⟨h.here, fun j hj => by
    rcases Nat.lt_or_ge k j with hlt | hge
    · rw [List.getElem?_eq_none (by omega)]; simp
    · exact h.none_ j hj hge⟩

set_option maxHeartbeats 2000000 in
theorem specWalkPlain_any (m : Int) (A B : Option Addr) (n c l cb : Nat) (xs : List ArcD) (ys : List Int) (w : World) (hn : n ≤ 1048576) (hl : l ≤ 1048576) (hnx : xs.length = n) (hny : ys.length = l) (hx : ArcsAt w A xs) (hy : IntsAt w B ys) :
    Calls Try.prog 38 #[.agg #[.int .i64 m, .slice A n c], .slice B l cb] w (Gives w (plainI m xs ys)) := by
  have HX := Lib.hid hnx
  have HY := Lib.hid hny
  clear hnx hny
  obtain ⟨i0, hi, hz0, hz1, hz2⟩ := info_parts infoInt
  have hb0 : Past w (w.alloc (.cells #[.int .i64 m, .slice A n c] 29)) := (Past.refl _).alloc _
  go_enter Try.func38, Try.ntmps38
  go_wp2_with fail
  have hb00 : Past (w.alloc (.cells #[.int .i64 m, .slice A n c] 29)) ((w.alloc (.cells #[.int .i64 m, .slice A n c] 29)).alloc (.cells #[] 3)) := (Past.refl _).alloc _
  refine (l1Ok_any m A n c xs _ hn HX.out ((hx.below hb0).below hb00)).mono ?_
  rintro e w1 ⟨rfl, hb1⟩
  have hb01 := hb00.trans hb1
  have b0 := cell_in (p := ⟨w.heap.size, 0, none⟩) (v := .int .i64 m) hb01 (by go_simp)
  have b1 := cell_in (p := ⟨w.heap.size, 1, none⟩) (v := .slice A n c) hb01 (by go_simp)
  have hres0 : Res w1 (w.heap.size + 1) (.slice (some ⟨w.heap.size + 1, 0, none⟩) 0 0) [] := by
    refine Res.below (w := (w.alloc (.cells #[.int .i64 m, .slice A n c] 29)).alloc (.cells #[] 3)) ?_ hb1
    refine ⟨rfl, .inr ⟨w.heap.size + 1, 0, #[], rfl, Nat.le_refl _, ?_, Nat.le_refl _, by unfold maxLen; omega, rfl, rfl⟩⟩
    have := heap_alloc_new (w.alloc (.cells #[.int .i64 m, .slice A n c] 29)) (.cells #[] 3)
    simpa using this
  have hx1 := (hx.below hb0).below hb01
  have hy1 := (hy.below hb0).below hb01
  clear hb00 hb1
  cases hB : netB m xs with
  | false =>
    have HB := Lib.hid hB
    clear hB
    go_wp2
    go_ret
    exact ⟨_, rfl, by simp only [plainI, okB, HB.out, Bool.false_and, Bool.false_eq_true, if_false]; exact Res.nil _ _, hb0.trans hb01⟩
  | true =>
    have HB := Lib.hid hB
    clear hB
    go_wp2_with fail
    refine (l2Ok_any m A B n c l cb xs ys _ hn hl HX.out HY.out hx1 hy1).mono ?_
    rintro e w2 ⟨rfl, hb2⟩
    have b0 := cell_in hb2 b0
    have b1 := cell_in hb2 b1
    have hres2 := hres0.below hb2
    have hb02 := hb01.trans hb2
    clear hb01 hb2 hx1 hy1 hres0
    cases hC : walkB xs ys with
    | false =>
      have HC := Lib.hid hC
      clear hC
      go_wp2
      go_ret
      exact ⟨_, rfl, by simp only [plainI, okB, HC.out, Bool.and_false, Bool.false_eq_true, if_false]; exact Res.nil _ _, hb0.trans hb02⟩
    | true =>
      have HO := Lib.hid ((okB_iff m xs ys).2 ⟨HB.out, hC⟩)
      clear hC
      have h20 : l ≤ 20 := by rw [← HY.out]; exact ok_len HO.out
      have h16 : n ≤ 16 := by rw [← HX.out]; exact ok_num HO.out
      obtain ⟨nd, hnd⟩ : ∃ nd, nd = nodesW xs ys := ⟨_, rfl⟩
      obtain ⟨tot, htot⟩ : ∃ tot, tot = plainI m xs ys := ⟨_, rfl⟩
      have HND := Lib.hid hnd
      have HTT := Lib.hid htot
      clear hnd htot
      have hstart : PlainHead nd ys tot [] l 0 := by
        by_cases hl0 : l = 0
        · refine .inl ⟨by omega, 1, ?_, by have := HY.out; omega, by omega⟩
          have h0 : ys.length = 0 := by rw [HY.out]; exact hl0
          rw [HTT.out, plainI, if_pos HO.out, if_pos h0]
          simp [plainFrom, h0]
        · refine .inl ⟨by omega, ys.length + 1, ?_, by omega, by omega⟩
          rw [HTT.out, plainI, if_pos HO.out, if_neg (by rw [HY.out]; exact hl0), plainW, HND.out]
          rfl
      have htl : tot.length ≤ 21 := by
        rw [HTT.out, plainI, if_pos HO.out]
        split
        · simp
        · have := plainFrom_len (nodesW xs ys) ys (ys.length + 1) 0
          unfold plainW
          have := HY.out
          omega
      go_wp2
      go_loopw [5, 6] (fun v q wr => ∃ (i : Nat) (done : List Int), i ≤ l + 1 ∧ q = .int .i64 i ∧ Res wr (w.heap.size + 1) v done ∧ done.length ≤ 21 ∧ PlainHead nd ys tot done l i ∧ Past (w.alloc (.cells #[.int .i64 m, .slice A n c] 29)) wr) (fun _ q _ => l + 1 - (intOf q).toNat)
      case atStart => exact ⟨0, [], by omega, rfl, hres2, by simp, hstart, hb02⟩
      case round =>
        obtain ⟨i, done, hil, rfl, hv, hdl, hp, hb⟩ := hrel
        have b0 := cell_in (p := ⟨w.heap.size, 0, none⟩) (v := .int .i64 m) hb (by go_simp)
        have b1 := cell_in (p := ⟨w.heap.size, 1, none⟩) (v := .slice A n c) hb (by go_simp)
        have hx3 := (hx.below hb0).below hb
        have hy3 := (hy.below hb0).below hb
        by_cases hlt : i < l
        · obtain ⟨y, ha⟩ : ∃ a, ys[i]? = some a := ⟨_, List.getElem?_eq_getElem (by have := HY.out; omega)⟩
          obtain ⟨g, o, rfl, c0⟩ := hy3 i _ ha
          obtain ⟨j, ⟨f, t, c', l', d⟩, rfl, hj, q0, q1, he⟩ := ok_arc HO.out ha
          obtain ⟨g', o', rfl, d0, d1, d2, d3, d4⟩ := hx3 j _ hj
          have hjn : j < n := by rw [← HX.out]; exact (List.getElem?_eq_some_iff.1 hj).1
          have hfrom : nd[i]? = some f := by rw [HND.out, nodesW_from HO.out (by rw [HY.out]; exact hlt), he]
          have HF := Lib.hid hfrom
          clear ha hj he q0 q1 hfrom d1 d2 d3 d4
          have i0' : (0 : Int) ≤ (i : Int) := by omega
          have i1 : (i : Int) < (l : Int) := by omega
          have j0 : (0 : Int) ≤ (j : Int) := by omega
          have j1 : (j : Int) < (n : Int) := by omega
          go_wp2_with fail
          go_quiet (fail)
          go_wp2
          have hbq0 : Past wr (wr.drewN nq) := (Past.refl wr).drewN nq
          go_loopw [6, 8] (fun p' q' wq => ∃ p k : Nat, k ≤ l ∧ p' = .int .i64 p ∧ q' = .int .i64 k ∧ LastIn nd f i p k ∧ Past wr wq) (fun _ q' _ => l - (intOf q').toNat)
          case atStart => exact ⟨i, i, by omega, rfl, rfl, ⟨Nat.le_refl _, Nat.le_refl _, HF.out, fun j h1 h2 => by omega⟩, hbq0⟩
          case round =>
            obtain ⟨p, k, hkl, rfl, rfl, hlast, hbq⟩ := hrel
            clear hbq0 c0 d0
            have b0 := cell_in hbq b0
            have b1 := cell_in hbq b1
            by_cases hkl' : k < l
            · obtain ⟨y, ha⟩ : ∃ a, ys[k]? = some a := ⟨_, List.getElem?_eq_getElem (by have := HY.out; omega)⟩
              obtain ⟨g1, o1, eg, c0⟩ := (hy3.below hbq) k _ ha
              injection eg with eg
              injection eg with eg1 eg2
              subst eg1 eg2
              obtain ⟨j2, ⟨f2, t2, c2', l2', d2'⟩, rfl, hj2, q0, q1, he⟩ := ok_arc HO.out ha
              obtain ⟨g1, o1, eg, d0, d1, d2, d3, d4⟩ := (hx3.below hbq) j2 _ hj2
              injection eg with eg
              injection eg with eg1 eg2
              subst eg1 eg2
              have hjn2 : j2 < n := by rw [← HX.out]; exact (List.getElem?_eq_some_iff.1 hj2).1
              have hto : nd[k + 1]? = some t2 := by rw [HND.out, nodesW_to (by rw [HY.out]; exact hkl'), he]
              have k0' : (0 : Int) ≤ (k : Int) := by omega
              have k1 : (k : Int) < (l : Int) := by omega
              have j0 : (0 : Int) ≤ (j2 : Int) := by omega
              have j1 : (j2 : Int) < (n : Int) := by omega
              by_cases hhit : t2 = f
              · have hl2 := hlast.hit (by rw [hto, hhit])
                have HL2 := Lib.hid hl2
                have htf : (t2 == f) = true := by simpa using hhit
                clear ha hj2 he q0 q1 hto hhit hl2
                go_wp2_with fail
                go_quiet (fail)
                go_wp2
                go_roundw
                case rel => exact ⟨k + 1, k + 1, by omega, by go_num, by go_num, HL2.out, hbq.drewN _⟩
                case measure => simp [intOf]; omega
              · have hl2 := hlast.miss (by rw [hto]; simpa using hhit)
                have HL2 := Lib.hid hl2
                have htf : (t2 == f) = false := by simpa using hhit
                clear ha hj2 he q0 q1 hto hhit hl2
                go_wp2_with fail
                go_quiet (fail)
                go_wp2
                go_roundw
                case rel => exact ⟨p, k + 1, by omega, rfl, by go_num, HL2.out, hbq.drewN _⟩
                case measure => simp [intOf]; omega
            · obtain rfl : l = k := by omega
              have hnl : nd.length ≤ l + 1 := by rw [HND.out, nodesW_length (by rw [HY.out]; omega), HY.out]; omega
              have hla := hlast.last hnl
              have hpi := hlast.lo
              have hpl := hlast.hi
              have hv2 := hv.below hbq
              have hb2 := hb.trans hbq
              obtain ⟨hi1, fuel, hpa⟩ : i ≤ l ∧ ∃ fuel, PlainAt nd ys tot done i fuel := by
                rcases hp with hp | ⟨h1, _⟩
                · exact hp
                · omega
              have hna : numOf nd i = f := numOf_at HF.out
              by_cases hpl' : p < l
              · obtain ⟨fuel', hp'⟩ := hpa.next (by rw [hna]; exact hla) hpi (by rw [HY.out]; exact hpl')
                obtain ⟨g1, o1, eg, c0⟩ := (hy3.below hbq) p _ (at_numOf (by rw [HY.out]; exact hpl'))
                injection eg with eg
                injection eg with eg1 eg2
                subst eg1 eg2
                obtain ⟨y1, hy1'⟩ : ∃ y1, y1 = numOf ys p := ⟨_, rfl⟩
                rw [← hy1'] at c0 hp'
                have HP' := Lib.hid hp'
                have hdl' := hp'.len
                simp only [List.length_append, List.length_cons, List.length_nil] at hdl'
                have p0' : (0 : Int) ≤ (p : Int) := by omega
                have p1 : (p : Int) < (l : Int) := by omega
                have hbs := hb2.size
                simp only [World.size_alloc] at hbs
                unfold Res at hv2
                obtain ⟨D, hD⟩ : ∃ D, D = done.length := ⟨_, rfl⟩
                rw [← hD] at hv2 hdl'
                have HDD := Lib.hid hD
                clear hy1' hp' hpa hla hna hnl hlast hD hp hv
                go_wp2_with (first | (at_builtin; refine wpList_append_own _ rfl _ _ 33 rfl (w.heap.size + 1) 3 i0 (.int .i64 0) 1 8 Try.underlying33 hi hz0 hz1 hz2 rfl (by decide) _ _ _ rfl (hv2.alloc _) ⟨wr.heap.size, 0, none⟩ 1 1 [.int .i64 y1] rfl rfl (cell_one_new _ _ _) (one_cell y1) (by unfold maxLen; omega) (by omega) (by simp; omega) ?_; intro v' w3 hown' hgrow3 hnil3))
                go_roundw
                case rel => exact ⟨p + 1, done ++ [y1], by omega, by go_num, Res.push (by rw [← HDD.out]; exact hown'), by simp; have := HDD.out; omega, .inl ⟨by omega, fuel', HP'.out⟩, Past.grown (hb2.alloc _) (hv2.alloc _) hgrow3 (by simp)⟩
                case measure => simp [intOf]; omega
              · have hdone := hpa.stop (by rw [hna]; exact hla) (by rw [HY.out]; omega)
                have HDN := Lib.hid hdone
                clear hdone hna hla hpa hnl hlast hp
                go_wp2
                go_roundw
                case rel => exact ⟨p + 1, done, by omega, by go_num, hv2, hdl, .inr ⟨by omega, HDN.out⟩, hb2⟩
                case measure => simp [intOf]; omega
        · have hdone : done = tot := by
            rcases hp with ⟨h1, fuel, hpa⟩ | ⟨_, h2⟩
            · obtain rfl : i = l := by omega
              by_cases hl0 : i = 0
              · have h0 : ys.length = 0 := by rw [HY.out]; exact hl0
                have := hpa.whole
                have hpl : plainFrom nd ys fuel i = [] := by
                  cases fuel with
                  | zero => rfl
                  | succ fuel => simp [plainFrom, h0]
                rw [hpl, List.append_nil] at this
                exact this
              · have hnl : nd.length = i + 1 := by rw [HND.out, nodesW_length (by rw [HY.out]; omega), HY.out]
                exact hpa.stop (i := i) ⟨at_numOf (by omega), fun j hj => by rw [List.getElem?_eq_none (by omega)]; simp⟩ (by rw [HY.out]; omega)
            · exact h2
          have HDN := Lib.hid hdone
          clear hdone hp
          go_wp2
          go_ret
          exact ⟨_, rfl, by rw [← HTT.out, ← HDN.out]; exact hv.lower (by omega), hb0.trans hb⟩

end Go.Proofs.Ytiihmagdimekgaa
