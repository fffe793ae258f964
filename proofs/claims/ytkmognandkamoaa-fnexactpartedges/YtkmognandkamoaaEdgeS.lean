/-
  Nodes with arcs to or from other parts, as the specification goes: spec.l10Parts, spec.l10Edge, spec.PartEdges. No condition.
-/
import Derived.Test.YtkmognandkamoaaMList
import Derived.Test.YtkmognandkamoaaPEdge
import Derived.Test.YtkmognandkamoaaCOfS
namespace Go.Proofs.Ytkmognandkamoaa
open Go.RowKit

set_option maxRecDepth 100000 in
set_option maxHeartbeats 1000000 in
theorem l10Parts_any (m : Int) (A : Option Addr) (n c : Nat) (B : Option Addr) (l cb : Nat) (ys : List Int) (w : World) (hl : l ≤ 1048576) (hly : ys.length = l) (hy : IntsAt w B ys) :
    Calls Try.prog 70 #[.agg #[.int .i64 m, .slice A n c], .slice B l cb] w fun e w' => e = .returned (.bool (decide ((ys.length : Int) = m) && ys.all (fun z => inB z 0 3))) ∧ Below w.heap.size w w' := by
  have HL := Lib.hid hly
  clear hly
  have hb0 : Past w (w.alloc (.cells #[.int .i64 m, .slice A n c] 29)) := (Past.refl _).alloc _
  go_enter Try.func70, Try.ntmps70
  go_wp2
  go_loopw [5] (fun i wr => ∃ k : Nat, k ≤ l ∧ i = .int .i64 k ∧ Past (w.alloc (.cells #[.int .i64 m, .slice A n c] 29)) wr ∧ (ys.take k).all (fun z => inB z 0 3) = true) (fun i _ => l - (intOf i).toNat)
  case atStart => exact ⟨0, by omega, rfl, Past.refl _, by simp⟩
  case round =>
    obtain ⟨k, hk, rfl, hb, hok⟩ := hrel
    have HK := Lib.hid hok
    clear hok
    have b0 := cell_in (p := ⟨w.heap.size, 0, none⟩) (v := .int .i64 m) hb (by go_simp)
    by_cases hlt : k < l
    · obtain ⟨y, ha⟩ : ∃ a, ys[k]? = some a := ⟨_, List.getElem?_eq_getElem (by have := HL.out; omega)⟩
      obtain ⟨g, o, rfl, c0⟩ := ((hy.below hb0).below hb) k _ ha
      have HA := Lib.hid ha
      clear ha
      have i0 : (0 : Int) ≤ (k : Int) := by omega
      have i1 : (k : Int) < (l : Int) := by omega
      go_wp2_with fail
      refine (l1In_any y 0 3 _).mono ?_
      rintro e w1 ⟨rfl, rfl⟩
      cases hB : inB y 0 3 with
      | false =>
        have HB := Lib.hid hB
        clear hB
        go_wp2
        go_ret
        exact ⟨ret_bool (by rw [all_bad HA.out HB.out]; simp), hb0.trans hb⟩
      | true =>
        have HB := Lib.hid hB
        clear hB
        go_wp2
        go_roundw
        case rel => exact ⟨k + 1, by omega, by go_num, hb, all_next HK.out HA.out HB.out⟩
        case measure => simp [intOf]; omega
    · obtain rfl : l = k := by omega
      by_cases hln : (l : Int) = m
      · have e1 : ((l : Int) == m) = true := by simpa using hln
        go_wp2
        go_ret
        exact ⟨ret_bool (by rw [ally_done HK.out HL.out, HL.out, decide_eq_true hln]; rfl), hb0.trans hb⟩
      · have e1 : ((l : Int) == m) = false := by simpa using hln
        go_wp2
        go_ret
        exact ⟨ret_bool (by rw [HL.out, decide_eq_false hln]; rfl), hb0.trans hb⟩

theorem edgeB_next {ps : List Int} {xs : List ArcD} {v : Int} {k : Nat} {a : ArcD} (h : edgeB ps (xs.take k) v = false) (ha : xs[k]? = some a) (hb : hitA ps a v = false) : edgeB ps (xs.take (k + 1)) v = false := by
  rw [edgeB, List.take_add_one, ha, List.any_append]
  rw [edgeB] at h
  rw [h]
  simp only [Option.toList_some, List.any_cons, List.any_nil, hb, Bool.or_false]
theorem edgeB_hit {ps : List Int} {xs : List ArcD} {v : Int} {k : Nat} {a : ArcD} (ha : xs[k]? = some a) (hb : hitA ps a v = true) : edgeB ps xs v = true := by
  rw [edgeB, List.any_eq_true]
  exact ⟨a, List.mem_of_getElem? ha, hb⟩
theorem getElem_part {d : List Int} {v : Int} (h0 : 0 ≤ v) (h : v < d.length) : d[v.toNat]? = some (at_ d v) := by
  have : v.toNat < d.length := by omega
  simp [at_, this]

set_option maxRecDepth 100000 in
set_option maxHeartbeats 2000000 in
theorem l10Edge_any (M : Nat) (A : Option Addr) (n c : Nat) (xs : List ArcD) (B : Option Addr) (cb : Nat) (ys : List Int) (v : Int) (w : World) (hn : n ≤ 1048576) (hnx : xs.length = n) (hx : ArcsAt w A xs) (hly : ys.length = M) (hy : IntsAt w B ys) (hin : ArcsIn M xs) :
    Calls Try.prog 73 #[.agg #[.int .i64 M, .slice A n c], .slice B M cb, .int .i64 v] w fun e w' => e = .returned (.bool (edgeB ys xs v)) ∧ Below w.heap.size w w' := by
  have HX := Lib.hid hnx
  have HY := Lib.hid hly
  have HIN := Lib.hid hin
  clear hnx hly hin
  obtain ⟨W, hW⟩ : ∃ W, W = w.alloc (.cells #[.int .i64 M, .slice A n c] 29) := ⟨_, rfl⟩
  have hb0 : Past w W := by rw [hW]; exact (Past.refl _).alloc _
  have B1 : W.cell? ⟨w.heap.size, 1, none⟩ = some (.slice A n c) := by rw [hW]; go_simp
  have hx0 := hx.below hb0
  have hy0 := hy.below hb0
  have HW := Lib.hid hW
  clear hW hx hy
  go_enter Try.func73, Try.ntmps73
  go_wp2
  rw [← HW.out]
  clear HW
  go_loopw [7] (fun i wr => ∃ k : Nat, k ≤ n ∧ i = .int .i64 k ∧ Past W wr ∧ edgeB ys (xs.take k) v = false) (fun i _ => n - (intOf i).toNat)
  case atStart => exact ⟨0, by omega, rfl, Past.refl _, by simp [edgeB]⟩
  case round =>
    obtain ⟨k, hk, rfl, hb, hok⟩ := hrel
    have HK := Lib.hid hok
    clear hok
    have b1 := cell_in hb B1
    by_cases hlt : k < n
    · obtain ⟨⟨f, t, c', l', d⟩, ha⟩ : ∃ a, xs[k]? = some a := ⟨_, List.getElem?_eq_getElem (by have := HX.out; omega)⟩
      obtain ⟨g', o', rfl, d0, d1, d2, d3, d4⟩ := (hx0.below hb) k _ ha
      have hab := HIN.out _ (List.mem_of_getElem? ha)
      simp only at hab
      obtain ⟨f0, f1, t0, t1, _⟩ := hab
      obtain ⟨x, ex⟩ : ∃ x, x = at_ ys f := ⟨_, rfl⟩
      obtain ⟨y, ey⟩ : ∃ y, y = at_ ys t := ⟨_, rfl⟩
      have q1 : ys[f.toNat]? = some x := by rw [ex]; exact getElem_part f0 (by rw [HY.out]; exact f1)
      have q2 : ys[t.toNat]? = some y := by rw [ey]; exact getElem_part t0 (by rw [HY.out]; exact t1)
      have hcr : crossB ys ⟨f, t, c', l', d⟩ = decide (x ≠ y) := by rw [crossB, ← ex, ← ey]
      have hbA : Past W (wr.alloc (.cells #[.int .i64 f, .int .i64 t, .int .i64 c', .int .i64 l', .int .i64 d] 52)) := hb.alloc _
      obtain ⟨g, o, rfl, c0⟩ := (hy0.below hbA) _ _ q1
      obtain ⟨g1, o1, eg, c1⟩ := (hy0.below hbA) _ _ q2
      injection eg with eg
      injection eg with eg1 eg2
      subst eg1 eg2
      have HA := Lib.hid ha
      have HC := Lib.hid hcr
      have hbF := hb0.trans hbA
      clear ha hcr q1 q2 ex ey hbA
      have i0 : (0 : Int) ≤ (k : Int) := by omega
      have i1 : (k : Int) < (n : Int) := by omega
      by_cases hfv : f = v
      · subst hfv
        by_cases hxy : x = y
        · subst hxy
          have HF : Hid (hitA ys ⟨f, t, c', l', d⟩ f = false) := by rw [Hid, hitA, HC.out]; simp
          go_wp2_with fail
          go_quiet (fail)
          go_wp2
          go_roundw
          case rel => exact ⟨k + 1, by omega, by go_num, (hb.alloc _).drewN _, edgeB_next HK.out HA.out HF.out⟩
          case measure => simp [intOf]; omega
        · have HF : Hid (hitA ys ⟨f, t, c', l', d⟩ f = true) := by rw [Hid, hitA, HC.out]; simp [hxy]
          have e1 : (x != y) = true := by simpa using hxy
          go_wp2_with fail
          go_quiet (fail)
          go_wp2
          go_ret
          exact ⟨ret_bool (edgeB_hit HA.out HF.out).symm, hbF.drewN _⟩
      · have e0 : (f == v) = false := by simpa using hfv
        by_cases htv : t = v
        · subst htv
          by_cases hxy : x = y
          · subst hxy
            have HF : Hid (hitA ys ⟨f, t, c', l', d⟩ t = false) := by rw [Hid, hitA, HC.out]; simp
            go_wp2_with fail
            go_quiet (fail)
            go_wp2
            go_roundw
            case rel => exact ⟨k + 1, by omega, by go_num, (hb.alloc _).drewN _, edgeB_next HK.out HA.out HF.out⟩
            case measure => simp [intOf]; omega
          · have HF : Hid (hitA ys ⟨f, t, c', l', d⟩ t = true) := by rw [Hid, hitA, HC.out]; simp [hxy]
            have e1 : (x != y) = true := by simpa using hxy
            go_wp2_with fail
            go_quiet (fail)
            go_wp2
            go_ret
            exact ⟨ret_bool (edgeB_hit HA.out HF.out).symm, hbF.drewN _⟩
        · have e1 : (t == v) = false := by simpa using htv
          have HF : Hid (hitA ys ⟨f, t, c', l', d⟩ v = false) := by rw [Hid, hitA, decide_eq_false hfv, decide_eq_false htv]; rfl
          go_wp2_with fail
          go_quiet (fail)
          go_wp2
          go_roundw
          case rel => exact ⟨k + 1, by omega, by go_num, (hb.alloc _).drewN _, edgeB_next HK.out HA.out HF.out⟩
          case measure => simp [intOf]; omega
    · obtain rfl : n = k := by omega
      go_wp2
      go_ret
      have := HK.out
      rw [List.take_of_length_le (by have := HX.out; omega)] at this
      exact ⟨ret_bool this.symm, hb0.trans hb⟩

theorem edges_none {m : Int} {xs : List ArcD} {ps : List Int} {k : Nat} (h : k = 0 ∨ ((k : Int) ≤ m ∧ partB m xs ps = true)) (hb : partB m xs ps = false) : edgesI m xs ps = edgesTo ps xs k := by
  rcases h with rfl | ⟨_, h⟩
  · rw [edgesI, hb]; rfl
  · rw [hb] at h; cases h
theorem edges_end {m : Int} {xs : List ArcD} {ps : List Int} {k : Nat} (h : k = 0 ∨ ((k : Int) ≤ m ∧ partB m xs ps = true)) (hk : ¬ (k : Int) < m) : edgesI m xs ps = edgesTo ps xs k := by
  cases hp : partB m xs ps with
  | false => exact edges_none h hp
  | true =>
    have h1 := ((netB_iff _ _).1 ((partB_iff _ _ _).1 hp).1).1
    have : m = k := by rcases h with rfl | ⟨h, _⟩ <;> omega
    rw [edgesI, hp, if_pos rfl, this, Int.toNat_natCast]

set_option maxRecDepth 100000 in
set_option maxHeartbeats 2000000 in
theorem specPartEdges_any (m : Int) (A : Option Addr) (n c : Nat) (xs : List ArcD) (B : Option Addr) (l cb : Nat) (ys : List Int) (w : World) (hn : n ≤ 1048576) (hnx : xs.length = n) (hx : ArcsAt w A xs) (hl : l ≤ 1048576) (hly : ys.length = l) (hy : IntsAt w B ys) :
    Calls Try.prog 36 #[.agg #[.int .i64 m, .slice A n c], .slice B l cb] w (Gives w (edgesI m xs ys)) := by
  have HX := Lib.hid hnx
  have HY := Lib.hid hly
  clear hnx hly
  obtain ⟨i0, hi, hz0, hz1, hz2⟩ := info_parts infoInt
  obtain ⟨Wb, hWb⟩ : ∃ Wb, Wb = w.alloc (.cells #[.int .i64 m, .slice A n c] 29) := ⟨_, rfl⟩
  obtain ⟨W, hW⟩ : ∃ W, W = Wb.alloc (.cells #[] 3) := ⟨_, rfl⟩
  have hb0 : Past w Wb := by rw [hWb]; exact (Past.refl _).alloc _
  have hbW : Past Wb W := by rw [hW]; exact (Past.refl _).alloc _
  have hsz : Wb.heap.size = w.heap.size + 1 := by rw [hWb]; simp
  have hres : Res W (w.heap.size + 1) (.slice (some ⟨w.heap.size + 1, 0, none⟩) 0 0) (edgesTo ys xs 0) := by rw [hW, hWb]; exact res_none _ _ _
  have B0 : Wb.cell? ⟨w.heap.size, 0, none⟩ = some (.int .i64 m) := by rw [hWb]; go_simp
  have B1 : Wb.cell? ⟨w.heap.size, 1, none⟩ = some (.slice A n c) := by rw [hWb]; go_simp
  have HE := Lib.hid (hWb ▸ hW)
  have hx0 := hx.below hb0
  have hy0 := hy.below hb0
  clear hW hWb hx hy
  go_enter Try.func36, Try.ntmps36
  go_wp2
  rw [← HE.out]
  clear HE
  go_loopw [5, 6] (fun v i wr => ∃ k : Nat, (k = 0 ∨ ((k : Int) ≤ m ∧ partB m xs ys = true)) ∧ i = .int .i64 k ∧ Res wr (w.heap.size + 1) v (edgesTo ys xs k) ∧ Past Wb wr) (fun _ i _ => m.toNat - (intOf i).toNat)
  case atStart => exact ⟨0, .inl rfl, rfl, hres, hbW⟩
  case round =>
    obtain ⟨k, hk, rfl, hv, hb⟩ := hrel
    have HK := Lib.hid hk
    clear hk hres hbW
    have b0 := cell_in hb B0
    have b1 := cell_in hb B1
    by_cases hlt : (k : Int) < m
    · go_wp2_with fail
      refine (l1Ok_any m A n c xs _ hn HX.out (hx0.below hb)).mono ?_
      rintro e w1 ⟨rfl, hb1⟩
      have hv := hv.below hb1
      have hb := hb.trans hb1
      clear hb1 b0 b1
      have b0 := cell_in hb B0
      have b1 := cell_in hb B1
      cases hB : netB m xs with
      | false =>
        have HB : Hid (partB m xs ys = false) := by rw [Hid, partB, hB]; rfl
        clear hB
        go_wp2
        go_ret
        exact ⟨_, rfl, by rw [edges_none HK.out HB.out]; exact hv.lower (by omega), hb0.trans hb⟩
      | true =>
        obtain ⟨M, rfl, h1, h8⟩ := here_nat hB
        have HB := Lib.hid hB
        clear hB
        go_wp2_with fail
        refine (l10Parts_any (M : Int) A n c B l cb ys _ hl HY.out (hy0.below hb)).mono ?_
        rintro e w2 ⟨rfl, hb2⟩
        have hPB : (decide ((ys.length : Int) = (M : Int)) && ys.all (fun z => inB z 0 3)) = partB (M : Int) xs ys := by rw [partB, HB.out, Bool.true_and]
        rw [hPB]
        have hv := hv.below hb2
        have hb := hb.trans hb2
        clear hb2 b0 b1 hPB
        have b0 := cell_in hb B0
        have b1 := cell_in hb B1
        cases hC : partB (M : Int) xs ys with
        | false =>
          have HC := Lib.hid hC
          clear hC
          go_wp2
          go_ret
          exact ⟨_, rfl, by rw [edges_none HK.out HC.out]; exact hv.lower (by omega), hb0.trans hb⟩
        | true =>
          have hlM : l = M := by have := ((partB_iff _ _ _).1 hC).2.1; have := HY.out; omega
          subst hlM
          have HC := Lib.hid hC
          clear hC
          go_wp2_with fail
          refine (l10Edge_any l A n c xs B cb ys (k : Int) _ hn HX.out (hx0.below hb) HY.out (hy0.below hb) (arcsIn_net HB.out)).mono ?_
          rintro e w3 ⟨rfl, hb3⟩
          have hv := hv.below hb3
          have hb := hb.trans hb3
          have hz := hb.size
          clear hb3 b0 b1
          have hlen := edgesTo_len ys xs k
          have hnext := edgesTo_next ys xs k
          cases hE : edgeB ys xs (k : Int) with
          | false =>
            rw [hE] at hnext
            simp only [Bool.false_eq_true, if_false, List.append_nil] at hnext
            have HN := Lib.hid hnext
            clear hE hnext
            go_wp2
            go_roundw
            case rel => exact ⟨k + 1, .inr ⟨by omega, HC.out⟩, by go_num, by rw [HN.out]; exact hv, hb⟩
            case measure => simp [intOf]; omega
          | true =>
            rw [hE, if_pos rfl] at hnext
            obtain ⟨L, hL⟩ : ∃ L, L = edgesTo ys xs k := ⟨_, rfl⟩
            rw [← hL] at hnext hv hlen
            have HN := Lib.hid hnext
            clear hE hnext hL
            unfold Res at hv
            go_wp2_with (first | (at_builtin; refine wpList_append_own _ rfl _ _ 25 rfl (w.heap.size + 1) 3 i0 (.int .i64 0) 1 8 Try.underlying25 hi hz0 hz1 hz2 rfl (by decide) _ _ _ rfl (hv.alloc _) ⟨w3.heap.size, 0, none⟩ 1 1 [.int .i64 (k : Int)] rfl rfl (cell_one_new _ _ _) (one_cell (k : Int)) (by unfold maxLen; omega) (by omega) (by simp; omega) ?_; intro v' w4 hown' hgrow4 hnil4))
            go_roundw
            case rel => exact ⟨k + 1, .inr ⟨by omega, HC.out⟩, by go_num, by rw [HN.out]; exact Res.push hown', Past.grown (hb.alloc _) (hv.alloc _) hgrow4 (by omega)⟩
            case measure => simp [intOf]; omega
    · go_wp2
      go_ret
      exact ⟨_, rfl, by rw [edges_end HK.out (by omega)]; exact hv.lower (by omega), hb0.trans hb⟩

end Go.Proofs.Ytkmognandkamoaa
