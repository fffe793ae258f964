/-
  What is known of marks, as the specification goes: spec.l12Less, spec.l12Bound, spec.MarkBound. No condition.
-/
import Derived.Test.YtgeoheeibebmcaaNTo
import Derived.Test.YtgeoheeibebmcaaMList
import Derived.Test.YtgeoheeibebmcaaPMark
import Derived.Test.YtgeoheeibebmcaaQPast
namespace Go.Proofs.Ytgeoheeibebmcaa
open Go.RowKit

set_option maxRecDepth 100000 in
set_option maxHeartbeats 2000000 in
theorem l12Less_any (M : Nat) (A : Option Addr) (n c : Nat) (xs : List ArcD) (k f t : Int) (w : World) (hM : M ≤ 8) (hn : n ≤ 16) (hnx : xs.length = n) (hx : ArcsAt w A xs) (hB : netB (M : Int) xs = true) (hk : 0 ≤ k ∧ k < M) (hf : 0 ≤ f ∧ f < M) (ht : 0 ≤ t ∧ t < M) :
    Calls Try.prog 116 #[.agg #[.int .i64 (M : Int), .slice A n c], .int .i64 k, .int .i64 f, .int .i64 t] w fun e w' => e = .returned (.int .i64 (lessM (nearL M xs k) (nearL M (xs.map flip) k) f t)) ∧ Below w.heap.size w w' := by
  have HX := Lib.hid hnx
  have HB := Lib.hid hB
  clear hnx hB
  have hb0 : Past w (w.alloc (.cells #[.int .i64 (M : Int), .slice A n c] 30)) := (Past.refl _).alloc _
  go_enter Try.func116, Try.ntmps116
  go_wp2_with fail
  refine (l3All_any M k A n c xs _ hM HX.out (by omega) (hx.below hb0) (arcsIn_net HB.out) hk).mono ?_
  rintro e w1 ⟨v1, rfl, hv1, hb1⟩
  obtain ⟨D, cd, rfl, hd1, _⟩ := hv1.form
  rw [nearL_length]
  obtain ⟨d, hd⟩ : ∃ d, d = nearL M xs k := ⟨_, rfl⟩
  rw [← hd] at hd1
  have HD := Lib.hid hd
  have hx1 := (hx.below hb0).below hb1
  have b0 := cell_in (p := ⟨w.heap.size, 0, none⟩) (v := .int .i64 (M : Int)) hb1 (by go_simp)
  have b1 := cell_in (p := ⟨w.heap.size, 1, none⟩) (v := .slice A n c) hb1 (by go_simp)
  clear hv1
  go_wp2_with fail
  refine (l1Back_any (M : Int) A n c xs _ hn HX.out hx1).mono ?_
  rintro e w2 ⟨A2, c2, rfl, hx2, _, hb2⟩
  obtain ⟨N2, hN2⟩ : ∃ N2, (xs.map flip).length = N2 := ⟨_, rfl⟩
  have h2 : N2 ≤ 16 := by rw [← hN2, List.length_map, HX.out]; exact hn
  rw [hN2]
  have HN2 := Lib.hid hN2
  clear hN2
  go_wp2_with fail
  refine (l3All_any M k A2 N2 c2 (xs.map flip) _ hM HN2.out (by omega) hx2 (arcsIn_net (netB_flip' HB.out)) hk).mono ?_
  rintro e w3 ⟨v3, rfl, hv3, hb3⟩
  obtain ⟨E, ce, rfl, he3, _⟩ := hv3.form
  rw [nearL_length]
  obtain ⟨b, hb⟩ : ∃ b, b = nearL M (xs.map flip) k := ⟨_, rfl⟩
  rw [← hb] at he3
  have HE := Lib.hid hb
  have hd3 := (hd1.below hb2).below hb3
  have hp : Past w w3 := hb0.trans (Past.trans hb1 (Past.trans hb2 hb3))
  obtain ⟨q1, q2, q3, q4⟩ := four (arcsIn_net HB.out) hf ht hk
  rw [← hd] at q1 q2
  rw [← hb] at q3 q4
  have hdl : d.length = M := by rw [hd, nearL_length]
  have hbl : b.length = M := by rw [hb, nearL_length]
  obtain ⟨x1, hx1'⟩ : ∃ x, x = at_ d f := ⟨_, rfl⟩
  obtain ⟨x2, hx2'⟩ : ∃ x, x = at_ d t := ⟨_, rfl⟩
  obtain ⟨x3, hx3'⟩ : ∃ x, x = at_ b f := ⟨_, rfl⟩
  obtain ⟨x4, hx4'⟩ : ∃ x, x = at_ b t := ⟨_, rfl⟩
  have e1 := getElem_at d f.toNat (by omega)
  have e2 := getElem_at d t.toNat (by omega)
  have e3 := getElem_at b f.toNat (by omega)
  have e4 := getElem_at b t.toNat (by omega)
  rw [Int.toNat_of_nonneg hf.1] at e1 e3
  rw [Int.toNat_of_nonneg ht.1] at e2 e4
  obtain ⟨g, o, rfl, d0⟩ := hd3 _ _ e1
  obtain ⟨g', o', eg, d1⟩ := hd3 _ _ e2
  injection eg with eg; injection eg with eg1 eg2; subst eg1 eg2
  obtain ⟨h, r, rfl, f0⟩ := he3 _ _ e3
  obtain ⟨h', r', eh, f1⟩ := he3 _ _ e4
  injection eh with eh; injection eh with eh1 eh2; subst eh1 eh2
  have HL : Hid (lessM d b f t = (let p := if x1 < 99999 ∧ 0 < x2 - x1 then x2 - x1 else 0
    let q := if x4 < 99999 ∧ p < x3 - x4 then x3 - x4 else p
    if 49999 < q then 99999 else q)) := by rw [Hid, lessM, hx1', hx2', hx3', hx4']
  rw [← hx1'] at q1 d0
  rw [← hx2'] at q2 d1
  rw [← hx3'] at q3 f0
  rw [← hx4'] at q4 f1
  have t1 : IntKind.i64.wrap (x2 - x1) = x2 - x1 := IntWalk.i64_in _ (by omega)
  have t2 : IntKind.i64.wrap (x3 - x4) = x3 - x4 := IntWalk.i64_in _ (by omega)
  have i0 := hf.1
  have i1 := hf.2
  have i2 := ht.1
  have i3 := ht.2
  clear hd hb hx1' hx2' hx3' hx4' e1 e2 e3 e4 hd3 he3 hv3 hd1 hx1 hx2 hdl hbl
  have hfin : ∀ (y : Int), lessM d b f t = y → ∀ W, Past w3 W → (Ending.returned (.int .i64 y) = Ending.returned (.int .i64 (lessM (nearL M xs k) (nearL M (xs.map flip) k) f t)) ∧ Below w.heap.size w W) := fun y h W hW => ⟨ret_int (by rw [← HD.out, ← HE.out, h]), hp.trans hW⟩
  have FIN := Lib.hid hfin
  clear hfin hp
  by_cases c1 : x1 < 99999
  · by_cases c2 : 0 < x2 - x1
    · skip
      by_cases c3 : x4 < 99999
      · by_cases c4 : x2 - x1 < x3 - x4
        · skip
          by_cases c5 : 49999 < x3 - x4
          · go_wp2_with fail
            go_quiet (fail)
            go_wp2_with fail
            go_quiet (fail)
            go_wp2_with fail
            go_quiet (fail)
            go_wp2_with fail
            go_quiet (fail)
            go_wp2
            go_ret
            exact FIN.out (99999) (by rw [HL.out]; (try simp only); (repeat' split) <;> omega) _ ((Past.refl w3).drewN _)
          · go_wp2_with fail
            go_quiet (fail)
            go_wp2_with fail
            go_quiet (fail)
            go_wp2_with fail
            go_quiet (fail)
            go_wp2_with fail
            go_quiet (fail)
            go_wp2
            go_ret
            exact FIN.out (x3 - x4) (by rw [HL.out]; (try simp only); (repeat' split) <;> omega) _ ((Past.refl w3).drewN _)
        · skip
          by_cases c5 : 49999 < x2 - x1
          · go_wp2_with fail
            go_quiet (fail)
            go_wp2_with fail
            go_quiet (fail)
            go_wp2_with fail
            go_quiet (fail)
            go_wp2
            go_ret
            exact FIN.out (99999) (by rw [HL.out]; (try simp only); (repeat' split) <;> omega) _ ((Past.refl w3).drewN _)
          · go_wp2_with fail
            go_quiet (fail)
            go_wp2_with fail
            go_quiet (fail)
            go_wp2_with fail
            go_quiet (fail)
            go_wp2
            go_ret
            exact FIN.out (x2 - x1) (by rw [HL.out]; (try simp only); (repeat' split) <;> omega) _ ((Past.refl w3).drewN _)
      · have g3 : decide (x4 < 99999) = false := decide_eq_false c3
        by_cases c5 : 49999 < x2 - x1
        · go_wp2_with fail
          go_quiet (fail)
          go_wp2_with fail
          go_quiet (fail)
          go_wp2_with fail
          go_quiet (fail)
          go_wp2
          go_ret
          exact FIN.out (99999) (by rw [HL.out]; (try simp only); (repeat' split) <;> omega) _ ((Past.refl w3).drewN _)
        · go_wp2_with fail
          go_quiet (fail)
          go_wp2_with fail
          go_quiet (fail)
          go_wp2_with fail
          go_quiet (fail)
          go_wp2
          go_ret
          exact FIN.out (x2 - x1) (by rw [HL.out]; (try simp only); (repeat' split) <;> omega) _ ((Past.refl w3).drewN _)
    · skip
      by_cases c3 : x4 < 99999
      · by_cases c4 : 0 < x3 - x4
        · skip
          by_cases c5 : 49999 < x3 - x4
          · go_wp2_with fail
            go_quiet (fail)
            go_wp2_with fail
            go_quiet (fail)
            go_wp2_with fail
            go_quiet (fail)
            go_wp2
            go_ret
            exact FIN.out (99999) (by rw [HL.out]; (try simp only); (repeat' split) <;> omega) _ ((Past.refl w3).drewN _)
          · go_wp2_with fail
            go_quiet (fail)
            go_wp2_with fail
            go_quiet (fail)
            go_wp2_with fail
            go_quiet (fail)
            go_wp2
            go_ret
            exact FIN.out (x3 - x4) (by rw [HL.out]; (try simp only); (repeat' split) <;> omega) _ ((Past.refl w3).drewN _)
        · skip
          go_wp2_with fail
          go_quiet (fail)
          go_wp2_with fail
          go_quiet (fail)
          go_wp2
          go_ret
          exact FIN.out (0) (by rw [HL.out]; (try simp only); (repeat' split) <;> omega) _ ((Past.refl w3).drewN _)
      · have g3 : decide (x4 < 99999) = false := decide_eq_false c3
        go_wp2_with fail
        go_quiet (fail)
        go_wp2_with fail
        go_quiet (fail)
        go_wp2
        go_ret
        exact FIN.out (0) (by rw [HL.out]; (try simp only); (repeat' split) <;> omega) _ ((Past.refl w3).drewN _)
  · have g1 : decide (x1 < 99999) = false := decide_eq_false c1
    by_cases c3 : x4 < 99999
    · by_cases c4 : 0 < x3 - x4
      · skip
        by_cases c5 : 49999 < x3 - x4
        · go_wp2_with fail
          go_quiet (fail)
          go_wp2_with fail
          go_quiet (fail)
          go_wp2_with fail
          go_quiet (fail)
          go_wp2
          go_ret
          exact FIN.out (99999) (by rw [HL.out]; (try simp only); (repeat' split) <;> omega) _ ((Past.refl w3).drewN _)
        · go_wp2_with fail
          go_quiet (fail)
          go_wp2_with fail
          go_quiet (fail)
          go_wp2_with fail
          go_quiet (fail)
          go_wp2
          go_ret
          exact FIN.out (x3 - x4) (by rw [HL.out]; (try simp only); (repeat' split) <;> omega) _ ((Past.refl w3).drewN _)
      · skip
        go_wp2_with fail
        go_quiet (fail)
        go_wp2_with fail
        go_quiet (fail)
        go_wp2
        go_ret
        exact FIN.out (0) (by rw [HL.out]; (try simp only); (repeat' split) <;> omega) _ ((Past.refl w3).drewN _)
    · have g3 : decide (x4 < 99999) = false := decide_eq_false c3
      go_wp2_with fail
      go_quiet (fail)
      go_wp2_with fail
      go_quiet (fail)
      go_wp2
      go_ret
      exact FIN.out (0) (by rw [HL.out]; (try simp only); (repeat' split) <;> omega) _ ((Past.refl w3).drewN _)

set_option maxRecDepth 100000 in
set_option maxHeartbeats 1000000 in
theorem l12Bound_any (M : Nat) (A : Option Addr) (n c : Nat) (xs : List ArcD) (B : Option Addr) (l cb : Nat) (ks : List Int) (f t : Int) (w : World) (hM : M ≤ 8) (hn : n ≤ 16) (hnx : xs.length = n) (hx : ArcsAt w A xs) (hB : netB (M : Int) xs = true) (hl : l ≤ 8) (hlk : ks.length = l) (hk : IntsAt w B ks) (hin : ∀ y ∈ ks, 0 ≤ y ∧ y < (M : Int)) (hf : 0 ≤ f ∧ f < M) (ht : 0 ≤ t ∧ t < M) :
    Calls Try.prog 60 #[.agg #[.int .i64 (M : Int), .slice A n c], .slice B l cb, .int .i64 f, .int .i64 t] w fun e w' => e = .returned (.int .i64 (boundTo M xs ks f t l)) ∧ Below w.heap.size w w' := by
  have HX := Lib.hid hnx
  have HB := Lib.hid hB
  have HK := Lib.hid hlk
  have HIN := Lib.hid hin
  clear hnx hB hlk hin
  have hb0 : Past w (w.alloc (.cells #[.int .i64 (M : Int), .slice A n c] 30)) := (Past.refl _).alloc _
  go_enter Try.func60, Try.ntmps60
  go_wp2
  go_loopw [9, 10] (fun b i wr => ∃ k : Nat, k ≤ l ∧ i = .int .i64 k ∧ b = .int .i64 (boundTo M xs ks f t k) ∧ Past (w.alloc (.cells #[.int .i64 (M : Int), .slice A n c] 30)) wr) (fun _ i _ => l - (intOf i).toNat)
  case atStart => exact ⟨0, by omega, rfl, rfl, Past.refl _⟩
  case round =>
    obtain ⟨k, hkl, rfl, rfl, hb⟩ := hrel
    have b0 := cell_in (p := ⟨w.heap.size, 0, none⟩) (v := .int .i64 (M : Int)) hb (by go_simp)
    have b1 := cell_in (p := ⟨w.heap.size, 1, none⟩) (v := .slice A n c) hb (by go_simp)
    by_cases hlt : k < l
    · obtain ⟨y, ha⟩ : ∃ a, ks[k]? = some a := ⟨_, List.getElem?_eq_getElem (by have := HK.out; omega)⟩
      obtain ⟨g, o, rfl, c0⟩ := ((hk.below hb0).below hb) k _ ha
      have hyb := HIN.out y (List.mem_of_getElem? ha)
      have HY : Hid (at_ ks (k : Int) = y) := by rw [Hid, at_, Int.toNat_natCast, List.getD_eq_getElem?_getD, ha]; rfl
      have i0 : (0 : Int) ≤ (k : Int) := by omega
      have i1 : (k : Int) < (l : Int) := by omega
      clear ha
      obtain ⟨z, hz⟩ : ∃ z, z = lessM (nearL M xs y) (nearL M (xs.map flip) y) f t := ⟨_, rfl⟩
      obtain ⟨b, hbb⟩ : ∃ b, b = boundTo M xs ks f t k := ⟨_, rfl⟩
      have HS : Hid (boundTo M xs ks f t (k + 1) = max b z) := by rw [Hid, boundTo, HY.out, hz, hbb]
      have C1 : Hid (∀ q : PastOf wr, Calls Try.prog 116 #[.agg #[.int .i64 (M : Int), .slice A n c], .int .i64 y, .int .i64 f, .int .i64 t] q.W fun e w' => e = .returned (.int .i64 z) ∧ Below q.W.heap.size q.W w') := fun q => by
        rw [hz]
        exact l12Less_any M A n c xs y f t _ hM hn HX.out (((hx.below hb0).below hb).below q.h) HB.out hyb hf ht
      have B0 := past_cell b0
      have B1 := past_cell b1
      have C0 := past_cell c0
      rw [← hbb]
      clear hz hbb b0 b1 c0
      go_wp2_with fail
      refine wp_region_past (by kernel_rfl) (by kernel_rfl) ?_
      repeat (quiet_step (with_reducible exact rfl))
      quiet_step ((go_at_call 116; exact past_call (C1.out _)))
      repeat (quiet_step (with_reducible exact rfl))
      refine wpQuiet_nil ?_
      rintro _ ⟨⟨W8, hW8⟩, rfl⟩
      have hb := hb.trans hW8
      by_cases hlz : b < z
      · have HS : Hid (boundTo M xs ks f t (k + 1) = z) := by rw [Hid, HS.out]; omega
        go_wp2
        go_roundw
        case rel => exact ⟨k + 1, by omega, by go_num, by rw [HS.out], hb⟩
        case measure => simp [intOf]; omega
      · have HS : Hid (boundTo M xs ks f t (k + 1) = b) := by rw [Hid, HS.out]; omega
        go_wp2
        go_roundw
        case rel => exact ⟨k + 1, by omega, by go_num, by rw [HS.out], hb⟩
        case measure => simp [intOf]; omega
    · obtain rfl : l = k := by omega
      go_wp2
      go_ret
      exact ⟨rfl, hb0.trans hb⟩

set_option maxRecDepth 100000 in
set_option maxHeartbeats 1000000 in
theorem specMarkBound_any (m : Int) (A : Option Addr) (n c : Nat) (xs : List ArcD) (B : Option Addr) (l cb : Nat) (ks : List Int) (f t : Int) (w : World) (hn : n ≤ 1048576) (hnx : xs.length = n) (hx : ArcsAt w A xs) (hl : l ≤ 1048576) (hlk : ks.length = l) (hk : IntsAt w B ks) :
    Calls Try.prog 16 #[.agg #[.int .i64 m, .slice A n c], .slice B l cb, .int .i64 f, .int .i64 t] w fun e w' => e = .returned (.int .i64 (boundI m xs ks f t)) ∧ Below w.heap.size w w' := by
  have HX := Lib.hid hnx
  have HK := Lib.hid hlk
  clear hnx hlk
  have hb0 : Past w (w.alloc (.cells #[.int .i64 m, .slice A n c] 30)) := (Past.refl _).alloc _
  go_enter Try.func16, Try.ntmps16
  go_wp2_with fail
  refine (l1Ok_any m A n c xs _ hn HX.out (hx.below hb0)).mono ?_
  rintro e w1 ⟨rfl, hb1⟩
  have b0 := cell_in (p := ⟨w.heap.size, 0, none⟩) (v := .int .i64 m) hb1 (by go_simp)
  have b1 := cell_in (p := ⟨w.heap.size, 1, none⟩) (v := .slice A n c) hb1 (by go_simp)
  have hp1 := hb0.trans hb1
  have hx1 := hx.below hp1
  have hk1 := hk.below hp1
  clear hb0 hb1 hx hk
  cases hB : netB m xs with
  | false =>
    have HB := Lib.hid hB
    clear hB
    go_wp2
    go_ret
    exact ⟨ret_int (by simp [boundI, listB, HB.out]), hp1⟩
  | true =>
    obtain ⟨M, rfl, h1, h8⟩ := here_nat hB
    have HB := Lib.hid hB
    clear hB
    have hw : IntKind.i64.wrap ((M : Int) - 1) = (M : Int) - 1 := IntWalk.i64_in _ (by omega)
    go_wp2_with fail
    refine (l11Nodes_any (M : Int) A n c B l cb ks _ ⟨by omega, by omega⟩ hl HK.out hk1).mono ?_
    rintro e w3 ⟨rfl, hb3⟩
    have hLB : listB (M : Int) xs ks = (decide (ks.length ≤ 8) && ks.all (fun z => inB z 0 ((M : Int) - 1))) := by rw [listB, HB.out, Bool.true_and]
    rw [← hLB]
    have b0 := cell_in hb3 b0
    have b1 := cell_in hb3 b1
    have hp3 := hp1.trans hb3
    have hx3 := hx1.below hb3
    have hk3 := hk1.below hb3
    clear hLB hb3 hp1 hx1 hk1
    cases hC : listB (M : Int) xs ks with
    | false =>
      have HC := Lib.hid hC
      clear hC
      go_wp2
      go_ret
      exact ⟨ret_int (by simp [boundI, HC.out]), hp3⟩
    | true =>
      obtain ⟨_, hl8, hin⟩ := (listB_iff _ _ _).1 hC
      have HC := Lib.hid hC
      have HIN := Lib.hid hin
      rw [HK.out] at hl8
      clear hC hin
      go_wp2_with fail
      refine (l1In_any _ _ _ _).mono ?_
      rintro e w4 ⟨rfl, rfl⟩
      cases hI : inB f 0 ((M : Int) - 1) with
      | false =>
        have HI := Lib.hid hI
        clear hI
        go_wp2
        go_ret
        exact ⟨ret_int (by simp [boundI, HI.out]), hp3⟩
      | true =>
        have hs := (inB_iff _ _ _).1 hI
        have HI := Lib.hid hI
        clear hI
        go_wp2_with fail
        refine (l1In_any _ _ _ _).mono ?_
        rintro e w4 ⟨rfl, rfl⟩
        cases hJ : inB t 0 ((M : Int) - 1) with
        | false =>
          have HJ := Lib.hid hJ
          clear hJ
          go_wp2
          go_ret
          exact ⟨ret_int (by simp [boundI, HJ.out]), hp3⟩
        | true =>
          have ht := (inB_iff _ _ _).1 hJ
          have HJ := Lib.hid hJ
          have h16 := ((netB_iff _ _).1 HB.out).2.1
          rw [HX.out] at h16
          clear hJ
          go_wp2_with fail
          refine (l12Bound_any M A n c xs B l cb ks f t _ h8 h16 HX.out hx3 HB.out hl8 HK.out hk3 HIN.out (by omega) (by omega)).mono ?_
          rintro e w5 ⟨rfl, hb5⟩
          go_wp2
          go_ret
          exact ⟨ret_int (by rw [boundI, HC.out, HI.out, HJ.out, HK.out]; rfl), hp3.trans hb5⟩

end Go.Proofs.Ytgeoheeibebmcaa
