/-
  What is known of marks, as the program goes: impl.surplus, impl.boundsTo, impl.MarkBound. No condition.
-/
import Derived.Test.YtgeoheeibebmcaaMBndS
import Derived.Test.YtgeoheeibebmcaaQTail
import Derived.Test.YtgeoheeibebmcaaNRepI
namespace Go.Proofs.Ytgeoheeibebmcaa
open Go.RowKit

set_option maxRecDepth 100000 in
theorem surplus_any (a b : Int) (w : World) (ha : 0 ≤ a ∧ a ≤ 99999) (hb : 0 ≤ b ∧ b ≤ 99999) :
    Calls Try.prog 120 #[.int .i64 a, .int .i64 b] w fun e w' => e = .returned (.int .i64 (surI a b)) ∧ w' = w := by
  have t1 : IntKind.i64.wrap (a - b) = a - b := IntWalk.i64_in _ (by omega)
  go_enter Try.func120, Try.ntmps120
  by_cases h1 : b = 99999
  · subst h1
    go_wp2
    go_ret
    exact ⟨ret_int (by unfold surI; rw [if_pos rfl]), rfl⟩
  · by_cases h2 : 49999 < a - b
    · go_wp2
      go_ret
      exact ⟨ret_int (by unfold surI; rw [if_neg h1, if_pos (by omega)]), rfl⟩
    · go_wp2
      go_ret
      exact ⟨ret_int (by unfold surI; rw [if_neg h1, if_neg (by omega)]), rfl⟩

theorem run_max3 (P : Program) (w : World) (ts : Array TypeId) (t : TypeId) (x y z : Int) : (Builtin.max_ ts t #[.int .i64 x, .int .i64 y, .int .i64 z]).run P w = .ok (.int .i64 (max (max x y) z)) w := by
  have e : (if z > (if y > x then y else x) then z else (if y > x then y else x)) = max (max x y) z := by
    repeat' split
    all_goals omega
  rw [← e]
  simp [Builtin.max_, Builtin.max2]

/-- The bounds, while those of the first j nodes are of one mark more. -/
def bndRow (M : Nat) (xs : List ArcD) (ks : List Int) (t : Int) (k j : Nat) : List Int := (List.range M).map fun v => if v < j then boundTo M xs ks (v : Int) t (k + 1) else boundTo M xs ks (v : Int) t k
theorem bndRow_len (M : Nat) (xs : List ArcD) (ks : List Int) (t : Int) (k j : Nat) : (bndRow M xs ks t k j).length = M := by simp [bndRow]
theorem bndRow_get {M : Nat} {xs : List ArcD} {ks : List Int} {t : Int} {k j v : Nat} (hv : v < M) : (bndRow M xs ks t k j)[v]? = some (if v < j then boundTo M xs ks (v : Int) t (k + 1) else boundTo M xs ks (v : Int) t k) := by simp [bndRow, hv]
theorem bndRow_zero (M : Nat) (xs : List ArcD) (ks : List Int) (t : Int) : bndRow M xs ks t 0 0 = List.replicate M 0 := by
  apply List.ext_getElem?
  intro v
  by_cases hv : v < M
  · rw [bndRow_get hv]; simp [boundTo, hv]
  · rw [List.getElem?_eq_none (by rw [bndRow_len]; omega), List.getElem?_eq_none (by simp; omega)]
theorem bndRow_step {M : Nat} {xs : List ArcD} {ks : List Int} {t : Int} {k j : Nat} : (bndRow M xs ks t k j).set j (boundTo M xs ks (j : Int) t (k + 1)) = bndRow M xs ks t k (j + 1) := by
  apply List.ext_getElem?
  intro v
  by_cases hv : v < M
  · rw [List.getElem?_set, bndRow_get hv, bndRow_get hv, bndRow_len]
    by_cases e : j = v
    · subst e; simp [hv]
    · rw [if_neg e]
      by_cases h : v < j
      · rw [if_pos h, if_pos (by omega)]
      · rw [if_neg h, if_neg (by omega)]
  · rw [List.getElem?_eq_none (by rw [List.length_set, bndRow_len]; omega), List.getElem?_eq_none (by rw [bndRow_len]; omega)]
theorem bndRow_next (M : Nat) (xs : List ArcD) (ks : List Int) (t : Int) (k : Nat) : bndRow M xs ks t k M = bndRow M xs ks t (k + 1) 0 := by
  apply List.ext_getElem?
  intro v
  by_cases hv : v < M
  · rw [bndRow_get hv, bndRow_get hv, if_pos hv, if_neg (by omega)]
  · rw [List.getElem?_eq_none (by rw [bndRow_len]; omega), List.getElem?_eq_none (by rw [bndRow_len]; omega)]
theorem RowI.of_zeros {w : World} {g n : Nat} (hn : n ≤ 17) (h : w.heap[g]? = some (.cells (madeCells #[.int .i64 0] n) 3 (0, 0))) : RowI w g (List.replicate n 0) := by
  rw [repI_made 0 n hn] at h
  exact RowI.of_rep (by simpa [repI] using h)

set_option maxRecDepth 100000 in
set_option maxHeartbeats 4000000 in
theorem boundsTo_any (M : Nat) (g0 n c : Nat) (xs : List ArcD) (B : Option Addr) (l cb : Nat) (ks : List Int) (t : Int) (w : World) (hM : M ≤ 8) (hn : n ≤ 16) (hnx : xs.length = n) (hx : ArcsAt w (some ⟨g0, 0, none⟩) xs) (hB : netB (M : Int) xs = true) (hl : l ≤ 8) (hlk : ks.length = l) (hk : IntsAt w B ks) (hin : ∀ y ∈ ks, 0 ≤ y ∧ y < (M : Int)) (ht : 0 ≤ t ∧ t < M) :
    Calls Try.prog 64 #[.agg #[.int .i64 (M : Int), .slice (some ⟨g0, 0, none⟩) n c], .slice B l cb, .int .i64 t] w (Gives w (bndRow M xs ks t l 0)) := by
  have HX := Lib.hid hnx
  have HK := Lib.hid hlk
  have HB := Lib.hid hB
  have HIN := Lib.hid hin
  have hmk := makeInt M (by omega)
  have hM1 : 1 ≤ M := by have := ((netB_iff _ _).1 hB).1; omega
  clear hnx hlk hB hin
  obtain ⟨W0, hW0⟩ : ∃ W0, W0 = w.alloc (.cells #[.int .i64 (M : Int), .slice (some ⟨g0, 0, none⟩) n c] 30) := ⟨_, rfl⟩
  have hpW : Past w W0 := by rw [hW0]; exact (Past.refl _).alloc _
  have b0 : W0.cell? ⟨w.heap.size, 0, none⟩ = some (.int .i64 (M : Int)) := by rw [hW0]; go_simp
  have b1 : W0.cell? ⟨w.heap.size, 1, none⟩ = some (.slice (some ⟨g0, 0, none⟩) n c) := by rw [hW0]; go_simp
  have hsz : W0.heap.size = w.heap.size + 1 := by rw [hW0]; simp
  have HW := Lib.hid hW0
  have hx0 := hx.below hpW
  have hk0 := hk.below hpW
  clear hW0 hx hk
  go_enter Try.func64, Try.ntmps64
  go_wp2
  rw [← HW.out]
  clear HW
  have hrow0 := RowI.of_zeros (w := W0.alloc (.cells (madeCells #[.int .i64 0] M) 3)) (by omega) (heap_alloc_new W0 _)
  rw [← bndRow_zero M xs ks t, hsz] at hrow0
  go_loopw [18] (fun i wr => ∃ k : Nat, k ≤ l ∧ i = .int .i64 k ∧ RowI wr (w.heap.size + 1) (bndRow M xs ks t k 0) ∧ Past W0 wr) (fun i _ => l - (intOf i).toNat)
  case atStart => exact ⟨0, by omega, rfl, hrow0, (Past.refl _).alloc _⟩
  case round =>
    obtain ⟨k, hkl, rfl, hrow, hb⟩ := hrel
    by_cases hlt : k < l
    · obtain ⟨y, ha⟩ : ∃ a, ks[k]? = some a := ⟨_, List.getElem?_eq_getElem (by have := HK.out; omega)⟩
      obtain ⟨gy, oy, rfl, c0⟩ := (hk0.below hb) k _ ha
      have hyb := HIN.out y (List.mem_of_getElem? ha)
      have HY : Hid (at_ ks (k : Int) = y) := by rw [Hid, at_, Int.toNat_natCast, List.getD_eq_getElem?_getD, ha]; rfl
      have i0 : (0 : Int) ≤ (k : Int) := by omega
      have i1 : (k : Int) < (l : Int) := by omega
      have hH : hereB (M : Int) xs y = true := (hereB_iff _ _ _).2 ⟨HB.out, hyb⟩
      have hN1 : nearI (M : Int) xs y = nearL M xs y := by rw [nearI, if_pos hH, Int.toNat_natCast]
      have hN2 : nearTI (M : Int) xs y = nearL M (xs.map flip) y := by rw [nearTI, if_pos hH, Int.toNat_natCast]
      have HN1 := Lib.hid hN1
      have HN2 := Lib.hid hN2
      clear ha hH hN1 hN2
      have b0 := cell_in hb b0
      have b1 := cell_in hb b1
      have hxr := hx0.below hb
      go_wp2_with fail
      go_region_held3 (fun w' => w'.cell? ⟨w.heap.size, 0, none⟩ = some (.int .i64 (M : Int)) ∧ w'.cell? ⟨w.heap.size, 1, none⟩ = some (.slice (some ⟨g0, 0, none⟩) n c)) (go_keep)
        (first
          | (go_at_call 96; refine (implNearAll_any (M : Int) _ n c xs y _ (by omega) HX.out hxr.drew).mono ?_; rintro e w1 ⟨v1, rfl, hv1, hb1⟩; rw [HN1.out] at hv1; obtain ⟨D, cd, rfl, hd1, ho1⟩ := hv1.form; rw [nearL_length] at ho1 ⊢; have b0 := cell_in hb1 b0; have b1 := cell_in hb1 b1)
          | (go_at_call 119; refine (implNearTo_any (M : Int) _ n c xs y _ (by omega) HX.out (hxr.drew.below hb1)).mono ?_; rintro e w2 ⟨v2, rfl, hv2, hb2⟩; rw [HN2.out] at hv2; obtain ⟨E, ce, rfl, he2, ho2⟩ := hv2.form; rw [nearL_length] at ho2 ⊢; have b0 := cell_in hb2 b0; have b1 := cell_in hb2 b1))
      obtain ⟨d, hd⟩ : ∃ d, d = nearL M xs y := ⟨_, rfl⟩
      rw [← hd] at hd1
      obtain ⟨q, hq⟩ : ∃ q, q = nearL M (xs.map flip) y := ⟨_, rfl⟩
      rw [← hq] at he2
      have hd2 := hd1.below hb2
      have hrow2 := ((show RowI wr.drew _ _ from hrow).below hb1).below hb2
      have hbb := hb.drew.trans (Past.trans hb1 hb2)
      have hdl : d.length = M := by rw [hd, nearL_length]
      have hql : q.length = M := by rw [hq, nearL_length]
      have hgr := hrow.1.lt
      have HST : Hid (∀ v : Nat, v < M → boundTo M xs ks (v : Int) t (k + 1) = max (max (boundTo M xs ks (v : Int) t k) (surI (at_ d t) (at_ d (v : Int)))) (surI (at_ q (v : Int)) (at_ q t))) := fun v hv => by
        obtain ⟨p1, p2, p3, p4⟩ := four (arcsIn_net HB.out) (f := (v : Int)) ⟨by omega, by omega⟩ ht hyb
        have p5 := boundTo_bound (arcsIn_net HB.out) HIN.out (f := (v : Int)) ⟨by omega, by omega⟩ ht k (by rw [HK.out]; omega)
        rw [hd, hq, boundTo, HY.out, sur_less p1 p2 p3 p4 p5.1]
      have HBD : Hid (∀ v : Int, 0 ≤ v → v < M → (0 ≤ at_ d v ∧ at_ d v ≤ 99999) ∧ (0 ≤ at_ q v ∧ at_ q v ≤ 99999)) := fun v h0 h1 => by
        obtain ⟨p1, p2, p3, p4⟩ := four (arcsIn_net HB.out) (f := v) ⟨h0, h1⟩ ht hyb
        rw [hd, hq]
        exact ⟨p1, p3⟩
      have HDL := Lib.hid hdl
      have HQL := Lib.hid hql
      have hs1 : wr.heap.size ≤ w1.heap.size := hb1.size
      have hneE : blk E ≠ some (w.heap.size + 1) := ho2.ne_blk (by omega)
      have hneD : blk D ≠ some (w.heap.size + 1) := ho1.ne_blk hgr
      clear hv1 hv2 hd hq hb1 hb2 ho1 ho2 hd1 hrow hb c0 hdl hql hxr hs1
      go_wp2
      go_loopw [30] (fun i wr => ∃ j : Nat, j ≤ M ∧ i = .int .i64 j ∧ RowI wr (w.heap.size + 1) (bndRow M xs ks t k j) ∧ w2.grownBy wr (some (w.heap.size + 1)) ∧ Past W0 wr) (fun i _ => M - (intOf i).toNat)
      case atStart => exact ⟨0, by omega, rfl, hrow2, grown_refl _ _, hbb⟩
      case round =>
        obtain ⟨j, hj, rfl, hrow, hg, hb⟩ := hrel
        by_cases hlj : j < M
        · have hdw := hd2.grown hg (fun b e => by injection e with e; rw [← e]; exact hneD)
          have hew := he2.grown hg (fun b e => by injection e with e; rw [← e]; exact hneE)
          obtain ⟨x1, hx1⟩ : ∃ x, x = at_ d t := ⟨_, rfl⟩
          obtain ⟨x2, hx2⟩ : ∃ x, x = at_ d (j : Int) := ⟨_, rfl⟩
          obtain ⟨x3, hx3⟩ : ∃ x, x = at_ q (j : Int) := ⟨_, rfl⟩
          obtain ⟨x4, hx4⟩ : ∃ x, x = at_ q t := ⟨_, rfl⟩
          obtain ⟨z, hz⟩ : ∃ z, z = boundTo M xs ks (j : Int) t k := ⟨_, rfl⟩
          have e1 := getElem_at d t.toNat (by have := HDL.out; omega)
          have e2 := getElem_at d j (by have := HDL.out; omega)
          have e3 := getElem_at q j (by have := HQL.out; omega)
          have e4 := getElem_at q t.toNat (by have := HQL.out; omega)
          rw [Int.toNat_of_nonneg ht.1] at e1 e4
          obtain ⟨gd, od, rfl, d1⟩ := hdw _ _ e1
          obtain ⟨gd', od', eg, d2⟩ := hdw _ _ e2
          injection eg with eg; injection eg with eg1 eg2; subst eg1 eg2
          obtain ⟨ge, oe, rfl, f3⟩ := hew _ _ e3
          obtain ⟨ge', oe', eh, f4⟩ := hew _ _ e4
          injection eh with eh; injection eh with eh1 eh2; subst eh1 eh2
          obtain ⟨r1, r2⟩ := HBD.out t ht.1 ht.2
          obtain ⟨r3, r4⟩ := HBD.out (j : Int) (by omega) (by omega)
          have r0 : (w.heap.size + 1) = (w.heap.size + 1) := rfl
          obtain ⟨gr, or, er, c0⟩ := hrow.2 j z (by rw [bndRow_get hlj, if_neg (by omega), hz])
          injection er with er; injection er with er1 er2; subst er1 er2
          rw [Nat.zero_add] at c0
          have z0 := hrow.1.frozen j
          have HS := HST.out j hlj
          rw [← hx1] at HS r1 d1
          rw [← hx2] at HS r3 d2
          rw [← hx3] at HS r4 f3
          rw [← hx4] at HS r2 f4
          rw [← hz] at HS
          have hset := hrow.set j (boundTo M xs ks (j : Int) t (k + 1)) (by rw [bndRow_len]; exact hlj)
          rw [bndRow_step, HS] at hset
          have HSET := Lib.hid hset
          obtain ⟨s1, hs1⟩ : ∃ s, s = surI x1 x2 := ⟨_, rfl⟩
          obtain ⟨s2, hs2⟩ : ∃ s, s = surI x3 x4 := ⟨_, rfl⟩
          have C1 := Lib.hid (fun u : World => surplus_any x1 x2 u r1 r3)
          have C2 := Lib.hid (fun u : World => surplus_any x3 x4 u r4 r2)
          rw [← hs1] at C1
          rw [← hs2] at C2
          rw [← hs1, ← hs2] at HSET
          have i2 := ht.1
          have i3 := ht.2
          have j0 : (0 : Int) ≤ (j : Int) := by omega
          have j1 : (j : Int) < (M : Int) := by omega
          clear hx1 hx2 hx3 hx4 hz e1 e2 e3 e4 hset HS hs1 hs2 hdw hew
          have HG2 := Lib.hid (grown_set hg j (.int .i64 (max (max z s1) s2)))
          have HB2 := Lib.hid (show Past W0 (wr.drew.setCell ⟨(w.heap.size + 1), j, none⟩ (.int .i64 (max (max z s1) s2))) from Below.setCell hb.drew (by simp only; omega) _)
          have hass : max (max z s1) s2 = max z (max s1 s2) := by omega
          rw [hass] at HSET HG2 HB2
          have hmx := fun (u : World) (ts : Array TypeId) (ty : TypeId) => run_max3 Try.prog u ts ty z s1 s2
          go_wp2_with fail
          refine wp_region_quiet_tail 26 (by kernel_rfl) (by kernel_rfl) ?_
          simp only [List.take_succ_cons, List.take_zero, List.drop_succ_cons, List.drop_zero]
          repeat (go_big_quiet_step (fail))
          go_big_quiet_want
          go_big_quiet_op
          refine ⟨_, C1.out _, ?_⟩
          go_big_quiet_on
          repeat (go_big_quiet_step (fail))
          go_big_quiet_want
          go_big_quiet_op
          refine ⟨_, C2.out _, ?_⟩
          go_big_quiet_on
          repeat (go_big_quiet_step (fail))
          refine wpQuiet_nil ?_
          go_wp2
          go_roundw
          case rel => exact ⟨j + 1, by omega, by go_num, (HSET.out).drewN 1, grown_drew HG2.out, HB2.out⟩
          case measure => simp [intOf]; omega
        · obtain rfl : j = M := by omega
          go_wp2
          go_roundw
          case rel => exact ⟨k + 1, by omega, by go_num, by rw [← bndRow_next]; exact hrow, hb⟩
          case measure => simp [intOf]; omega
    · obtain rfl : k = l := by omega
      go_wp2
      go_ret
      exact ⟨_, rfl, hrow.res (bndRow_len _ _ _ _ _ _) (by omega) (by omega), hpW.trans hb⟩

set_option maxRecDepth 100000 in
set_option maxHeartbeats 1000000 in
theorem implMarkBound_any (m : Int) (g0 n c : Nat) (xs : List ArcD) (B : Option Addr) (l cb : Nat) (ks : List Int) (f t : Int) (w : World) (hn : n ≤ 1048576) (hnx : xs.length = n) (hx : ArcsAt w (some ⟨g0, 0, none⟩) xs) (hl : l ≤ 1048576) (hlk : ks.length = l) (hk : IntsAt w B ks) :
    Calls Try.prog 19 #[.agg #[.int .i64 m, .slice (some ⟨g0, 0, none⟩) n c], .slice B l cb, .int .i64 f, .int .i64 t] w fun e w' => e = .returned (.int .i64 (boundI m xs ks f t)) ∧ Below w.heap.size w w' := by
  have HX := Lib.hid hnx
  have HK := Lib.hid hlk
  clear hnx hlk
  have hb0 : Past w (w.alloc (.cells #[.int .i64 m, .slice (some ⟨g0, 0, none⟩) n c] 30)) := (Past.refl _).alloc _
  go_enter Try.func19, Try.ntmps19
  go_wp2_with fail
  refine (listOk_any m _ n c xs B l cb ks _ hn HX.out (hx.below hb0) hl HK.out (hk.below hb0)).mono ?_
  rintro e w1 ⟨rfl, hb1⟩
  have b0 := cell_in (p := ⟨w.heap.size, 0, none⟩) (v := .int .i64 m) hb1 (by go_simp)
  have b1 := cell_in (p := ⟨w.heap.size, 1, none⟩) (v := .slice (some ⟨g0, 0, none⟩) n c) hb1 (by go_simp)
  have hp1 := hb0.trans hb1
  have hx1 := hx.below hp1
  have hk1 := hk.below hp1
  clear hb0 hb1 hx hk
  cases hC : listB m xs ks with
  | false =>
    have HC := Lib.hid hC
    clear hC
    go_wp2
    go_ret
    exact ⟨ret_int (by simp [boundI, HC.out]), hp1⟩
  | true =>
    obtain ⟨hN, hl8, hin⟩ := (listB_iff _ _ _).1 hC
    obtain ⟨M, rfl, h1, h8⟩ := here_nat hN
    have HC := Lib.hid hC
    have HIN := Lib.hid hin
    have HN := Lib.hid hN
    rw [HK.out] at hl8
    clear hC hin hN
    obtain ⟨W, hW⟩ : ∃ W, W = w1.alloc (.cells #[.int .i64 f, .int .i64 t] 3) := ⟨_, rfl⟩
    have hpz : Past w1 W := by rw [hW]; exact (Past.refl _).alloc _
    have hz : IntsAt W (some ⟨w1.heap.size, 0, none⟩) [f, t] := fun k y hk => by
      rw [hW]
      match k, hk with
      | 0, hk => simp at hk; subst hk; exact ⟨_, _, rfl, by go_simp⟩
      | 1, hk => simp at hk; subst hk; exact ⟨_, _, rfl, by go_simp⟩
      | k + 2, hk => simp at hk
    have HW := Lib.hid hW
    clear hW
    go_wp2_with fail
    rw [← HW.out]
    clear HW
    refine (netHas_any (M : Int) _ n c xs _ 2 2 [f, t] _ hn HX.out (hx1.below hpz) (by omega) rfl hz).mono ?_
    rintro e w2 ⟨rfl, hb2⟩
    have hH : (netB (M : Int) xs && [f, t].all (fun z => inB z 0 ((M : Int) - 1))) = (inB f 0 ((M : Int) - 1) && inB t 0 ((M : Int) - 1)) := by rw [HN.out]; simp
    rw [hH]
    have b0 := cell_in hb2 (cell_in hpz b0)
    have b1 := cell_in hb2 (cell_in hpz b1)
    have hx2 := (hx1.below hpz).below hb2
    have hk2 := (hk1.below hpz).below hb2
    have hp2 := (hp1.trans hpz).trans hb2
    clear hH hb2 hpz hp1 hx1 hk1 hz
    cases hB : (inB f 0 ((M : Int) - 1) && inB t 0 ((M : Int) - 1)) with
    | false =>
      have HB := Lib.hid hB
      clear hB
      go_wp2
      go_ret
      exact ⟨ret_int (by rw [boundI, HB.out, Bool.and_false]; rfl), hp2⟩
    | true =>
      have HB := Lib.hid hB
      simp only [Bool.and_eq_true, inB_iff] at hB
      have h16 := ((netB_iff _ _).1 HN.out).2.1
      rw [HX.out] at h16
      go_wp2_with fail
      refine (boundsTo_any M g0 n c xs B l cb ks t _ h8 h16 HX.out hx2 HN.out hl8 HK.out hk2 HIN.out (by omega)).mono ?_
      rintro e w3 ⟨v3, rfl, hv3, hb3⟩
      obtain ⟨D, cd, rfl, hd3, _⟩ := hv3.form
      rw [bndRow_len]
      obtain ⟨F, rfl⟩ : ∃ F : Nat, f = (F : Int) := ⟨f.toNat, by omega⟩
      obtain ⟨z, hz⟩ : ∃ z, z = boundTo M xs ks (F : Int) t l := ⟨_, rfl⟩
      obtain ⟨g, o, rfl, d0⟩ := hd3 F z (by rw [bndRow_get (by omega), if_neg (by omega), hz])
      have HZ := Lib.hid hz
      have i0 : (0 : Int) ≤ (F : Int) := by omega
      have i1 : (F : Int) < (M : Int) := by omega
      clear hz hd3 hv3 hB
      go_wp2
      go_ret
      exact ⟨ret_int (by rw [boundI, HC.out, HB.out, HZ.out, HK.out]; rfl), hp2.trans hb3⟩

end Go.Proofs.Ytgeoheeibebmcaa
