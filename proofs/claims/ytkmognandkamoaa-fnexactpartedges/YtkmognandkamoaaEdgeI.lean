/-
  Nodes with arcs to or from other parts, as the program goes: impl.partOk, impl.PartEdges, with slices.Sort and slices.Compact. No condition.
-/
import Derived.Shelf.Sort.Plain
import Derived.Shelf.Slices.CompactI
import Derived.Shelf.Slices.In.SortNone
import Derived.Shelf.Lay
import Derived.Ground.NamesProg
import Derived.Ground.Names2Prog
import Derived.Lib.RowBridge
import Derived.Test.YtkmognandkamoaaCMet
import Derived.Test.YtkmognandkamoaaPComp
import Derived.Test.YtkmognandkamoaaEdgeS
namespace Go.Proofs.Ytkmognandkamoaa
open Go.Shelf Go.RowKit Go.Lib Go.Sort
def sortI_ren : Go.Shelf.Ren := ⟨fun | 189 => 74 | 125 => 91 | 257 => 90 | 128 => 110 | 129 => 111 | 294 => 101 | 295 => 102 | 296 => 103 | 297 => 104 | 298 => 105 | 299 => 106 | 216 => 107 | 300 => 108 | 301 => 109 | 328 => 115 | 329 => 116 | 330 => 117 | 331 => 118 | 332 => 119 | 215 => 120 | 343 => 123 | n => n, fun | 28 => 25 | 3 => 3 | 46 => 100 | 0 => 0 | 51 => 128 | 53 => 130 | 4 => 4 | 183 => 122 | 182 => 121 | 131 => 125 | 5 => 5 | 9 => 9 | 218 => 135 | 222 => 139 | 228 => 145 | 229 => 43 | n => n, fun | n => n⟩
theorem sortI : Go.Proofs.Lays.n189 Try.prog sortI_ren := {
  mixed := by kernel_rfl
  f125 := Try.func91.trans (congrArg some (by kernel_rfl))
  f128 := Try.func110.trans (congrArg some (by kernel_rfl))
  f129 := Try.func111.trans (congrArg some (by kernel_rfl))
  f189 := Try.func74.trans (congrArg some (by kernel_rfl))
  f215 := Try.func120.trans (congrArg some (by kernel_rfl))
  f216 := Try.func107.trans (congrArg some (by kernel_rfl))
  f257 := Try.func90.trans (congrArg some (by kernel_rfl))
  f294 := Try.func101.trans (congrArg some (by kernel_rfl))
  f295 := Try.func102.trans (congrArg some (by kernel_rfl))
  f296 := Try.func103.trans (congrArg some (by kernel_rfl))
  f297 := Try.func104.trans (congrArg some (by kernel_rfl))
  f298 := Try.func105.trans (congrArg some (by kernel_rfl))
  f299 := Try.func106.trans (congrArg some (by kernel_rfl))
  f300 := Try.func108.trans (congrArg some (by kernel_rfl))
  f301 := Try.func109.trans (congrArg some (by kernel_rfl))
  f328 := Try.func115.trans (congrArg some (by kernel_rfl))
  f329 := Try.func116.trans (congrArg some (by kernel_rfl))
  f330 := Try.func117.trans (congrArg some (by kernel_rfl))
  f331 := Try.func118.trans (congrArg some (by kernel_rfl))
  f332 := Try.func119.trans (congrArg some (by kernel_rfl))
  f343 := Try.func123.trans (congrArg some (by kernel_rfl))
  t0 := Try.underlying0
  a0 := Try.isAgg0
  z0 := Try.sizeOf0
  v0 := Try.zeroValue0
  t3 := Try.underlying3
  a3 := Try.isAgg3
  z3 := Try.sizeOf3
  v3 := Try.zeroValue3
  t4 := Try.underlying4
  a4 := Try.isAgg4
  z4 := Try.sizeOf4
  v4 := Try.zeroValue4
  t5 := Try.underlying5
  a5 := Try.isAgg5
  z5 := Try.sizeOf5
  v5 := Try.zeroValue5
  t9 := Try.underlying9
  a9 := Try.isAgg9
  z9 := Try.sizeOf9
  v9 := Try.zeroValue9
  t28 := Try.underlying25
  a28 := Try.isAgg25
  z28 := Try.sizeOf25
  v28 := Try.zeroValue25
  t46 := Try.underlying100
  a46 := Try.isAgg100
  z46 := Try.sizeOf100
  v46 := Try.zeroValue100
  t51 := Try.underlying128
  a51 := Try.isAgg128
  z51 := Try.sizeOf128
  v51 := Try.zeroValue128
  t53 := Try.underlying130
  a53 := Try.isAgg130
  z53 := Try.sizeOf130
  v53 := Try.zeroValue130
  t131 := Try.underlying125
  a131 := Try.isAgg125
  z131 := Try.sizeOf125
  v131 := Try.zeroValue125
  t182 := Try.underlying121
  a182 := Try.isAgg121
  z182 := Try.sizeOf121
  v182 := Try.zeroValue121
  t183 := Try.underlying122
  a183 := Try.isAgg122
  z183 := Try.sizeOf122
  v183 := Try.zeroValue122
  t218 := Try.underlying135
  a218 := Try.isAgg135
  z218 := Try.sizeOf135
  v218 := Try.zeroValue135
  t222 := Try.underlying139
  a222 := Try.isAgg139
  z222 := Try.sizeOf139
  v222 := Try.zeroValue139
  t228 := Try.underlying145
  a228 := Try.isAgg145
  z228 := Try.sizeOf145
  v228 := Try.zeroValue145
  t229 := Try.underlying43
  a229 := Try.isAgg43
  z229 := Try.sizeOf43
  v229 := Try.zeroValue43 }
def compI_ren : Go.Shelf.Ren := ⟨fun | 20 => 75 | n => n, fun | 22 => 25 | 3 => 3 | 4 => 4 | 0 => 0 | n => n, fun | n => n⟩
theorem compI : Go.Proofs.Lays2.n20 Try.prog compI_ren := {
  mixed := by kernel_rfl
  f20 := Try.func75.trans (congrArg some (by kernel_rfl))
  t0 := Try.underlying0
  a0 := Try.isAgg0
  z0 := Try.sizeOf0
  v0 := Try.zeroValue0
  t3 := Try.underlying3
  a3 := Try.isAgg3
  z3 := Try.sizeOf3
  v3 := Try.zeroValue3
  t4 := Try.underlying4
  a4 := Try.isAgg4
  z4 := Try.sizeOf4
  v4 := Try.zeroValue4
  t22 := Try.underlying25
  a22 := Try.isAgg25
  z22 := Try.sizeOf25
  v22 := Try.zeroValue25
  i3 := by kernel_rfl }

set_option maxRecDepth 100000 in
set_option maxHeartbeats 1000000 in
theorem partOk_any (m : Int) (A : Option Addr) (n c : Nat) (xs : List ArcD) (B : Option Addr) (l cb : Nat) (ys : List Int) (w : World) (hn : n ≤ 1048576) (hnx : xs.length = n) (hx : ArcsAt w A xs) (hl : l ≤ 1048576) (hly : ys.length = l) (hy : IntsAt w B ys) :
    Calls Try.prog 71 #[.agg #[.int .i64 m, .slice A n c], .slice B l cb] w fun e w' => e = .returned (.bool (partB m xs ys)) ∧ Below w.heap.size w w' := by
  have HX := Lib.hid hnx
  have HL := Lib.hid hly
  clear hnx hly
  have hb0 : Past w (w.alloc (.cells #[.int .i64 m, .slice A n c] 29)) := (Past.refl _).alloc _
  go_enter Try.func71, Try.ntmps71
  go_wp2_with fail
  refine (implNetOk_any m A n c xs _ hn HX.out (hx.below hb0)).mono ?_
  rintro e w1 ⟨rfl, hb1⟩
  have b0 := cell_in (p := ⟨w.heap.size, 0, none⟩) (v := .int .i64 m) hb1 (by go_simp)
  have hp1 := hb0.trans hb1
  cases hB : netB m xs with
  | false =>
    have HB := Lib.hid hB
    clear hB
    go_wp2
    go_ret
    exact ⟨ret_bool (by rw [partB, HB.out]; rfl), hp1⟩
  | true =>
    have HB := Lib.hid hB
    clear hB
    go_wp2_with fail
    refine (eachWithinM_any B l cb ys m 3 _ hl HL.out (hy.below hp1)).mono ?_
    rintro e w2 ⟨rfl, hb2⟩
    go_wp2
    go_ret
    exact ⟨ret_bool (by rw [partB, HB.out, Bool.true_and]), hp1.trans hb2⟩

theorem Res.open_ {w : World} {lo g n c : Nat} {zs : List Int} (h : Res w lo (.slice (some ⟨g, 0, none⟩) n c) zs) : ∃ cur : Array Value, zs.length = n ∧ lo ≤ g ∧ w.heap[g]? = some (.cells cur 3 (0, 0)) ∧ n ≤ c ∧ c ≤ maxLen ∧ cur.size = c ∧ cur.toList.take n = ints zs := by
  rcases h.2 with ⟨h0, _⟩ | ⟨g', cap, cur, hv, hlo, hh, hnc, hm, hs, ht⟩
  · cases h0
  · injection hv with hv1 hv2 hv3
    injection hv1 with hv1
    injection hv1 with hv1
    subst hv1 hv2 hv3
    exact ⟨cur, rfl, hlo, hh, hnc, hm, by rw [hs, Nat.mul_one], by rw [← ht, Nat.mul_one]⟩

theorem res_put {w : World} {lo g n c q : Nat} {os : Array Obj} {zs ds : List Int} (h : Res w lo (.slice (some ⟨g, 0, none⟩) n c) zs) (hd : ds.length = n) :
    Res (grow (putRow (Value.int .i64) (Sort.ahead w q) g 0 ds.toArray) os) lo (.slice (some ⟨g, 0, none⟩) n c) ds := by
  obtain ⟨cur, _, hlo, hh, hnc, hm, hs, _⟩ := h.open_
  have hg : g < w.heap.size := (Array.getElem?_eq_some_iff.1 hh).1
  refine ⟨by simp [ints], .inr ⟨g, c, putCells (Value.int .i64) 0 ds.toArray cur, by rw [hd], hlo, ?_, by omega, hm, by simp [putCells, hs], ?_⟩⟩
  · rw [heap_grow_old _ _ (by simpa [putRow, mapBlock, Sort.ahead] using hg)]
    simp [putRow, mapBlock, Sort.ahead, Array.getElem?_modify, hh, onCells]
  · apply List.ext_getElem?
    intro j
    rw [Nat.mul_one]
    by_cases hj : j < ds.length
    · have hjc : j < cur.size := by omega
      rw [List.getElem?_take_of_lt hj, Array.getElem?_toList]
      simp [putCells, ints, hjc, hj]
    · rw [List.getElem?_eq_none (by simp; omega), List.getElem?_eq_none (by simp [ints]; omega)]

theorem res_cut {w : World} {lo g n c : Nat} {us vs : List Int} (h : Res w lo (.slice (some ⟨g, 0, none⟩) n c) (us ++ vs)) : Res w lo (.slice (some ⟨g, 0, none⟩) us.length c) us := by
  obtain ⟨cur, hl, hlo, hh, hnc, hm, hs, ht⟩ := h.open_
  rw [List.length_append] at hl
  refine ⟨by simp [ints], .inr ⟨g, c, cur, rfl, hlo, hh, by omega, hm, by rw [hs, Nat.mul_one], ?_⟩⟩
  have h2 := congrArg (List.take us.length) ht
  have hil : (ints us).length = us.length := by simp [ints]
  rw [List.take_take, Nat.min_eq_left (by omega), ints_append, List.take_append_of_le_length (by omega)] at h2
  rw [Nat.mul_one, h2]
  exact List.take_of_length_le (by omega)

theorem grown_putI {w : World} {g n : Nat} {os : Array Obj} (d : Array Int) : w.grownBy (grow (putRow (Value.int .i64) (Sort.ahead w n) g 0 d) os) (some g) := by
  refine ⟨rfl, rfl, rfl, by simp [putRow, mapBlock, Sort.ahead], fun k hk hne => ?_⟩
  rw [heap_grow_old _ _ (by simpa [putRow, mapBlock, Sort.ahead] using hk)]
  have : g ≠ k := fun e => hne (by rw [e])
  simp [putRow, mapBlock, Sort.ahead, Array.getElem?_modify, this]

theorem holds_ints {w : World} {g : Nat} {zs : List Int} (hx : IntsAt w (some ⟨g, 0, none⟩) zs) (hf : ∀ i, w.frozen? ⟨g, i, none⟩ = false) : Holds (Value.int .i64) w g 0 zs.toArray := fun j hj => by
  have hj' : j < zs.length := by simpa using hj
  refine ⟨?_, hf _⟩
  obtain ⟨b, o, e, h0⟩ := hx j _ (List.getElem?_eq_getElem hj')
  injection e with e
  injection e with e1 e2
  subst e1 e2
  rw [h0]
  simp [hj']

set_option maxHeartbeats 1000000 in
theorem sortInts_any (lo : Nat) (v : Value) (zs : List Int) (w : World) (hn : zs.length ≤ 1048576) (hv : Res w lo v zs) :
    Calls Try.prog 74 #[v] w fun e w' => e = .returned (.tuple #[]) ∧ Res w' lo v (zs.mergeSort fun x y => decide (x ≤ y)) ∧ w.grownBy w' v.ownBlock := by
  obtain ⟨A, c, rfl, hx, ho⟩ := hv.form
  by_cases h0 : zs.length = 0
  · have hzs : zs = [] := List.eq_nil_of_length_eq_zero h0
    subst hzs
    have hcon := Any.slices_Sort_int_none sortI A c w
    exact hcon.mono fun e w' ⟨he, hw⟩ => by
      subst hw
      exact ⟨he, by simpa using hv, grown_refl _ _⟩
  · rcases ho with ⟨_, h⟩ | ⟨g, sz, rfl, hlo, hr, hs⟩
    · exact absurd h h0
    · have hH := holds_ints hx hr.frozen
      have hcon := Any.slices_Sort_int sortI g 0 c zs w hH hr.lt (by omega)
      refine hcon.mono fun e w' ⟨he, m, os, hw⟩ => ?_
      subst hw
      exact ⟨he, res_put hv (by simp), grown_putI _⟩

set_option maxHeartbeats 1000000 in
theorem compInts_any (lo : Nat) (v : Value) (zs : List Int) (w : World) (hn : zs.length ≤ 1048576) (hv : Res w lo v zs) :
    Calls Try.prog 75 #[v] w fun e w' => ∃ v', e = .returned v' ∧ Res w' lo v' (Lib.compact zs) ∧ w.grownBy w' v.ownBlock := by
  obtain ⟨A, c, rfl, hx, ho⟩ := hv.form
  by_cases h0 : zs.length = 0
  · have hzs : zs = [] := List.eq_nil_of_length_eq_zero h0
    subst hzs
    have hcon := Any.slices_Compact_int_empty compI A c w
    exact hcon.mono fun e w' ⟨he, hw⟩ => by
      subst hw
      exact ⟨_, he, hv, grown_refl _ _⟩
  · rcases ho with ⟨_, h⟩ | ⟨g, sz, rfl, hlo, hr, hs⟩
    · exact absurd h h0
    · have hH := holds_ints hx hr.frozen
      obtain ⟨_, _, _, _, hnc, _⟩ := hv.open_
      have hcon := Any.slices_Compact_int compI g 0 c zs w hH (by omega) hnc
      refine hcon.mono fun e w' ⟨he, q, hw⟩ => ?_
      have hle : (Lib.compact zs).length ≤ zs.length := Lib.compact_length_le zs
      have hw' : w' = grow (putRow (Value.int .i64) (Sort.ahead w q) g 0 (Lib.compact zs ++ List.replicate (zs.length - (Lib.compact zs).length) 0).toArray) #[] := by rw [hw, grow_empty]
      subst hw'
      exact ⟨_, he, res_cut (res_put hv (by simp; omega)), grown_putI _⟩

theorem two_new (w : World) (x y : Value) (t : Nat) : ∀ j u, ([x, y] : List Value)[j]? = some u → (w.alloc (.cells #[x, y] t)).cell? ((⟨w.heap.size, 0, none⟩ : Addr).add j) = some u := by
  intro j u hu
  rw [Addr.add_lit, Nat.zero_add, cell_of_row _ _ _ _ _ _ (heap_alloc_new w _)]
  simpa using hu
theorem two_one (x y : Int) : ∀ u ∈ ([Value.int .i64 x, Value.int .i64 y] : List Value), u.oneCell' = true := fun u hu => by
  simp at hu
  rcases hu with rfl | rfl <;> rfl
theorem Res.push2 {w : World} {lo : Nat} {v : Value} {zs : List Int} {x y : Int} (h : w.ownsRow lo 3 1 v (zs.length + 2) (ints zs ++ [.int .i64 x, .int .i64 y])) : Res w lo v (zs ++ [x, y]) := by
  unfold Res
  rw [ints_append, List.length_append]
  exact h

set_option maxRecDepth 100000 in
set_option maxHeartbeats 2000000 in
theorem implPartEdges_any (m : Int) (A : Option Addr) (n c : Nat) (xs : List ArcD) (B : Option Addr) (l cb : Nat) (ys : List Int) (w : World) (hn : n ≤ 1048576) (hnx : xs.length = n) (hx : ArcsAt w A xs) (hl : l ≤ 1048576) (hly : ys.length = l) (hy : IntsAt w B ys) :
    Calls Try.prog 37 #[.agg #[.int .i64 m, .slice A n c], .slice B l cb] w (Gives w (edgesI m xs ys)) := by
  have HX := Lib.hid hnx
  have HY := Lib.hid hly
  clear hnx hly
  obtain ⟨i0, hi, hz0, hz1, hz2⟩ := info_parts infoInt
  have hb0 : Past w (w.alloc (.cells #[.int .i64 m, .slice A n c] 29)) := (Past.refl _).alloc _
  go_enter Try.func37, Try.ntmps37
  go_wp2_with fail
  refine (partOk_any m A n c xs B l cb ys _ hn HX.out (hx.below hb0) hl HY.out (hy.below hb0)).mono ?_
  rintro e w1 ⟨rfl, hb1⟩
  have b1 := cell_in (p := ⟨w.heap.size, 1, none⟩) (v := .slice A n c) hb1 (by go_simp)
  have hs1 : w.heap.size < w1.heap.size := lt_of_cell b1
  have hp1 := hb0.trans hb1
  have hx1 := hx.below hp1
  have hy1 := hy.below hp1
  clear hb0 hb1 hx hy
  cases hC : partB m xs ys with
  | false =>
    have HC := Lib.hid hC
    clear hC
    go_wp2
    go_ret
    exact ⟨_, rfl, by rw [edgesI, HC.out]; exact Res.nil _ _, hp1⟩
  | true =>
    obtain ⟨hN, hlm, _⟩ := (partB_iff _ _ _).1 hC
    obtain ⟨M, rfl, h1, h8⟩ := here_nat hN
    obtain rfl : l = M := by have := HY.out; omega
    have h16 := net_num hN
    rw [HX.out] at h16
    have HC := Lib.hid hC
    have HIN := Lib.hid (arcsIn_net hN)
    clear hC hN hlm
    go_wp2
    go_loopw [5, 15] (fun v q wr => ∃ k : Nat, k ≤ n ∧ q = .int .i64 k ∧ Res wr w1.heap.size v (endsOf ys (xs.take k)) ∧ Past w1 wr) (fun _ q _ => n - (intOf q).toNat)
    case atStart => exact ⟨0, by omega, rfl, Res.nil _ _, Past.refl _⟩
    case round =>
      obtain ⟨k, hk, rfl, hv, hb⟩ := hrel
      have hz := hb.size
      by_cases hlt : k < n
      · obtain ⟨⟨f, t, c', l', d⟩, ha⟩ : ∃ a, xs[k]? = some a := ⟨_, List.getElem?_eq_getElem (by have := HX.out; omega)⟩
        obtain ⟨g', o', rfl, d0, d1, d2, d3, d4⟩ := (hx1.below hb) k _ ha
        have hab := HIN.out _ (List.mem_of_getElem? ha)
        simp only at hab
        obtain ⟨f0, f1, t0, t1, _⟩ := hab
        obtain ⟨x, ex⟩ : ∃ x, x = at_ ys f := ⟨_, rfl⟩
        obtain ⟨y, ey⟩ : ∃ y, y = at_ ys t := ⟨_, rfl⟩
        have q1 : ys[f.toNat]? = some x := by rw [ex]; exact getElem_part f0 (by rw [HY.out]; exact f1)
        have q2 : ys[t.toNat]? = some y := by rw [ey]; exact getElem_part t0 (by rw [HY.out]; exact t1)
        have hcr : crossB ys ⟨f, t, c', l', d⟩ = decide (x ≠ y) := by rw [crossB, ← ex, ← ey]
        have hnext := endsOf_next (ps := ys) ha
        have hlen : (endsOf ys (xs.take k)).length ≤ 32 := by have h3 := endsOf_len ys (xs.take k); have h4 := List.length_take_le k xs; omega
        have hbA : Past w1 (wr.alloc (.cells #[.int .i64 f, .int .i64 t, .int .i64 c', .int .i64 l', .int .i64 d] 52)) := hb.alloc _
        obtain ⟨g, o, rfl, c0⟩ := (hy1.below hbA) _ _ q1
        obtain ⟨g1, o1, eg, c1⟩ := (hy1.below hbA) _ _ q2
        injection eg with eg
        injection eg with eg1 eg2
        subst eg1 eg2
        clear ha q1 q2 ex ey
        have j0 : (0 : Int) ≤ (k : Int) := by omega
        have j1 : (k : Int) < (n : Int) := by omega
        by_cases hxy : x = y
        · subst hxy
          rw [hcr] at hnext
          simp only [ne_eq, not_true_eq_false, decide_false, Bool.false_eq_true, if_false, List.append_nil] at hnext
          have HN := Lib.hid hnext
          clear hnext hcr
          go_wp2_with fail
          go_quiet (fail)
          go_wp2
          go_roundw
          case rel => exact ⟨k + 1, by omega, by go_num, by rw [HN.out]; exact hv.below (((Past.refl wr).alloc _).drewN _), hbA.drewN _⟩
          case measure => simp [intOf]; omega
        · have e1 : (x != y) = true := by simpa using hxy
          rw [hcr, decide_eq_true hxy, if_pos rfl] at hnext
          obtain ⟨L, hL⟩ : ∃ L, L = endsOf ys (xs.take k) := ⟨_, rfl⟩
          rw [← hL] at hnext hv hlen
          have HN := Lib.hid hnext
          clear hnext hcr hL
          unfold Res at hv
          go_wp2_with fail
          go_quiet (fail)
          have hv2 : ((wr.alloc (.cells #[.int .i64 f, .int .i64 t, .int .i64 c', .int .i64 l', .int .i64 d] 52)).drewN nq).ownsRow w1.heap.size 3 1 u5 L.length (ints L) := hv.alloc _
          have hbB := hbA.drewN nq
          obtain ⟨W2, hW2⟩ : ∃ W2, W2 = (wr.alloc (.cells #[.int .i64 f, .int .i64 t, .int .i64 c', .int .i64 l', .int .i64 d] 52)).drewN nq := ⟨_, rfl⟩
          have e0 : W2.cell? ⟨wr.heap.size, 0, none⟩ = some (.int .i64 f) := by rw [hW2]; go_simp
          have e2 : W2.cell? ⟨wr.heap.size, 1, none⟩ = some (.int .i64 t) := by rw [hW2]; go_simp
          rw [← hW2] at hv2 hbB ⊢
          have hzW := hbB.size
          clear hW2 hv hbA c0 c1 d0 d1 d2 d3 d4
          go_wp2_with (first | (at_builtin; refine wpList_append_own _ rfl _ _ 25 rfl w1.heap.size 3 i0 (.int .i64 0) 1 8 Try.underlying25 hi hz0 hz1 hz2 rfl (by decide) _ _ _ rfl (hv2.alloc _) ⟨W2.heap.size, 0, none⟩ 2 2 [.int .i64 f, .int .i64 t] rfl rfl (two_new _ _ _ _) (two_one f t) (by unfold maxLen; omega) (by omega) (by simp; omega) ?_; intro v' w3 hown' hgrow3 hnil3))
          go_roundw
          case rel => exact ⟨k + 1, by omega, by go_num, by rw [HN.out]; exact Res.push2 hown', Past.grown (hbB.alloc _) (hv2.alloc _) hgrow3 (Nat.le_refl _)⟩
          case measure => simp [intOf]; omega
      · obtain rfl : n = k := by omega
        rw [List.take_of_length_le (by rw [HX.out]; exact Nat.le_refl _)] at hv
        have hlen := endsOf_len ys xs
        rw [HX.out] at hlen
        go_wp2_with fail
        refine (sortInts_any w1.heap.size _ _ _ (by omega) hv).mono ?_
        rintro e w2 ⟨rfl, hv2, hg2⟩
        have hb2 : Past w1 w2 := Past.grown hb hv hg2 (Nat.le_refl _)
        go_wp2_with fail
        refine (compInts_any w1.heap.size _ _ _ (by rw [List.length_mergeSort]; omega) hv2).mono ?_
        rintro e w3 ⟨v3, rfl, hv3, hg3⟩
        have hb3 : Past w1 w3 := Past.grown hb2 hv2 hg3 (Nat.le_refl _)
        rw [ends_edges HIN.out] at hv3
        go_wp2
        go_ret
        exact ⟨_, rfl, by rw [edgesI, HC.out, if_pos rfl, Int.toNat_natCast]; exact hv3.lower (by omega), hp1.trans hb3⟩

end Go.Proofs.Ytkmognandkamoaa
