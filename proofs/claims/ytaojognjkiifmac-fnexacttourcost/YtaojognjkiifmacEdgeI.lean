/-
  Nodes with arcs to or from other parts, as the program goes: impl.partOk, impl.PartEdges, with slices.Sort and slices.Compact. No condition.
-/
import Derived.Shelf.Sort.Plain
import Derived.Shelf.Slices.CompactI
import Derived.Shelf.Slices.In.SortNone
import Derived.Shelf.Lay
import Derived.Ground.NamesProg
import Derived.Ground.Names2Prog
import Derived.Lib.RowBridge
import Derived.Test.YtaojognjkiifmacCMet
import Derived.Test.YtaojognjkiifmacPComp
import Derived.Test.YtaojognjkiifmacEdgeS
namespace Go.Proofs.Ytaojognjkiifmac
open Go.Shelf Go.RowKit Go.Lib Go.Sort
def sortI_ren : Go.Shelf.Ren := ⟨fun | 189 => 105 | 125 => 114 | 257 => 113 | 128 => 127 | 129 => 128 | 294 => 118 | 295 => 119 | 296 => 120 | 297 => 121 | 298 => 122 | 299 => 123 | 216 => 124 | 300 => 125 | 301 => 126 | 328 => 129 | 329 => 130 | 330 => 131 | 331 => 132 | 332 => 133 | 215 => 134 | 343 => 135 | n => n, fun | 28 => 25 | 3 => 3 | 46 => 132 | 0 => 0 | 51 => 140 | 53 => 143 | 4 => 4 | 183 => 149 | 182 => 148 | 131 => 153 | 5 => 5 | 9 => 9 | 218 => 157 | 222 => 161 | 228 => 163 | 229 => 45 | n => n, fun | n => n⟩
theorem sortI : Go.Proofs.Lays.n189 Try.prog sortI_ren := {
  mixed := by kernel_rfl
  f125 := Try.func114.trans (congrArg some (by kernel_rfl))
  f128 := Try.func127.trans (congrArg some (by kernel_rfl))
  f129 := Try.func128.trans (congrArg some (by kernel_rfl))
  f189 := Try.func105.trans (congrArg some (by kernel_rfl))
  f215 := Try.func134.trans (congrArg some (by kernel_rfl))
  f216 := Try.func124.trans (congrArg some (by kernel_rfl))
  f257 := Try.func113.trans (congrArg some (by kernel_rfl))
  f294 := Try.func118.trans (congrArg some (by kernel_rfl))
  f295 := Try.func119.trans (congrArg some (by kernel_rfl))
  f296 := Try.func120.trans (congrArg some (by kernel_rfl))
  f297 := Try.func121.trans (congrArg some (by kernel_rfl))
  f298 := Try.func122.trans (congrArg some (by kernel_rfl))
  f299 := Try.func123.trans (congrArg some (by kernel_rfl))
  f300 := Try.func125.trans (congrArg some (by kernel_rfl))
  f301 := Try.func126.trans (congrArg some (by kernel_rfl))
  f328 := Try.func129.trans (congrArg some (by kernel_rfl))
  f329 := Try.func130.trans (congrArg some (by kernel_rfl))
  f330 := Try.func131.trans (congrArg some (by kernel_rfl))
  f331 := Try.func132.trans (congrArg some (by kernel_rfl))
  f332 := Try.func133.trans (congrArg some (by kernel_rfl))
  f343 := Try.func135.trans (congrArg some (by kernel_rfl))
  t0 := Try.underlying0
  a0 := Try.isAgg0
  z0 := Try.sizeOf0
  v0 := Try.zeroValue0
  t3 := Try.underlying3
  a3 := Try.isAgg3
  z3 := Try.sizeOf3
  v3 := Try.zeroValue3
  t4 := Try.underlying4
  a4 := Try.isAgg4
  z4 := Try.sizeOf4
  v4 := Try.zeroValue4
  t5 := Try.underlying5
  a5 := Try.isAgg5
  z5 := Try.sizeOf5
  v5 := Try.zeroValue5
  t9 := Try.underlying9
  a9 := Try.isAgg9
  z9 := Try.sizeOf9
  v9 := Try.zeroValue9
  t28 := Try.underlying25
  a28 := Try.isAgg25
  z28 := Try.sizeOf25
  v28 := Try.zeroValue25
  t46 := Try.underlying132
  a46 := Try.isAgg132
  z46 := Try.sizeOf132
  v46 := Try.zeroValue132
  t51 := Try.underlying140
  a51 := Try.isAgg140
  z51 := Try.sizeOf140
  v51 := Try.zeroValue140
  t53 := Try.underlying143
  a53 := Try.isAgg143
  z53 := Try.sizeOf143
  v53 := Try.zeroValue143
  t131 := Try.underlying153
  a131 := Try.isAgg153
  z131 := Try.sizeOf153
  v131 := Try.zeroValue153
  t182 := Try.underlying148
  a182 := Try.isAgg148
  z182 := Try.sizeOf148
  v182 := Try.zeroValue148
  t183 := Try.underlying149
  a183 := Try.isAgg149
  z183 := Try.sizeOf149
  v183 := Try.zeroValue149
  t218 := Try.underlying157
  a218 := Try.isAgg157
  z218 := Try.sizeOf157
  v218 := Try.zeroValue157
  t222 := Try.underlying161
  a222 := Try.isAgg161
  z222 := Try.sizeOf161
  v222 := Try.zeroValue161
  t228 := Try.underlying163
  a228 := Try.isAgg163
  z228 := Try.sizeOf163
  v228 := Try.zeroValue163
  t229 := Try.underlying45
  a229 := Try.isAgg45
  z229 := Try.sizeOf45
  v229 := Try.zeroValue45 }
def compI_ren : Go.Shelf.Ren := ⟨fun | 20 => 78 | n => n, fun | 22 => 25 | 3 => 3 | 4 => 4 | 0 => 0 | n => n, fun | n => n⟩
theorem compI : Go.Proofs.Lays2.n20 Try.prog compI_ren := {
  mixed := by kernel_rfl
  f20 := Try.func78.trans (congrArg some (by kernel_rfl))
  t0 := Try.underlying0
  a0 := Try.isAgg0
  z0 := Try.sizeOf0
  v0 := Try.zeroValue0
  t3 := Try.underlying3
  a3 := Try.isAgg3
  z3 := Try.sizeOf3
  v3 := Try.zeroValue3
  t4 := Try.underlying4
  a4 := Try.isAgg4
  z4 := Try.sizeOf4
  v4 := Try.zeroValue4
  t22 := Try.underlying25
  a22 := Try.isAgg25
  z22 := Try.sizeOf25
  v22 := Try.zeroValue25
  i3 := by kernel_rfl }

theorem Res.open_ {w : World} {lo g n c : Nat} {zs : List Int} (h : Res w lo (.slice (some ⟨g, 0, none⟩) n c) zs) : ∃ cur : Array Value, zs.length = n ∧ lo ≤ g ∧ w.heap[g]? = some (.cells cur 3 (0, 0)) ∧ n ≤ c ∧ c ≤ maxLen ∧ cur.size = c ∧ cur.toList.take n = ints zs := by
  rcases h.2 with ⟨h0, _⟩ | ⟨g', cap, cur, hv, hlo, hh, hnc, hm, hs, ht⟩
  · cases h0
  · injection hv with hv1 hv2 hv3
    injection hv1 with hv1
    injection hv1 with hv1
    subst hv1 hv2 hv3
    exact ⟨cur, rfl, hlo, hh, hnc, hm, by rw [hs, Nat.mul_one], by rw [← ht, Nat.mul_one]⟩

theorem res_put {w : World} {lo g n c q : Nat} {os : Array Obj} {zs ds : List Int} (h : Res w lo (.slice (some ⟨g, 0, none⟩) n c) zs) (hd : ds.length = n) :
    Res (grow (putRow (Value.int .i64) (Sort.ahead w q) g 0 ds.toArray) os) lo (.slice (some ⟨g, 0, none⟩) n c) ds := by
  obtain ⟨cur, _, hlo, hh, hnc, hm, hs, _⟩ := h.open_
  have hg : g < w.heap.size := (Array.getElem?_eq_some_iff.1 hh).1
  refine ⟨by simp [ints], .inr ⟨g, c, putCells (Value.int .i64) 0 ds.toArray cur, by rw [hd], hlo, ?_, by omega, hm, by simp [putCells, hs], ?_⟩⟩
  · rw [heap_grow_old _ _ (by simpa [putRow, mapBlock, Sort.ahead] using hg)]
    simp [putRow, mapBlock, Sort.ahead, Array.getElem?_modify, hh, onCells]
  · apply List.ext_getElem?
    intro j
    rw [Nat.mul_one]
    by_cases hj : j < ds.length
    · have hjc : j < cur.size := by omega
      rw [List.getElem?_take_of_lt hj, Array.getElem?_toList]
      simp [putCells, ints, hjc, hj]
    · rw [List.getElem?_eq_none (by simp; omega), List.getElem?_eq_none (by simp [ints]; omega)]

theorem res_cut {w : World} {lo g n c : Nat} {us vs : List Int} (h : Res w lo (.slice (some ⟨g, 0, none⟩) n c) (us ++ vs)) : Res w lo (.slice (some ⟨g, 0, none⟩) us.length c) us := by
  obtain ⟨cur, hl, hlo, hh, hnc, hm, hs, ht⟩ := h.open_
  rw [List.length_append] at hl
  refine ⟨by simp [ints], .inr ⟨g, c, cur, rfl, hlo, hh, by omega, hm, by rw [hs, Nat.mul_one], ?_⟩⟩
  have h2 := congrArg (List.take us.length) ht
  have hil : (ints us).length = us.length := by simp [ints]
  rw [List.take_take, Nat.min_eq_left (by omega), ints_append, List.take_append_of_le_length (by omega)] at h2
  rw [Nat.mul_one, h2]
  exact List.take_of_length_le (by omega)

theorem grown_putI {w : World} {g n : Nat} {os : Array Obj} (d : Array Int) : w.grownBy (grow (putRow (Value.int .i64) (Sort.ahead w n) g 0 d) os) (some g) := by
  refine ⟨rfl, rfl, rfl, by simp [putRow, mapBlock, Sort.ahead], fun k hk hne => ?_⟩
  rw [heap_grow_old _ _ (by simpa [putRow, mapBlock, Sort.ahead] using hk)]
  have : g ≠ k := fun e => hne (by rw [e])
  simp [putRow, mapBlock, Sort.ahead, Array.getElem?_modify, this]

theorem holds_ints {w : World} {g : Nat} {zs : List Int} (hx : IntsAt w (some ⟨g, 0, none⟩) zs) (hf : ∀ i, w.frozen? ⟨g, i, none⟩ = false) : Holds (Value.int .i64) w g 0 zs.toArray := fun j hj => by
  have hj' : j < zs.length := by simpa using hj
  refine ⟨?_, hf _⟩
  obtain ⟨b, o, e, h0⟩ := hx j _ (List.getElem?_eq_getElem hj')
  injection e with e
  injection e with e1 e2
  subst e1 e2
  rw [h0]
  simp [hj']

set_option maxHeartbeats 1000000 in
theorem sortInts_any (lo : Nat) (v : Value) (zs : List Int) (w : World) (hn : zs.length ≤ 1048576) (hv : Res w lo v zs) :
    Calls Try.prog 105 #[v] w fun e w' => e = .returned (.tuple #[]) ∧ Res w' lo v (zs.mergeSort fun x y => decide (x ≤ y)) ∧ w.grownBy w' v.ownBlock := by
  obtain ⟨A, c, rfl, hx, ho⟩ := hv.form
  by_cases h0 : zs.length = 0
  · have hzs : zs = [] := List.eq_nil_of_length_eq_zero h0
    subst hzs
    have hcon := Any.slices_Sort_int_none sortI A c w
    exact hcon.mono fun e w' ⟨he, hw⟩ => by
      subst hw
      exact ⟨he, by simpa using hv, grown_refl _ _⟩
  · rcases ho with ⟨_, h⟩ | ⟨g, sz, rfl, hlo, hr, hs⟩
    · exact absurd h h0
    · have hH := holds_ints hx hr.frozen
      have hcon := Any.slices_Sort_int sortI g 0 c zs w hH hr.lt (by omega)
      refine hcon.mono fun e w' ⟨he, m, os, hw⟩ => ?_
      subst hw
      exact ⟨he, res_put hv (by simp), grown_putI _⟩

set_option maxHeartbeats 1000000 in
theorem compInts_any (lo : Nat) (v : Value) (zs : List Int) (w : World) (hn : zs.length ≤ 1048576) (hv : Res w lo v zs) :
    Calls Try.prog 78 #[v] w fun e w' => ∃ v', e = .returned v' ∧ Res w' lo v' (Lib.compact zs) ∧ w.grownBy w' v.ownBlock := by
  obtain ⟨A, c, rfl, hx, ho⟩ := hv.form
  by_cases h0 : zs.length = 0
  · have hzs : zs = [] := List.eq_nil_of_length_eq_zero h0
    subst hzs
    have hcon := Any.slices_Compact_int_empty compI A c w
    exact hcon.mono fun e w' ⟨he, hw⟩ => by
      subst hw
      exact ⟨_, he, hv, grown_refl _ _⟩
  · rcases ho with ⟨_, h⟩ | ⟨g, sz, rfl, hlo, hr, hs⟩
    · exact absurd h h0
    · have hH := holds_ints hx hr.frozen
      obtain ⟨_, _, _, _, hnc, _⟩ := hv.open_
      have hcon := Any.slices_Compact_int compI g 0 c zs w hH (by omega) hnc
      refine hcon.mono fun e w' ⟨he, q, hw⟩ => ?_
      have hle : (Lib.compact zs).length ≤ zs.length := Lib.compact_length_le zs
      have hw' : w' = grow (putRow (Value.int .i64) (Sort.ahead w q) g 0 (Lib.compact zs ++ List.replicate (zs.length - (Lib.compact zs).length) 0).toArray) #[] := by rw [hw, grow_empty]
      subst hw'
      exact ⟨_, he, res_cut (res_put hv (by simp; omega)), grown_putI _⟩

theorem two_new (w : World) (x y : Value) (t : Nat) : ∀ j u, ([x, y] : List Value)[j]? = some u → (w.alloc (.cells #[x, y] t)).cell? ((⟨w.heap.size, 0, none⟩ : Addr).add j) = some u := by
  intro j u hu
  rw [Addr.add_lit, Nat.zero_add, cell_of_row _ _ _ _ _ _ (heap_alloc_new w _)]
  simpa using hu
theorem two_one (x y : Int) : ∀ u ∈ ([Value.int .i64 x, Value.int .i64 y] : List Value), u.oneCell' = true := fun u hu => by
  simp at hu
  rcases hu with rfl | rfl <;> rfl
theorem Res.push2 {w : World} {lo : Nat} {v : Value} {zs : List Int} {x y : Int} (h : w.ownsRow lo 3 1 v (zs.length + 2) (ints zs ++ [.int .i64 x, .int .i64 y])) : Res w lo v (zs ++ [x, y]) := by
  unfold Res
  rw [ints_append, List.length_append]
  exact h

end Go.Proofs.Ytaojognjkiifmac
