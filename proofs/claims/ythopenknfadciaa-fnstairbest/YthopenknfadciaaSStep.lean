/-
  Steps that are sorted, copied and turned round by the library: slices.Clone, slices.SortFunc with impl.laterThenQuicker, slices.Reverse.
-/
import Derived.Shelf.SlSortCmp.WholeK
import Derived.Shelf.SlSortCmp.NoneTotal
import Derived.Shelf.SlicesQ.Reverse
import Derived.Shelf.SlicesG.Cmp
import Derived.Shelf.Lay
import Derived.Ground.SlsfProg
import Derived.Ground.SlgcProg
import Derived.Ground.SlgnProg
import Derived.Lib.SliceRun
import Derived.Test.YthopenknfadciaaSince
namespace Go.Proofs.Ythopenknfadciaa
open Go.Shelf Go.RowKit Go.Lib Go.Sort
def sortL_ren : Go.Shelf.Ren := ⟨fun | 6 => 64 | 15 => 72 | 14 => 71 | 28 => 83 | 29 => 84 | 20 => 75 | 21 => 76 | 22 => 77 | 23 => 78 | 24 => 79 | 25 => 80 | 26 => 81 | 27 => 82 | 46 => 86 | 47 => 87 | 48 => 88 | 49 => 89 | 50 => 90 | 57 => 91 | n => n, fun | 22 => 25 | 24 => 42 | 25 => 69 | 3 => 3 | 39 => 79 | 0 => 0 | 53 => 91 | 55 => 93 | 4 => 4 | 46 => 84 | 45 => 83 | 50 => 88 | 5 => 5 | 9 => 9 | 66 => 94 | 70 => 98 | 76 => 100 | 77 => 101 | n => n, fun | n => n⟩
theorem sortL : Go.Proofs.SlLaysF0.n6 Try.prog sortL_ren := {
  mixed := by kernel_rfl
  f6 := ⟨Try.f64.name, by decide, Try.func64.trans (congrArg some (by kernel_rfl))⟩
  f14 := ⟨Try.f71.name, by decide, Try.func71.trans (congrArg some (by kernel_rfl))⟩
  f15 := Try.func72.trans (congrArg some (by kernel_rfl))
  f20 := ⟨Try.f75.name, by decide, Try.func75.trans (congrArg some (by kernel_rfl))⟩
  f21 := ⟨Try.f76.name, by decide, Try.func76.trans (congrArg some (by kernel_rfl))⟩
  f22 := ⟨Try.f77.name, by decide, Try.func77.trans (congrArg some (by kernel_rfl))⟩
  f23 := ⟨Try.f78.name, by decide, Try.func78.trans (congrArg some (by kernel_rfl))⟩
  f24 := ⟨Try.f79.name, by decide, Try.func79.trans (congrArg some (by kernel_rfl))⟩
  f25 := ⟨Try.f80.name, by decide, Try.func80.trans (congrArg some (by kernel_rfl))⟩
  f26 := ⟨Try.f81.name, by decide, Try.func81.trans (congrArg some (by kernel_rfl))⟩
  f27 := ⟨Try.f82.name, by decide, Try.func82.trans (congrArg some (by kernel_rfl))⟩
  f28 := Try.func83.trans (congrArg some (by kernel_rfl))
  f29 := Try.func84.trans (congrArg some (by kernel_rfl))
  f46 := ⟨Try.f86.name, by decide, Try.func86.trans (congrArg some (by kernel_rfl))⟩
  f47 := Try.func87.trans (congrArg some (by kernel_rfl))
  f48 := Try.func88.trans (congrArg some (by kernel_rfl))
  f49 := ⟨Try.f89.name, by decide, Try.func89.trans (congrArg some (by kernel_rfl))⟩
  f50 := ⟨Try.f90.name, by decide, Try.func90.trans (congrArg some (by kernel_rfl))⟩
  f57 := ⟨Try.f91.name, by decide, Try.func91.trans (congrArg some (by kernel_rfl))⟩
  t0 := Try.underlying0
  a0 := Try.isAgg0
  z0 := Try.sizeOf0
  v0 := Try.zeroValue0
  t3 := Try.underlying3
  a3 := Try.isAgg3
  z3 := Try.sizeOf3
  v3 := Try.zeroValue3
  t4 := Try.underlying4
  a4 := Try.isAgg4
  z4 := Try.sizeOf4
  v4 := Try.zeroValue4
  t5 := Try.underlying5
  a5 := Try.isAgg5
  z5 := Try.sizeOf5
  v5 := Try.zeroValue5
  t9 := Try.underlying9
  a9 := Try.isAgg9
  z9 := Try.sizeOf9
  v9 := Try.zeroValue9
  t22 := Try.underlying25
  a22 := Try.isAgg25
  z22 := Try.sizeOf25
  v22 := Try.zeroValue25
  t25 := Try.underlying69
  a25 := Try.isAgg69
  z25 := Try.sizeOf69
  v25 := Try.zeroValue69
  t39 := Try.underlying79
  a39 := Try.isAgg79
  z39 := Try.sizeOf79
  v39 := Try.zeroValue79
  t45 := Try.underlying83
  a45 := Try.isAgg83
  z45 := Try.sizeOf83
  v45 := Try.zeroValue83
  t46 := Try.underlying84
  a46 := Try.isAgg84
  z46 := Try.sizeOf84
  v46 := Try.zeroValue84
  t50 := Try.underlying88
  a50 := Try.isAgg88
  z50 := Try.sizeOf88
  v50 := Try.zeroValue88
  t53 := Try.underlying91
  a53 := Try.isAgg91
  z53 := Try.sizeOf91
  v53 := Try.zeroValue91
  t55 := Try.underlying93
  a55 := Try.isAgg93
  z55 := Try.sizeOf93
  v55 := Try.zeroValue93
  t66 := Try.underlying94
  a66 := Try.isAgg94
  z66 := Try.sizeOf94
  v66 := Try.zeroValue94
  t70 := Try.underlying98
  a70 := Try.isAgg98
  z70 := Try.sizeOf98
  v70 := Try.zeroValue98
  t76 := Try.underlying100
  a76 := Try.isAgg100
  z76 := Try.sizeOf100
  v76 := Try.zeroValue100
  t77 := Try.underlying101
  a77 := Try.isAgg101
  z77 := Try.sizeOf101
  v77 := Try.zeroValue101 }
def cmpL_ren : Go.Shelf.Ren := ⟨fun | 5 => 74 | 7 => 85 | n => n, fun | 22 => 3 | 3 => 3 | 4 => 4 | n => n, fun | n => n⟩
theorem cmpL : Go.Proofs.SlLaysC2.n5 Try.prog cmpL_ren := {
  mixed := by kernel_rfl
  f5 := ⟨Try.f74.name, by decide, Try.func74.trans (congrArg some (by kernel_rfl))⟩
  f7 := ⟨Try.f85.name, by decide, Try.func85.trans (congrArg some (by kernel_rfl))⟩
  t3 := Try.underlying3
  a3 := Try.isAgg3
  z3 := Try.sizeOf3
  v3 := Try.zeroValue3
  t4 := Try.underlying4
  a4 := Try.isAgg4
  z4 := Try.sizeOf4
  v4 := Try.zeroValue4
  t22 := Try.underlying3
  a22 := Try.isAgg3
  z22 := Try.sizeOf3
  v22 := Try.zeroValue3 }
def revL_ren : Go.Shelf.Ren := ⟨fun | 35 => 66 | n => n, fun | 22 => 51 | 23 => 42 | 3 => 3 | 4 => 4 | 0 => 0 | n => n, fun | n => n⟩
theorem revL : Go.Proofs.SlLaysE0.n35 Try.prog revL_ren := {
  mixed := by kernel_rfl
  f35 := ⟨Try.f66.name, by decide, Try.func66.trans (congrArg some (by kernel_rfl))⟩
  t0 := Try.underlying0
  a0 := Try.isAgg0
  z0 := Try.sizeOf0
  v0 := Try.zeroValue0
  t3 := Try.underlying3
  a3 := Try.isAgg3
  z3 := Try.sizeOf3
  v3 := Try.zeroValue3
  t4 := Try.underlying4
  a4 := Try.isAgg4
  z4 := Try.sizeOf4
  v4 := Try.zeroValue4
  t22 := Try.underlying51
  a22 := Try.isAgg51
  z22 := Try.sizeOf51
  v22 := Try.zeroValue51 }

/-- A step's two cells. -/
def encStep (x : StepD) : List Value := [.int .i64 x.x0, .int .i64 x.x1]
theorem encStep_one (x : StepD) : ∀ v ∈ encStep x, v.oneCell' = true := fun v hv => by
  simp [encStep] at hv
  rcases hv with rfl | rfl <;> rfl

theorem holds_step {w : World} {g : Nat} {xs : List StepD} (hx : StepsAt w (some ⟨g, 0, none⟩) xs) (hf : ∀ i, w.frozen? ⟨g, i, none⟩ = false) : HoldsK encStep 2 w g 0 xs.toArray := fun j hj => by
  rw [size_flatK] at hj
  have hj2 : j / 2 < xs.length := by simp at hj; omega
  refine ⟨?_, hf _⟩
  rw [get_flatK _ _ _ _ hj]
  obtain ⟨b, o, e, h0, h1⟩ := hx (j / 2) _ (List.getElem?_eq_getElem hj2)
  injection e with e
  injection e with e1 e2
  subst e1 e2
  have ea : xs.toArray[j / 2]! = xs[j / 2] := by simp [hj2]
  rw [ea]
  rcases Nat.mod_two_eq_zero_or_one j with hm | hm
  · rw [hm]
    rw [show 0 + j = 0 + j / 2 * 2 by omega]
    exact h0
  · rw [hm]
    rw [show 0 + j = 0 + j / 2 * 2 + 1 by omega]
    exact h1
theorem steps_held {w : World} {g : Nat} {d : Array StepD} (h : HoldsK encStep 2 w g 0 d) : StepsAt w (some ⟨g, 0, none⟩) d.toList := fun k a hk => by
  obtain ⟨hk2, rfl⟩ := List.getElem?_eq_some_iff.1 hk
  have hk' : k < d.size := by have h := hk2; rw [Array.length_toList] at h; exact h
  have h0 := (h.cell (i := k) (c := 0) hk' (by omega)).1
  have h1 := (h.cell (i := k) (c := 1) hk' (by omega)).1
  have ea : d[k]! = d.toList[k] := by simp [hk']
  rw [ea] at h0 h1
  exact ⟨g, 0, rfl, h0, h1⟩

theorem grown_put {w : World} {g n : Nat} {os : Array Obj} (d : Array StepD) : w.grownBy (grow (putRowK encStep 2 (Sort.ahead w n) g 0 d) os) (some g) := by
  refine ⟨rfl, rfl, rfl, by simp [putRowK], fun k hk hne => ?_⟩
  rw [heap_grow_old _ _ (by simpa [putRowK] using hk)]
  have : g ≠ k := fun e => hne (by rw [e])
  simp [putRowK, putRow, mapBlock, Sort.ahead, Array.getElem?_modify, this]
theorem row_put {w : World} {g n t sz : Nat} {os : Array Obj} (d : Array StepD) (h : RowN w g t sz) : RowN (grow (putRowK encStep 2 (Sort.ahead w n) g 0 d) os) g t sz := by
  obtain ⟨cs, hb, hs⟩ := h
  have hg : g < w.heap.size := (Array.getElem?_eq_some_iff.1 hb).1
  refine ⟨putCells id 0 (flatK encStep 2 d) cs, ?_, by simp [putCells, hs]⟩
  rw [heap_grow_old _ _ (by simpa [putRowK] using hg)]
  simp [putRowK, putRow, mapBlock, Sort.ahead, Array.getElem?_modify, hb, onCells]

theorem ResStep.row {w : World} {lo g n c : Nat} {xs : List StepD} (h : ResStep w lo (.slice (some ⟨g, 0, none⟩) n c) xs) : RowN w g 42 (c * 2) ∧ lo ≤ g ∧ xs.length = n ∧ n ≤ c ∧ c ≤ maxLen := by
  rcases h.2 with ⟨h0, _⟩ | ⟨g', cap, cur, hv, hlo, hh, hn, hm, hs, ht⟩
  · cases h0
  · cases hv
    exact ⟨⟨cur, hh, hs⟩, hlo, rfl, hn, hm⟩
/-- The same memory holds other steps. -/
theorem ResStep.again {w w' : World} {lo g n c : Nat} {xs ys : List StepD} (h : ResStep w lo (.slice (some ⟨g, 0, none⟩) n c) xs) (hr : RowN w' g 42 (c * 2)) (hy : StepsAt w' (some ⟨g, 0, none⟩) ys) (hl : ys.length = n) : ResStep w' lo (.slice (some ⟨g, 0, none⟩) n c) ys := by
  obtain ⟨_, hlo, _, hn, hm⟩ := h.row
  obtain ⟨cur, hh, hs⟩ := hr
  refine ⟨by rw [cellsStep_length], .inr ⟨g, c, cur, by rw [hl], hlo, hh, by omega, hm, hs, ?_⟩⟩
  apply List.ext_getElem?
  intro j
  by_cases hj : j < ys.length * 2
  · have hj' : j < (cellsStep ys).length := by rw [cellsStep_length]; exact hj
    rw [List.getElem?_take_of_lt hj, Array.getElem?_toList]
    have := cells_of_steps (w := w') (g := g) ys 0 (fun k a hk => by
      obtain ⟨b, o, e, h5⟩ := hy k a hk
      injection e with e
      injection e with e1 e2
      subst e1 e2
      exact h5) j _ (List.getElem?_eq_getElem hj')
    rw [Nat.zero_add, cell_of_row w' g j cur _ _ hh] at this
    rw [this, List.getElem?_eq_getElem hj']
  · rw [List.getElem?_eq_none (by simp; omega), List.getElem?_eq_none (by rw [cellsStep_length]; omega)]

def orI (a b : Int) : Int := if a = 0 then b else a
theorem or_any (g : Nat) (a b : Int) (w : World) (h0 : w.cell? ⟨g, 0, none⟩ = some (.int .i64 a)) (h1 : w.cell? ⟨g, 1, none⟩ = some (.int .i64 b)) :
    Calls Try.prog 73 #[.slice (some ⟨g, 0, none⟩) 2 2] w fun e w' => e = .returned (.int .i64 (orI a b)) ∧ w = w' := by
  by_cases ha : a = 0
  · by_cases hb : b = 0
    · subst ha hb
      go_enter Try.func73, Try.ntmps73
      go_wp2
      go_loop [8] (fun i => ∃ k : Nat, k ≤ 2 ∧ i = .int .i64 k) (fun i => 2 - (intOf i).toNat)
      case atStart => exact ⟨0, by omega, rfl⟩
      case round =>
        obtain ⟨k, hk, rfl⟩ := hrel
        by_cases e2 : k = 2
        · subst e2
          go_wp2
          go_ret
          exact ⟨ret_int (by simp [orI]), rfl⟩
        · have hc : w.cell? ⟨g, k, none⟩ = some (.int .i64 0) := by
            by_cases e : k = 0
            · subst e; exact h0
            · obtain rfl : k = 1 := by omega
              exact h1
          have hlt : k < 2 := by omega
          have hlt' : (k : Int) < 2 := by omega
          clear e2
          go_wp2
          go_round
          case rel => exact ⟨k + 1, by omega, by go_num⟩
          case measure => simp [intOf]; omega
    · subst ha
      have hb' : (b != 0) = true := by simpa using hb
      go_enter Try.func73, Try.ntmps73
      go_wp2
      go_loop [8] (fun i => ∃ k : Nat, k ≤ 1 ∧ i = .int .i64 k) (fun i => 2 - (intOf i).toNat)
      case atStart => exact ⟨0, by omega, rfl⟩
      case round =>
        obtain ⟨k, hk, rfl⟩ := hrel
        by_cases e2 : k = 1
        · subst e2
          go_wp2
          go_ret
          exact ⟨ret_int (by simp [orI]), rfl⟩
        · obtain rfl : k = 0 := by omega
          clear e2
          go_wp2
          go_round
          case rel => exact ⟨1, by omega, by go_num⟩
          case measure => simp [intOf]
  · have ha' : (a != 0) = true := by simpa using ha
    go_enter Try.func73, Try.ntmps73
    go_wp2
    go_loop [8] (fun i => i = .int .i64 0) (fun _ => 0)
    case atStart => rfl
    case round =>
      subst hrel
      go_wp2
      go_ret
      exact ⟨ret_int (by simp [orI, ha]), rfl⟩

def laterI (x y : StepD) : Int := orI (Lib.compareInt y.x0 x.x0) (Lib.compareInt x.x1 y.x1)

theorem laterI_lt (x y : StepD) : ltOf laterI x y = decide (y.x0 < x.x0 ∨ (y.x0 = x.x0 ∧ x.x1 < y.x1)) := by
  unfold ltOf laterI orI Lib.compareInt
  rw [decide_eq_decide]
  constructor
  · intro h
    repeat' split at h
    all_goals omega
  · intro h
    repeat' split
    all_goals omega
theorem laterI_swo : SWO (ltOf laterI) where
  irrefl x := by rw [laterI_lt]; simp
  trans x y z h1 h2 := by rw [laterI_lt] at *; simp only [decide_eq_true_eq] at *; omega
  ntrans x y z h1 h2 := by rw [laterI_lt] at *; simp only [decide_eq_false_iff_not] at *; omega

set_option maxRecDepth 100000 in
set_option maxHeartbeats 1000000 in
theorem later_any (x y : StepD) (W : World) :
    Calls Try.prog 65 #[.agg #[.int .i64 x.x0, .int .i64 x.x1], .agg #[.int .i64 y.x0, .int .i64 y.x1]] W fun e w' => e = .returned (.int .i64 (laterI x y)) ∧ ∃ q os, w' = grow (W.drewN q) os := by
  obtain ⟨x0, x1⟩ := x
  obtain ⟨y0, y1⟩ := y
  have hcon := fun a b W' => AnyG.cmp_Compare_int cmpL a b W'
  change ∀ a b W', Calls Try.prog 74 _ _ _ at hcon
  have HC := Lib.hid hcon
  clear hcon
  obtain ⟨p, hp⟩ : ∃ p, p = Lib.compareInt y0 x0 := ⟨_, rfl⟩
  obtain ⟨q, hq⟩ : ∃ q, q = Lib.compareInt x1 y1 := ⟨_, rfl⟩
  have hc1 : ∀ W', Calls Try.prog 74 #[.int .i64 y0, .int .i64 x0] W' fun e w' => e = .returned (.int .i64 p) ∧ w' = W' := fun W' => by rw [hp]; exact HC.out _ _ _
  have hc2 : ∀ W', Calls Try.prog 74 #[.int .i64 x1, .int .i64 y1] W' fun e w' => e = .returned (.int .i64 q) ∧ w' = W' := fun W' => by rw [hq]; exact HC.out _ _ _
  have HP := Lib.hid hc1
  have HQ := Lib.hid hc2
  have HV : Hid (laterI ⟨x0, x1⟩ ⟨y0, y1⟩ = orI p q) := by rw [Hid, hp, hq]; rfl
  clear hp hq hc1 hc2
  go_enter Try.func65, Try.ntmps65
  obtain ⟨W2, hW2⟩ : ∃ W2, W2 = (W.alloc (.cells #[.int .i64 x0, .int .i64 x1] 42)).alloc (.cells #[.int .i64 y0, .int .i64 y1] 42) := ⟨_, rfl⟩
  go_wp2_with fail
  have b0 : W2.cell? ⟨W.heap.size, 0, none⟩ = some (.int .i64 x0) := by rw [hW2]; go_simp
  have b1 : W2.cell? ⟨W.heap.size, 1, none⟩ = some (.int .i64 x1) := by rw [hW2]; go_simp
  have b2 : W2.cell? ⟨W.heap.size + 1, 0, none⟩ = some (.int .i64 y0) := by rw [hW2]; go_simp
  have b3 : W2.cell? ⟨W.heap.size + 1, 1, none⟩ = some (.int .i64 y1) := by rw [hW2]; go_simp
  rw [← hW2]
  have HW2 := Lib.hid hW2
  clear hW2
  refine wp_region_still_tail 10 (by kernel_rfl) (by kernel_rfl) ?_
  simp only [List.take_succ_cons, List.take_zero, List.drop_succ_cons, List.drop_zero]
  repeat still_step
  still_call (HP.out _)
  repeat still_step
  still_call (HQ.out _)
  try refine wpStill_nil ?_
  change wpList _ _ _ _ _ W2.drew
  go_wp2_with fail
  refine (or_any W2.heap.size p q _ (by go_simp) (by go_simp)).mono ?_
  rintro e w1 ⟨rfl, rfl⟩
  go_wp2
  go_ret
  refine ⟨ret_int HV.out.symm, 1, #[.cells #[.int .i64 x0, .int .i64 x1] 42] ++ (#[.cells #[.int .i64 y0, .int .i64 y1] 42] ++ #[.cells #[.int .i64 p, .int .i64 q] 3]), ?_⟩
  rw [HW2.out, ← grow_grow, ← grow_grow]
  simp only [alloc_eq_grow]
  rfl

end Go.Proofs.Ythopenknfadciaa
