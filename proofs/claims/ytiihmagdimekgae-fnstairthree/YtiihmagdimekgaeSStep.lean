/-
  Steps that are sorted, copied and turned round by the library: slices.Clone, slices.SortFunc with impl.laterThenQuicker, slices.Reverse.
-/
import Derived.Shelf.SlSortCmp.WholeK
import Derived.Shelf.SlSortCmp.NoneTotal
import Derived.Shelf.SlicesQ.Reverse
import Derived.Shelf.SlicesG.Cmp
import Derived.Shelf.Lay
import Derived.Ground.SlsfProg
import Derived.Ground.SlgcProg
import Derived.Ground.SlgnProg
import Derived.Lib.SliceRun
import Derived.Test.YtiihmagdimekgaeSince
namespace Go.Proofs.Ytiihmagdimekgae
open Go.Shelf Go.RowKit Go.Lib Go.Sort
shelf_lay_g SlLaysF0.n6 Slsf 6 at Try 28 as sortL
shelf_lay_g SlLaysC2.n5 Slgc 5 at Try 36 as cmpL
shelf_lay_g SlLaysE0.n35 Slgn 35 at Try 30 as revL

/-- A step's two cells. -/
def encStep (x : StepD) : List Value := [.int .i64 x.x0, .int .i64 x.x1]
theorem encStep_one (x : StepD) : ∀ v ∈ encStep x, v.oneCell' = true := fun v hv => by
  simp [encStep] at hv
  rcases hv with rfl | rfl <;> rfl

theorem holds_step {w : World} {g : Nat} {xs : List StepD} (hx : StepsAt w (some ⟨g, 0, none⟩) xs) (hf : ∀ i, w.frozen? ⟨g, i, none⟩ = false) : HoldsK encStep 2 w g 0 xs.toArray := fun j hj => by
  rw [size_flatK] at hj
  have hj2 : j / 2 < xs.length := by simp at hj; omega
  refine ⟨?_, hf _⟩
  rw [get_flatK _ _ _ _ hj]
  obtain ⟨b, o, e, h0, h1⟩ := hx (j / 2) _ (List.getElem?_eq_getElem hj2)
  injection e with e
  injection e with e1 e2
  subst e1 e2
  have ea : xs.toArray[j / 2]! = xs[j / 2] := by simp [hj2]
  rw [ea]
  rcases Nat.mod_two_eq_zero_or_one j with hm | hm
  · rw [hm]
    rw [show 0 + j = 0 + j / 2 * 2 by omega]
    exact h0
  · rw [hm]
    rw [show 0 + j = 0 + j / 2 * 2 + 1 by omega]
    exact h1
theorem steps_held {w : World} {g : Nat} {d : Array StepD} (h : HoldsK encStep 2 w g 0 d) : StepsAt w (some ⟨g, 0, none⟩) d.toList := fun k a hk => by
  obtain ⟨hk2, rfl⟩ := List.getElem?_eq_some_iff.1 hk
  have hk' : k < d.size := by have h := hk2; rw [Array.length_toList] at h; exact h
  have h0 := (h.cell (i := k) (c := 0) hk' (by omega)).1
  have h1 := (h.cell (i := k) (c := 1) hk' (by omega)).1
  have ea : d[k]! = d.toList[k] := by simp [hk']
  rw [ea] at h0 h1
  exact ⟨g, 0, rfl, h0, h1⟩

theorem grown_put {w : World} {g n : Nat} {os : Array Obj} (d : Array StepD) : w.grownBy (grow (putRowK encStep 2 (Sort.ahead w n) g 0 d) os) (some g) := by
  refine ⟨rfl, rfl, rfl, by simp [putRowK], fun k hk hne => ?_⟩
  rw [heap_grow_old _ _ (by simpa [putRowK] using hk)]
  have : g ≠ k := fun e => hne (by rw [e])
  simp [putRowK, putRow, mapBlock, Sort.ahead, Array.getElem?_modify, this]
theorem row_put {w : World} {g n t sz : Nat} {os : Array Obj} (d : Array StepD) (h : RowN w g t sz) : RowN (grow (putRowK encStep 2 (Sort.ahead w n) g 0 d) os) g t sz := by
  obtain ⟨cs, hb, hs⟩ := h
  have hg : g < w.heap.size := (Array.getElem?_eq_some_iff.1 hb).1
  refine ⟨putCells id 0 (flatK encStep 2 d) cs, ?_, by simp [putCells, hs]⟩
  rw [heap_grow_old _ _ (by simpa [putRowK] using hg)]
  simp [putRowK, putRow, mapBlock, Sort.ahead, Array.getElem?_modify, hb, onCells]

theorem ResStep.row {w : World} {lo g n c : Nat} {xs : List StepD} (h : ResStep w lo (.slice (some ⟨g, 0, none⟩) n c) xs) : RowN w g 37 (c * 2) ∧ lo ≤ g ∧ xs.length = n ∧ n ≤ c ∧ c ≤ maxLen := by
  rcases h.2 with ⟨h0, _⟩ | ⟨g', cap, cur, hv, hlo, hh, hn, hm, hs, ht⟩
  · cases h0
  · cases hv
    exact ⟨⟨cur, hh, hs⟩, hlo, rfl, hn, hm⟩
/-- The same memory holds other steps. -/
theorem ResStep.again {w w' : World} {lo g n c : Nat} {xs ys : List StepD} (h : ResStep w lo (.slice (some ⟨g, 0, none⟩) n c) xs) (hr : RowN w' g 37 (c * 2)) (hy : StepsAt w' (some ⟨g, 0, none⟩) ys) (hl : ys.length = n) : ResStep w' lo (.slice (some ⟨g, 0, none⟩) n c) ys := by
  obtain ⟨_, hlo, _, hn, hm⟩ := h.row
  obtain ⟨cur, hh, hs⟩ := hr
  refine ⟨by rw [cellsStep_length], .inr ⟨g, c, cur, by rw [hl], hlo, hh, by omega, hm, hs, ?_⟩⟩
  apply List.ext_getElem?
  intro j
  by_cases hj : j < ys.length * 2
  · have hj' : j < (cellsStep ys).length := by rw [cellsStep_length]; exact hj
    rw [List.getElem?_take_of_lt hj, Array.getElem?_toList]
    have := cells_of_steps (w := w') (g := g) ys 0 (fun k a hk => by
      obtain ⟨b, o, e, h5⟩ := hy k a hk
      injection e with e
      injection e with e1 e2
      subst e1 e2
      exact h5) j _ (List.getElem?_eq_getElem hj')
    rw [Nat.zero_add, cell_of_row w' g j cur _ _ hh] at this
    rw [this, List.getElem?_eq_getElem hj']
  · rw [List.getElem?_eq_none (by simp; omega), List.getElem?_eq_none (by rw [cellsStep_length]; omega)]

def orI (a b : Int) : Int := if a = 0 then b else a
theorem or_any (g : Nat) (a b : Int) (w : World) (h0 : w.cell? ⟨g, 0, none⟩ = some (.int .i64 a)) (h1 : w.cell? ⟨g, 1, none⟩ = some (.int .i64 b)) :
    Calls Try.prog 35 #[.slice (some ⟨g, 0, none⟩) 2 2] w fun e w' => e = .returned (.int .i64 (orI a b)) ∧ w = w' := by
  by_cases ha : a = 0
  · by_cases hb : b = 0
    · subst ha hb
      go_enter Try.func35, Try.ntmps35
      go_wp2
      go_loop [8] (fun i => ∃ k : Nat, k ≤ 2 ∧ i = .int .i64 k) (fun i => 2 - (intOf i).toNat)
      case atStart => exact ⟨0, by omega, rfl⟩
      case round =>
        obtain ⟨k, hk, rfl⟩ := hrel
        by_cases e2 : k = 2
        · subst e2
          go_wp2
          go_ret
          exact ⟨ret_int (by simp [orI]), rfl⟩
        · have hc : w.cell? ⟨g, k, none⟩ = some (.int .i64 0) := by
            by_cases e : k = 0
            · subst e; exact h0
            · obtain rfl : k = 1 := by omega
              exact h1
          have hlt : k < 2 := by omega
          have hlt' : (k : Int) < 2 := by omega
          clear e2
          go_wp2
          go_round
          case rel => exact ⟨k + 1, by omega, by go_num⟩
          case measure => simp [intOf]; omega
    · subst ha
      have hb' : (b != 0) = true := by simpa using hb
      go_enter Try.func35, Try.ntmps35
      go_wp2
      go_loop [8] (fun i => ∃ k : Nat, k ≤ 1 ∧ i = .int .i64 k) (fun i => 2 - (intOf i).toNat)
      case atStart => exact ⟨0, by omega, rfl⟩
      case round =>
        obtain ⟨k, hk, rfl⟩ := hrel
        by_cases e2 : k = 1
        · subst e2
          go_wp2
          go_ret
          exact ⟨ret_int (by simp [orI]), rfl⟩
        · obtain rfl : k = 0 := by omega
          clear e2
          go_wp2
          go_round
          case rel => exact ⟨1, by omega, by go_num⟩
          case measure => simp [intOf]
  · have ha' : (a != 0) = true := by simpa using ha
    go_enter Try.func35, Try.ntmps35
    go_wp2
    go_loop [8] (fun i => i = .int .i64 0) (fun _ => 0)
    case atStart => rfl
    case round =>
      subst hrel
      go_wp2
      go_ret
      exact ⟨ret_int (by simp [orI, ha]), rfl⟩

def laterI (x y : StepD) : Int := orI (Lib.compareInt y.x0 x.x0) (Lib.compareInt x.x1 y.x1)

theorem laterI_lt (x y : StepD) : ltOf laterI x y = decide (y.x0 < x.x0 ∨ (y.x0 = x.x0 ∧ x.x1 < y.x1)) := by
  unfold ltOf laterI orI Lib.compareInt
  rw [decide_eq_decide]
  constructor
  · intro h
    repeat' split at h
    all_goals omega
  · intro h
    repeat' split
    all_goals omega
theorem laterI_swo : SWO (ltOf laterI) where
  irrefl x := by rw [laterI_lt]; simp
  trans x y z h1 h2 := by rw [laterI_lt] at *; simp only [decide_eq_true_eq] at *; omega
  ntrans x y z h1 h2 := by rw [laterI_lt] at *; simp only [decide_eq_false_iff_not] at *; omega

set_option maxRecDepth 100000 in
set_option maxHeartbeats 1000000 in
theorem later_any (x y : StepD) (W : World) :
    Calls Try.prog 29 #[.agg #[.int .i64 x.x0, .int .i64 x.x1], .agg #[.int .i64 y.x0, .int .i64 y.x1]] W fun e w' => e = .returned (.int .i64 (laterI x y)) ∧ ∃ q os, w' = grow (W.drewN q) os := by
  obtain ⟨x0, x1⟩ := x
  obtain ⟨y0, y1⟩ := y
  have hcon := fun a b W' => AnyG.cmp_Compare_int cmpL a b W'
  change ∀ a b W', Calls Try.prog 36 _ _ _ at hcon
  have HC := Lib.hid hcon
  clear hcon
  obtain ⟨p, hp⟩ : ∃ p, p = Lib.compareInt y0 x0 := ⟨_, rfl⟩
  obtain ⟨q, hq⟩ : ∃ q, q = Lib.compareInt x1 y1 := ⟨_, rfl⟩
  have hc1 : ∀ W', Calls Try.prog 36 #[.int .i64 y0, .int .i64 x0] W' fun e w' => e = .returned (.int .i64 p) ∧ w' = W' := fun W' => by rw [hp]; exact HC.out _ _ _
  have hc2 : ∀ W', Calls Try.prog 36 #[.int .i64 x1, .int .i64 y1] W' fun e w' => e = .returned (.int .i64 q) ∧ w' = W' := fun W' => by rw [hq]; exact HC.out _ _ _
  have HP := Lib.hid hc1
  have HQ := Lib.hid hc2
  have HV : Hid (laterI ⟨x0, x1⟩ ⟨y0, y1⟩ = orI p q) := by rw [Hid, hp, hq]; rfl
  clear hp hq hc1 hc2
  go_enter Try.func29, Try.ntmps29
  obtain ⟨W2, hW2⟩ : ∃ W2, W2 = (W.alloc (.cells #[.int .i64 x0, .int .i64 x1] 37)).alloc (.cells #[.int .i64 y0, .int .i64 y1] 37) := ⟨_, rfl⟩
  go_wp2_with fail
  have b0 : W2.cell? ⟨W.heap.size, 0, none⟩ = some (.int .i64 x0) := by rw [hW2]; go_simp
  have b1 : W2.cell? ⟨W.heap.size, 1, none⟩ = some (.int .i64 x1) := by rw [hW2]; go_simp
  have b2 : W2.cell? ⟨W.heap.size + 1, 0, none⟩ = some (.int .i64 y0) := by rw [hW2]; go_simp
  have b3 : W2.cell? ⟨W.heap.size + 1, 1, none⟩ = some (.int .i64 y1) := by rw [hW2]; go_simp
  rw [← hW2]
  have HW2 := Lib.hid hW2
  clear hW2
  refine wp_region_still_tail 10 (by kernel_rfl) (by kernel_rfl) ?_
  simp only [List.take_succ_cons, List.take_zero, List.drop_succ_cons, List.drop_zero]
  repeat still_step
  still_call (HP.out _)
  repeat still_step
  still_call (HQ.out _)
  try refine wpStill_nil ?_
  change wpList _ _ _ _ _ W2.drew
  go_wp2_with fail
  refine (or_any W2.heap.size p q _ (by go_simp) (by go_simp)).mono ?_
  rintro e w1 ⟨rfl, rfl⟩
  go_wp2
  go_ret
  refine ⟨ret_int HV.out.symm, 1, #[.cells #[.int .i64 x0, .int .i64 x1] 37] ++ (#[.cells #[.int .i64 y0, .int .i64 y1] 37] ++ #[.cells #[.int .i64 p, .int .i64 q] 3]), ?_⟩
  rw [HW2.out, ← grow_grow, ← grow_grow]
  simp only [alloc_eq_grow]
  rfl

end Go.Proofs.Ytiihmagdimekgae
