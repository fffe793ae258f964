/-
  FnExactTourCost answers true at every input: impl.TourCost answers as spec.TourCost, leaves its arguments alone. No condition.
-/
import Derived.Test.YtaojognjkiifmacInfoI
import Derived.Test.YtaojognjkiifmacMarkB
import Derived.Test.YtaojognjkiifmacTo
import Derived.Test.YtaojognjkiifmacSTour
import Derived.Test.YtaojognjkiifmacIStops
import Derived.Test.YtaojognjkiifmacSame
import Derived.Test.YtaojognjkiifmacOpen
import Derived.Test.YtaojognjkiifmacSameI
import Derived.Test.YtaojognjkiifmacOpenI
import Derived.Test.YtaojognjkiifmacResI
import Derived.Test.YtaojognjkiifmacOpenW
namespace Go.Proofs.Ytaojognjkiifmac
open Go.RowKit

/-- k, k + 1, .. -/
def markInts (k : Nat) (n : Nat) : List Int := (List.range n).map fun i => ((k + i : Nat) : Int)
theorem markInts_length (k n : Nat) : (markInts k n).length = n := by simp [markInts]
theorem markInts_at (k n i : Nat) (h : i < n) : (markInts k n)[i]? = some ((k + i : Nat) : Int) := by simp [markInts, h]
theorem markIntS_any (A : Option Addr) (n c k lo t : Nat) (w : World) (hn : n ≤ 1048576) (ki : Int) (hki : ki = (k : Int)) (hk : k ≤ 100000000) (ho : OwnAt w lo A t 1 n) :
    Calls Try.prog 27 #[.slice A n c, .int .i64 ki] w (Marked w A (k + n) fun w' => IntsAt w' A (markInts k n)) := by
  subst hki
  rcases ho with ⟨rfl, rfl⟩ | ⟨g, sz, rfl, hlo, hr, hs⟩
  · go_enter Try.func27, Try.ntmps27
    go_wp2
    go_loop [5, 1] (fun i q => i = .int .i64 0 ∧ q = .int .i64 k) (fun _ _ => 0)
    case atStart => exact ⟨rfl, rfl⟩
    case round =>
      obtain ⟨rfl, rfl⟩ := hrel
      go_wp2
      go_ret
      exact ⟨ret_int (by simp), grown_refl _ _, fun i x h => by simp [markInts] at h⟩
  · go_enter Try.func27, Try.ntmps27
    go_wp2
    go_loopw [5, 1] (fun i q wr => ∃ j : Nat, j ≤ n ∧ i = .int .i64 j ∧ q = .int .i64 ((k : Int) + (j : Int)) ∧ w.grownBy wr (some g) ∧ MadeI wr g t sz (markInts k n) j) (fun i _ _ => n - (intOf i).toNat)
    case atStart => exact ⟨0, by omega, rfl, by simp, grown_refl _ _, hr, fun j x h => absurd h (by omega)⟩
    case round =>
      obtain ⟨j, hj, rfl, rfl, hb, hm⟩ := hrel
      by_cases hlt : j < n
      · have HM := Lib.hid (markInts_at k n j hlt)
        obtain ⟨v0, e0⟩ := hm.1.cell (i := j) (by omega)
        have z0 := hm.1.frozen j
        have hjs : j < sz := by omega
        go_wp2
        go_roundw
        case rel => exact ⟨j + 1, by omega, by go_num, by go_num, grown_set hb _ _, by have := hm.next HM.out hjs; simpa using this⟩
        case measure => simp [intOf]; omega
      · obtain rfl : n = j := by omega
        go_wp2
        go_ret
        exact ⟨rfl, hb, fun i x h => ⟨g, 0, rfl, by
          have hi : i < n := by have := (List.getElem?_eq_some_iff.1 h).1; simpa [markInts_length] using this
          rw [Nat.zero_add]; exact hm.2 i x hi h⟩⟩

theorem heldIntS_any (A : Option Addr) (n c k : Nat) (w : World) (hn : n ≤ 1048576) (ki : Int) (hki : ki = (k : Int)) (hk : k ≤ 100000000) (hx : IntsAt w A (markInts k n)) :
    Calls Try.prog 28 #[.slice A n c, .int .i64 ki] w fun e w' => e = .returned (.int .i64 (k + n)) ∧ w = w' := by
  subst hki
  go_enter Try.func28, Try.ntmps28
  go_wp2
  go_loop [5, 1] (fun i q => ∃ j : Nat, j ≤ n ∧ i = .int .i64 j ∧ q = .int .i64 ((k : Int) + (j : Int))) (fun i _ => n - (intOf i).toNat)
  case atStart => exact ⟨0, by omega, rfl, by simp⟩
  case round =>
    obtain ⟨j, hj, rfl, rfl⟩ := hrel
    by_cases hlt : j < n
    · obtain ⟨g, o, rfl, c0⟩ := hx j _ (markInts_at k n j hlt)
      have hne : ((((k + j : Nat) : Int)) != (k : Int) + (j : Int)) = false := by simp
      go_wp2
      go_round
      case rel => exact ⟨j + 1, by omega, by go_num, by go_num⟩
      case measure => simp [intOf]; omega
    · obtain rfl : n = j := by omega
      go_wp2
      go_ret
      exact ⟨rfl, rfl⟩

/-- What lies in elder blocks than the one that is written. -/
theorem IntsAt.old {wE w w' : World} {A : Option Addr} {xs : List Int} {g : Nat} (hE : IntsAt wE A xs) (h : IntsAt w A xs) (hg : w.grownBy w' (some g)) (hle : wE.heap.size ≤ g) : IntsAt w' A xs := fun k x hk => by
  obtain ⟨b, o, rfl, hc⟩ := hE k x hk
  obtain ⟨b', o', e, hc'⟩ := h k x hk
  have hb : b < wE.heap.size := lt_of_cell hc
  injection e with e
  injection e with e1 e2
  subst e1 e2
  exact ⟨b, o, rfl, hg.cell hc' (by simp only [ne_eq, Option.some.injEq]; omega)⟩
/-- What lies in younger blocks. -/
theorem IntsAt.young {w w' : World} {A : Option Addr} {xs : List Int} {g lo t : Nat} (ho : OwnAt w lo A t 1 xs.length) (h : IntsAt w A xs) (hg : w.grownBy w' (some g)) (hlt : g < lo) : IntsAt w' A xs := fun k x hk => by
  obtain ⟨b', o', rfl, hc'⟩ := h k x hk
  rcases ho with ⟨h0, _⟩ | ⟨b, sz, e, hl, _, _⟩
  · cases h0
  · injection e with e
    injection e with e1 e2
    subst e1
    exact ⟨b', o', rfl, hg.cell hc' (by simp only [ne_eq, Option.some.injEq]; omega)⟩
theorem IntsAt.under {wE w w' : World} {A : Option Addr} {xs : List Int} {lo : Nat} (hE : IntsAt wE A xs) (h : IntsAt w A xs) (hb : Below lo w w') (hle : wE.heap.size ≤ lo) : IntsAt w' A xs := fun k x hk => by
  obtain ⟨b, o, rfl, hc⟩ := hE k x hk
  obtain ⟨b', o', e, hc'⟩ := h k x hk
  have hb' : b < wE.heap.size := lt_of_cell hc
  injection e with e
  injection e with e1 e2
  subst e1 e2
  exact ⟨b, o, rfl, (hb.cell (p := ⟨b, o + k, none⟩) (by simp only; omega)).trans hc'⟩

end Go.Proofs.Ytaojognjkiifmac

namespace Go.Proofs.Ytaojognjkiifmac
open Go.RowKit

def markArcs (k : Nat) (n : Nat) : List ArcD := (List.range n).map fun i => ⟨((k + 5 * i : Nat) : Int), ((k + 5 * i + 1 : Nat) : Int), ((k + 5 * i + 2 : Nat) : Int), ((k + 5 * i + 3 : Nat) : Int), ((k + 5 * i + 4 : Nat) : Int)⟩
theorem markArcs_length (k n : Nat) : (markArcs k n).length = n := by simp [markArcs]
theorem markArcs_at (k n i : Nat) (h : i < n) : (markArcs k n)[i]? = some ⟨((k + 5 * i : Nat) : Int), ((k + 5 * i + 1 : Nat) : Int), ((k + 5 * i + 2 : Nat) : Int), ((k + 5 * i + 3 : Nat) : Int), ((k + 5 * i + 4 : Nat) : Int)⟩ := by simp [markArcs, h]

/-- Made, with room to spare. -/
theorem Made.nextMark {w : World} {g t n sz k j : Nat} (h : RowN w g t sz ∧ ∀ i a, i < j → (markArcs k n)[i]? = some a → Arc5 w g (i * 5) a) (hj : j < n) (hs : n * 5 ≤ sz) :
    let w' := (((((w.setCell ⟨g, j * 5, none⟩ (.int .i64 ((k + 5 * j : Nat) : Int))).setCell ⟨g, j * 5 + 1, none⟩ (.int .i64 ((k + 5 * j + 1 : Nat) : Int))).setCell ⟨g, j * 5 + 2, none⟩ (.int .i64 ((k + 5 * j + 2 : Nat) : Int))).setCell ⟨g, j * 5 + 3, none⟩ (.int .i64 ((k + 5 * j + 3 : Nat) : Int))).setCell ⟨g, j * 5 + 4, none⟩ (.int .i64 ((k + 5 * j + 4 : Nat) : Int)))
    RowN w' g t sz ∧ ∀ i a, i < j + 1 → (markArcs k n)[i]? = some a → Arc5 w' g (i * 5) a := by
  intro w'
  refine ⟨((((h.1.set _ _).set _ _).set _ _).set _ _).set _ _, fun i a hi hia => ?_⟩
  rcases Nat.lt_or_ge i j with hlt | hge
  · exact (((((h.2 i a hlt hia).set _ _ (by omega)).set _ _ (by omega)).set _ _ (by omega)).set _ _ (by omega)).set _ _ (by omega)
  · obtain rfl : i = j := by omega
    rw [markArcs_at k n i hj] at hia
    injection hia with hia
    subst hia
    exact Arc5.put h.1 (by omega) _ _ _ _ _

/-- The row and the marks so far. -/
def MarkedTo (w : World) (g t sz k n j : Nat) : Prop := RowN w g t sz ∧ ∀ i a, i < j → (markArcs k n)[i]? = some a → Arc5 w g (i * 5) a

set_option maxHeartbeats 1000000 in
theorem markArcS_any (A : Option Addr) (n c k lo t : Nat) (w : World) (hn : n ≤ 1048576) (ki : Int) (hki : ki = (k : Int)) (hk : k ≤ 100000000) (ho : OwnAt w lo A t 5 n) :
    Calls Try.prog 62 #[.slice A n c, .int .i64 ki] w (Marked w A (k + 5 * n) fun w' => ArcsAt w' A (markArcs k n)) := by
  subst hki
  rcases ho with ⟨rfl, rfl⟩ | ⟨g, sz, rfl, hlo, hr, hs⟩
  · go_enter Try.func62, Try.ntmps62
    go_wp2
    go_loop [5, 1] (fun i q => i = .int .i64 0 ∧ q = .int .i64 k) (fun _ _ => 0)
    case atStart => exact ⟨rfl, rfl⟩
    case round =>
      obtain ⟨rfl, rfl⟩ := hrel
      go_wp2
      go_ret
      exact ⟨ret_int (by simp), grown_refl _ _, fun i x h => by simp [markArcs] at h⟩
  · go_enter Try.func62, Try.ntmps62
    go_wp2
    go_loopw [5, 1] (fun i q wr => ∃ j : Nat, j ≤ n ∧ i = .int .i64 j ∧ q = .int .i64 ((k : Int) + 5 * (j : Int)) ∧ w.grownBy wr (some g) ∧ MarkedTo wr g t sz k n j) (fun i _ _ => n - (intOf i).toNat)
    case atStart => exact ⟨0, by omega, rfl, by simp, grown_refl _ _, hr, fun j x h => absurd h (by omega)⟩
    case round =>
      obtain ⟨j, hj, rfl, rfl, hb, hm⟩ := hrel
      by_cases hlt : j < n
      · obtain ⟨v0, e0⟩ := hm.1.cell (i := j * 5) (by omega)
        obtain ⟨v1, e1⟩ := hm.1.cell (i := j * 5 + 1) (by omega)
        obtain ⟨v2, e2⟩ := hm.1.cell (i := j * 5 + 2) (by omega)
        obtain ⟨v3, e3⟩ := hm.1.cell (i := j * 5 + 3) (by omega)
        obtain ⟨v4, e4⟩ := hm.1.cell (i := j * 5 + 4) (by omega)
        have z0 := hm.1.frozen (j * 5)
        have z1 := hm.1.frozen (j * 5 + 1)
        have z2 := hm.1.frozen (j * 5 + 2)
        have z3 := hm.1.frozen (j * 5 + 3)
        have z4 := hm.1.frozen (j * 5 + 4)
        have hm2 : MarkedTo (((((wr.setCell ⟨g, j * 5, none⟩ (.int .i64 ((k : Int) + 5 * (j : Int)))).setCell ⟨g, j * 5 + 1, none⟩ (.int .i64 ((k : Int) + 5 * (j : Int) + 1))).setCell ⟨g, j * 5 + 2, none⟩ (.int .i64 ((k : Int) + 5 * (j : Int) + 1 + 1))).setCell ⟨g, j * 5 + 3, none⟩ (.int .i64 ((k : Int) + 5 * (j : Int) + 1 + 1 + 1))).setCell ⟨g, j * 5 + 4, none⟩ (.int .i64 ((k : Int) + 5 * (j : Int) + 1 + 1 + 1 + 1))) g t sz k n (j + 1) := by
          have h := Made.nextMark hm hlt hs
          have q0 : ((k + 5 * j : Nat) : Int) = (k : Int) + 5 * (j : Int) := by omega
          have q1 : ((k + 5 * j + 1 : Nat) : Int) = (k : Int) + 5 * (j : Int) + 1 := by omega
          have q2 : ((k + 5 * j + 2 : Nat) : Int) = (k : Int) + 5 * (j : Int) + 1 + 1 := by omega
          have q3 : ((k + 5 * j + 3 : Nat) : Int) = (k : Int) + 5 * (j : Int) + 1 + 1 + 1 := by omega
          have q4 : ((k + 5 * j + 4 : Nat) : Int) = (k : Int) + 5 * (j : Int) + 1 + 1 + 1 + 1 := by omega
          rw [q0, q1, q2, q3, q4] at h
          exact h
        go_wp2
        go_roundw
        case rel => exact ⟨j + 1, by omega, by go_num, by go_num, grown_set (grown_set (grown_set (grown_set (grown_set hb _ _) _ _) _ _) _ _) _ _, hm2⟩
        case measure => simp [intOf]; omega
      · obtain rfl : n = j := by omega
        go_wp2
        go_ret
        exact ⟨rfl, hb, fun i x h => ⟨g, 0, rfl, by
          have hi : i < n := by have := (List.getElem?_eq_some_iff.1 h).1; simpa [markArcs_length] using this
          rw [Nat.zero_add]; exact hm.2 i x hi h⟩⟩

theorem markNet_any (m : Int) (A : Option Addr) (n c k lo t : Nat) (w : World) (hn : n ≤ 1048576) (ki : Int) (hki : ki = (k : Int)) (hk : k ≤ 100000000) (ho : OwnAt w lo A t 5 n) :
    Calls Try.prog 26 #[.agg #[.int .i64 m, .slice A n c], .int .i64 ki] w (Marked w A (k + 5 * n) fun w' => ArcsAt w' A (markArcs k n)) := by
  subst hki
  go_enter Try.func26, Try.ntmps26
  go_wp2_with fail
  have hb0 : Below w.heap.size w (w.alloc (.cells #[.int .i64 m, .slice A n c] 30)) := (Below.refl _ _).alloc (Nat.le_refl _) _
  refine (markArcS_any A n c k lo t _ hn _ rfl hk (ho.keep (grown_of_below hb0 none) (by simp))).mono ?_
  rintro e w1 ⟨rfl, hb1, hx⟩
  go_wp2
  go_ret
  exact ⟨rfl, grown_trans (grown_of_below hb0 _) hb1, hx⟩

theorem ArcsAt.old {wE w w' : World} {A : Option Addr} {xs : List ArcD} {g : Nat} (hE : ArcsAt wE A xs) (h : ArcsAt w A xs) (hg : w.grownBy w' (some g)) (hle : wE.heap.size ≤ g) : ArcsAt w' A xs := fun k x hk => by
  obtain ⟨b, o, rfl, hc⟩ := hE k x hk
  obtain ⟨b', o', e, hc'⟩ := h k x hk
  have hb := hc.lt
  injection e with e
  injection e with e1 e2
  subst e1 e2
  exact ⟨b, o, rfl, hc'.keep (hg.block b hc'.lt (by simp only [ne_eq, Option.some.injEq]; omega))⟩
theorem ArcsAt.young {w w' : World} {A : Option Addr} {xs : List ArcD} {g lo t : Nat} (ho : OwnAt w lo A t 5 xs.length) (h : ArcsAt w A xs) (hg : w.grownBy w' (some g)) (hlt : g < lo) : ArcsAt w' A xs := fun k x hk => by
  obtain ⟨b', o', rfl, hc'⟩ := h k x hk
  rcases ho with ⟨h0, _⟩ | ⟨b, sz, e, hl, _, _⟩
  · cases h0
  · injection e with e
    injection e with e1 e2
    subst e1
    exact ⟨b', o', rfl, hc'.keep (hg.block b' hc'.lt (by simp only [ne_eq, Option.some.injEq]; omega))⟩
theorem ArcsAt.under {wE w w' : World} {A : Option Addr} {xs : List ArcD} {lo : Nat} (hE : ArcsAt wE A xs) (h : ArcsAt w A xs) (hb : Below lo w w') (hle : wE.heap.size ≤ lo) : ArcsAt w' A xs := fun k x hk => by
  obtain ⟨b, o, rfl, hc⟩ := hE k x hk
  obtain ⟨b', o', e, hc'⟩ := h k x hk
  have hb' := hc.lt
  injection e with e
  injection e with e1 e2
  subst e1 e2
  exact ⟨b, o, rfl, hc'.keep (hb.block b (by omega))⟩

end Go.Proofs.Ytaojognjkiifmac

namespace Go.Proofs.Ytaojognjkiifmac
open Go.RowKit

/-- A slice of numbers in new memory of the call's own is handed back. -/
def IntsNew (w : World) (n : Nat) (xs : List Int) (e : Ending) (w' : World) : Prop :=
  ∃ g, e = .returned (.slice (some ⟨g, 0, none⟩) n n) ∧ Below w.heap.size w w' ∧ w.heap.size ≤ g ∧ MadeI w' g 3 n xs n

theorem toIntS_any (A : Option Addr) (n cap : Nat) (xs : List Int) (w : World) (hn : n ≤ 1048576) (hl : xs.length = n) (hx : IntsAt w A xs) :
    Calls Try.prog 18 #[.slice A n cap] w (IntsNew w n xs) := by
  have hmk := makeInt n hn
  go_enter Try.func18, Try.ntmps18
  go_wp2
  go_loopw [4] (fun i wr => ∃ k : Nat, k ≤ n ∧ i = .int .i64 k ∧ Below w.heap.size w wr ∧ MadeI wr w.heap.size 3 n xs k) (fun i _ => n - (intOf i).toNat)
  case atStart => exact ⟨0, by omega, rfl, (Below.refl _ _).alloc (Nat.le_refl _) _, MadeI.start _ _ _ _ _ (by simp [size_madeCells])⟩
  case round =>
    obtain ⟨k, hk, rfl, hb, hm⟩ := hrel
    by_cases hlt : k < n
    · obtain ⟨x, ha⟩ : ∃ a, xs[k]? = some a := ⟨_, List.getElem?_eq_getElem (by omega)⟩
      obtain ⟨g, o, rfl, c0⟩ := (hx.below hb) k _ ha
      have HA := Lib.hid ha
      have HL := Lib.hid hl
      clear ha hl
      obtain ⟨v0, e0⟩ := hm.1.cell (i := k) (by omega)
      have z0 := hm.1.frozen k
      go_wp2
      go_roundw
      case rel => exact ⟨k + 1, by omega, by go_num, hb.setCell (by simp) _, hm.next HA.out hlt⟩
      case measure => simp [intOf]; omega
    · obtain rfl : n = k := by omega
      go_wp2
      go_ret
      exact ⟨_, rfl, hb, Nat.le_refl _, hm⟩


end Go.Proofs.Ytaojognjkiifmac

namespace Go.Proofs.Ytaojognjkiifmac
open Go.ChangeShapes Go.WideShapes Go.ChangeAt Go.RowKit

set_option maxRecDepth 100000 in
set_option maxHeartbeats 2000000 in
theorem exactTourCost_walk (m0 : Int) (A0 : Option Addr) (n0 c0 : Nat) (xs0 : List ArcD) (A1 : Option Addr) (n1 c1 : Nat) (xs1 : List Int) (w : World) (hn0 : n0 ≤ maxLen) (hl0 : xs0.length = n0) (hx0 : ArcsAt w A0 xs0) (_hn1 : n1 ≤ maxLen) (hl1 : xs1.length = n1) (hx1 : IntsAt w A1 xs1) :
    Calls Try.prog 3 #[.agg #[.int .i64 m0, .slice A0 n0 c0], .slice A1 n1 c1] w fun e w' => e = .returned (.bool true) ∧ Below w.heap.size w w' := by
  have HX0 := Lib.hid hl0
  have HX1 := Lib.hid hl1
  clear hl0 hl1
  have hP : Past w (w.alloc (.cells #[.int .i64 m0, .slice A0 n0 c0] 24)) := ((Past.refl w).alloc _)
  by_cases hl20_1 : 1048576 < n1
  · have hl20' : (1048576 : Int) < (n1 : Int) := by omega
    go_enter Try.func3, Try.ntmps3
    go_wp2
    go_ret
    exact ⟨rfl, hP⟩
  have h20_1 : n1 ≤ 1048576 := by omega
  have hl20'_1 : ¬ (1048576 : Int) < (n1 : Int) := by omega
  go_enter Try.func3, Try.ntmps3
  go_wp2_with fail
  refine (szNet_any m0 A0 n0 c0 (1048576) _ (by omega) (by omega) hn0).mono ?_
  rintro e w1 ⟨rfl, hb⟩
  have a0_0 := cell_in (p := ⟨w.heap.size, 0, none⟩) (v := .int .i64 m0) hb (by go_simp)
  have a0_1 := cell_in (p := ⟨w.heap.size, 1, none⟩) (v := .slice A0 n0 c0) hb (by go_simp)
  have hx0 := (hx0.below hP).below hb
  have hx1 := (hx1.below hP).below hb
  have hP := Past.trans hP hb
  clear hb
  by_cases h20s_0 : (n0 : Int) ≤ 1048576
  rotate_left
  · have hr : roomLeft (1048576) n0 = -1 := by unfold roomLeft; rw [if_pos (by omega)]
    rw [hr]
    go_wp2
    go_ret
    exact ⟨rfl, hP⟩
  have hr : roomLeft (1048576) n0 = 1048576 - n0 := by unfold roomLeft; rw [if_neg (by omega)]
  rw [hr]
  clear hr
  have h20_0 : n0 ≤ 1048576 := by omega
  go_wp2_with fail
  refine (toNet_any m0 A0 n0 c0 xs0 _ h20_0 HX0.out hx0).mono ?_
  rintro e w2 ⟨sg0, rfl, hb, hg, sm0⟩
  have hx0 := hx0.below hb
  have hx1 := hx1.below hb
  have a0_0 := cell_in hb a0_0
  have a0_1 := cell_in hb a0_1
  have hP := Past.trans hP hb
  have s2 := hb.size
  clear hb hg
  go_wp2_with fail
  refine (toIntS_any A1 n1 c1 xs1 _ h20_1 HX1.out hx1).mono ?_
  rintro e w3 ⟨sg1, rfl, hb, hg, sm1⟩
  have hx0 := hx0.below hb
  have hx1 := hx1.below hb
  have a0_0 := cell_in hb a0_0
  have a0_1 := cell_in hb a0_1
  have sm0 := sm0.below hb
  have hP := Past.trans hP hb
  have s3 := hb.size
  clear hb hg
  go_wp2_with fail
  refine (specTourCost_ex m0 _ n0 n0 xs0 _ n1 n1 xs1 _ h20_0 HX0.out (sm0.arcs HX0.out) h20_1 HX1.out (sm1.ints HX1.out)).mono ?_
  rintro e w4 ⟨rfl, hb⟩
  have hx0 := hx0.below hb
  have hx1 := hx1.below hb
  have a0_0 := cell_in hb a0_0
  have a0_1 := cell_in hb a0_1
  have sm0 := sm0.below hb
  have sm1 := sm1.below hb
  have hP := Past.trans hP hb
  have s4 := hb.size
  clear hb
  clear sm0 sm1
  have hx0E := hx0
  have hx1E := hx1
  have sb : w.heap.size < w4.heap.size := lt_of_cell a0_0
  have sP := hP.size
  go_wp2_with fail
  refine (toNet_any m0 A0 n0 c0 xs0 _ h20_0 HX0.out hx0).mono ?_
  rintro e w5 ⟨g0, rfl, hb, hg0, hm0⟩
  have sg0 := hm0.1.lt
  have hx0 := hx0.below hb
  have hx1 := hx1.below hb
  have a0_0 := cell_in hb a0_0
  have a0_1 := cell_in hb a0_1
  have hP := Past.trans hP hb
  have s5 := hb.size
  clear hb
  have hb : Past w5 (w5.alloc (.cells #[.int .i64 m0, .slice (some ⟨g0, 0, none⟩) n0 n0] 30)) := (Past.refl _).alloc _
  obtain ⟨w6, hw6⟩ : ∃ u, u = w5.alloc (.cells #[.int .i64 m0, .slice (some ⟨g0, 0, none⟩) n0 n0] 30) := ⟨_, rfl⟩
  go_wp2_with fail
  have p0_0 : w6.cell? ⟨w5.heap.size, 0, none⟩ = some (.int .i64 m0) := by rw [hw6]; go_simp
  have p0_1 : w6.cell? ⟨w5.heap.size, 1, none⟩ = some (.slice (some ⟨g0, 0, none⟩) n0 n0) := by rw [hw6]; go_simp
  rw [← hw6] at hb ⊢
  have sx0 : w5.heap.size < w6.heap.size := lt_of_cell p0_0
  clear hw6
  have hx0 := hx0.below hb
  have hx1 := hx1.below hb
  have a0_0 := cell_in hb a0_0
  have a0_1 := cell_in hb a0_1
  have hm0 := hm0.below hb
  have hP := Past.trans hP hb
  have s6 := hb.size
  clear hb
  go_wp2_with fail
  refine (toIntS_any A1 n1 c1 xs1 _ h20_1 HX1.out hx1).mono ?_
  rintro e w7 ⟨g1, rfl, hb, hg1, hm1⟩
  have sg1 := hm1.1.lt
  have hx0 := hx0.below hb
  have hx1 := hx1.below hb
  have a0_0 := cell_in hb a0_0
  have a0_1 := cell_in hb a0_1
  have hm0 := hm0.below hb
  have p0_0 := cell_in hb p0_0
  have p0_1 := cell_in hb p0_1
  have hP := Past.trans hP hb
  have s7 := hb.size
  clear hb
  go_wp2_with fail
  refine (implTourCost_any m0 _ n0 n0 xs0 _ n1 n1 xs1 _ h20_0 HX0.out (hm0.arcs HX0.out) h20_1 HX1.out (hm1.ints HX1.out)).mono ?_
  rintro e w8 ⟨rfl, hb⟩
  have hx0 := hx0.below hb
  have hx1 := hx1.below hb
  have a0_0 := cell_in hb a0_0
  have a0_1 := cell_in hb a0_1
  have hm0 := hm0.below hb
  have p0_0 := cell_in hb p0_0
  have p0_1 := cell_in hb p0_1
  have hm1 := hm1.below hb
  have hP := Past.trans hP hb
  have s8 := hb.size
  clear hb
  have hq := (hm0.arcs HX0.out)
  go_wp2_with fail
  go_region_held3 (fun w' => w'.cell? ⟨w.heap.size, 0, none⟩ = some (.int .i64 m0) ∧ w'.cell? ⟨w.heap.size, 1, none⟩ = some (.slice A0 n0 c0) ∧ w'.cell? ⟨w5.heap.size, 0, none⟩ = some (.int .i64 m0) ∧ w'.cell? ⟨w5.heap.size, 1, none⟩ = some (.slice (some ⟨g0, 0, none⟩) n0 n0)) (go_keep)
    (first
      | (go_at_call 17; refine (toNet_any m0 A0 n0 c0 xs0 _ h20_0 HX0.out hx0.drew).mono ?_; rintro e w9 ⟨g9, rfl, hb9, hg9, hm9⟩; have a0_0 := cell_in hb9 a0_0; have a0_1 := cell_in hb9 a0_1; have p0_0 := cell_in hb9 p0_0; have p0_1 := cell_in hb9 p0_1)
      | (go_at_call 20; refine (eqNet_same m0 _ _ n0 n0 n0 xs0 _ h20_0 HX0.out (hq.drew.below hb9) (hm9.arcs HX0.out)).mono ?_; rintro e w10 ⟨rfl, hb10⟩; have a0_0 := cell_in hb10 a0_0; have a0_1 := cell_in hb10 a0_1; have p0_0 := cell_in hb10 p0_0; have p0_1 := cell_in hb10 p0_1))
  have hb : Past w8 w10 := (Past.refl w8).drew.trans (Past.trans hb9 hb10)
  clear hb9 hb10 hq hm9 hg9
  have hx0 := hx0.below hb
  have hx1 := hx1.below hb
  have hm0 := hm0.below hb
  have hm1 := hm1.below hb
  have hP := Past.trans hP hb
  have s10 := hb.size
  clear hb
  go_wp2_with fail
  refine (toIntS_any A1 n1 c1 xs1 _ h20_1 HX1.out hx1).mono ?_
  rintro e w11 ⟨gq, rfl, hb, hgq, hmq⟩
  have hx0 := hx0.below hb
  have hx1 := hx1.below hb
  have a0_0 := cell_in hb a0_0
  have a0_1 := cell_in hb a0_1
  have hm0 := hm0.below hb
  have p0_0 := cell_in hb p0_0
  have p0_1 := cell_in hb p0_1
  have hm1 := hm1.below hb
  have hP := Past.trans hP hb
  have s11 := hb.size
  clear hb hgq
  go_wp2_with fail
  refine (eqIntS_same _ _ n1 n1 n1 xs1 _ h20_1 HX1.out (hm1.ints HX1.out) (hmq.ints HX1.out)).mono ?_
  rintro e w12 ⟨rfl, hb⟩
  have hx0 := hx0.below hb
  have hx1 := hx1.below hb
  have a0_0 := cell_in hb a0_0
  have a0_1 := cell_in hb a0_1
  have hm0 := hm0.below hb
  have p0_0 := cell_in hb p0_0
  have p0_1 := cell_in hb p0_1
  have hm1 := hm1.below hb
  have hP := Past.trans hP hb
  have s12 := hb.size
  clear hb hmq
  go_wp2
  go_ret
  exact ⟨rfl, hP⟩

set_option maxRecDepth 100000 in
theorem exactTourCost_lifted (os : Os) (started : os.Started) (H : Type) (enc : TypeId × Value → H) :
    ReturnsInHanded {} Try.checked os 3 .any (Rows.fnExactTourCostSpec.pre6 enc Try.prog Try.f3 Rows.fnExactTourCostRow.domain false) (Rows.fnExactTourCostSpec.post enc Try.prog Try.f3 false true false false) := by
  refine returnsInHanded_of_change (C := Try.checked) own started (by kernel_rfl) Try.func3
    (ChangeSpec.witness6 (enc := enc) (C := Try.checked) false ⟨#[], #[.agg #[.int .i64 0, .slice none 0 0], .slice none 0 0], []⟩ 8 (by kernel_rfl) (by kernel_rfl) (by kernel_rfl) (by kernel_rfl)) ?_
  intro W base args ds gs before hval0 hW hcnd _
  have hval : ∀ (j : Nat) t v, Try.f3.params[j]? = some t → args[j]? = some v → Value.okWide Try.prog W .any base t v := hval0
  have hW' := hW
  obtain ⟨p, q, hA0, hV, rfl, hfz, hnd⟩ := hW
  have hA : DataW.TrodAll enc Try.prog W 0 (fun _ => true) true Try.f3.params.toList args.toList ds p := hA0
  rw [Try.params3] at hA hval
  obtain ⟨v0, vs0, d0, ds0, p0, q0, hargs, rfl, rfl, h0, r0⟩ := trodAll_cons hA
  obtain ⟨v1, vs1, d1, ds1, p1, q1, rfl, rfl, rfl, h1, r1⟩ := trodAll_cons r0
  obtain ⟨rfl, rfl, rfl⟩ := trodAll_nil r1
  obtain rfl : args = #[v0, v1] := by cases args; simp_all
  obtain ⟨rfl, rfl⟩ := trodVars_none hV
  have k0 := h0
  have lt0 := places_lt k0
  have k1 := h1
  have lt1 := places_lt k1
  obtain ⟨m0, A0, n0, c0, xs0, rfl, hl0, hn0, hx0, _⟩ := open_net (hval 0 24 v0 rfl rfl) h0
  obtain ⟨A1, n1, c1, xs1, rfl, hl1, hn1, hx1⟩ := open_list (hval 1 25 v1 rfl rfl) h1
  clear hA0 hval0
  refine (exactTourCost_walk m0 A0 n0 c0 xs0 A1 n1 c1 xs1 W hn0 hl0 hx0 hn1 hl1 hx1).mono fun e W' ⟨he, bel⟩ => ?_
  subst he
  exact ⟨_, rfl, _, _, _, [], _, [], hW', trodAll_mk1 (shut_bool Try.underlying4 _), (trodAll_cons_mk (Below.trod laidOut (by kernel_rfl) (of_decide_eq_true (by kernel_rfl)) k0 bel lt0) (trodAll_cons_mk (Below.trod laidOut (by kernel_rfl) (of_decide_eq_true (by kernel_rfl)) k1 bel lt1) trodAll_mk0)), rfl, bel.frame _, fun h => by cases h⟩

/-- The given statement. -/
theorem exactTourCost_proved : Rows.FnExactTourCostSaid :=
  OpenClaim.holds_of_wide 3 Try.f3 rfl rfl rfl rfl rfl rfl rfl ⟨rfl, rfl, rfl, rfl, rfl⟩ rfl rfl rfl rfl rfl (by kernel_rfl) Try.func3 (by kernel_rfl)
    (of_decide_eq_true (by kernel_rfl)) (by unfold Func.isWrapper; first | (rw [if_pos (by decide +kernel)]; kernel_rfl) | (rw [if_neg (by decide +kernel)]; exact ⟨rfl, rfl⟩))
    (fun os started H enc _ => exactTourCost_lifted os started H enc)

end Go.Proofs.Ytaojognjkiifmac
