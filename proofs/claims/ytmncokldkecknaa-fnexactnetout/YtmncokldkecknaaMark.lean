/-
  Marks that are written into memory of the call's own, and found there again: markIntS, heldIntS, markArcS, heldArcS, markNet, heldNet.
-/
import Derived.Test.YtmncokldkecknaaTo
namespace Go.Proofs.Ytmncokldkecknaa
open Go.RowKit

/-- k, k + 1, .. -/
def markInts (k : Nat) (n : Nat) : List Int := (List.range n).map fun i => ((k + i : Nat) : Int)
theorem markInts_length (k n : Nat) : (markInts k n).length = n := by simp [markInts]
theorem markInts_at (k n i : Nat) (h : i < n) : (markInts k n)[i]? = some ((k + i : Nat) : Int) := by simp [markInts, h]
def markArcs (k : Nat) (n : Nat) : List ArcD := (List.range n).map fun i => ⟨((k + 5 * i : Nat) : Int), ((k + 5 * i + 1 : Nat) : Int), ((k + 5 * i + 2 : Nat) : Int), ((k + 5 * i + 3 : Nat) : Int), ((k + 5 * i + 4 : Nat) : Int)⟩
theorem markArcs_length (k n : Nat) : (markArcs k n).length = n := by simp [markArcs]
theorem markArcs_at (k n i : Nat) (h : i < n) : (markArcs k n)[i]? = some ⟨((k + 5 * i : Nat) : Int), ((k + 5 * i + 1 : Nat) : Int), ((k + 5 * i + 2 : Nat) : Int), ((k + 5 * i + 3 : Nat) : Int), ((k + 5 * i + 4 : Nat) : Int)⟩ := by simp [markArcs, h]

/-- The marks have been written: nothing but the slice's own block has turned. -/
def Marked (w : World) (A : Option Addr) (r : Int) (P : World → Prop) (e : Ending) (w' : World) : Prop :=
  e = .returned (.int .i64 r) ∧ w.grownBy w' (blk A) ∧ P w'

theorem markIntS_any (A : Option Addr) (n c k lo t : Nat) (w : World) (hn : n ≤ 1048576) (ki : Int) (hki : ki = (k : Int)) (hk : k ≤ 100000000) (ho : OwnAt w lo A t 1 n) :
    Calls Try.prog 24 #[.slice A n c, .int .i64 ki] w (Marked w A (k + n) fun w' => IntsAt w' A (markInts k n)) := by
  subst hki
  rcases ho with ⟨rfl, rfl⟩ | ⟨g, sz, rfl, hlo, hr, hs⟩
  · go_enter Try.func24, Try.ntmps24
    go_wp2
    go_loop [5, 1] (fun i q => i = .int .i64 0 ∧ q = .int .i64 k) (fun _ _ => 0)
    case atStart => exact ⟨rfl, rfl⟩
    case round =>
      obtain ⟨rfl, rfl⟩ := hrel
      go_wp2
      go_ret
      exact ⟨ret_int (by simp), grown_refl _ _, fun i x h => by simp [markInts] at h⟩
  · go_enter Try.func24, Try.ntmps24
    go_wp2
    go_loopw [5, 1] (fun i q wr => ∃ j : Nat, j ≤ n ∧ i = .int .i64 j ∧ q = .int .i64 ((k : Int) + (j : Int)) ∧ w.grownBy wr (some g) ∧ MadeI wr g t sz (markInts k n) j) (fun i _ _ => n - (intOf i).toNat)
    case atStart => exact ⟨0, by omega, rfl, by simp, grown_refl _ _, hr, fun j x h => absurd h (by omega)⟩
    case round =>
      obtain ⟨j, hj, rfl, rfl, hb, hm⟩ := hrel
      by_cases hlt : j < n
      · have HM := Lib.hid (markInts_at k n j hlt)
        obtain ⟨v0, e0⟩ := hm.1.cell (i := j) (by omega)
        have z0 := hm.1.frozen j
        have hjs : j < sz := by omega
        go_wp2
        go_roundw
        case rel => exact ⟨j + 1, by omega, by go_num, by go_num, grown_set hb _ _, by have := hm.next HM.out hjs; simpa using this⟩
        case measure => simp [intOf]; omega
      · obtain rfl : n = j := by omega
        go_wp2
        go_ret
        exact ⟨rfl, hb, fun i x h => ⟨g, 0, rfl, by
          have hi : i < n := by have := (List.getElem?_eq_some_iff.1 h).1; simpa [markInts_length] using this
          rw [Nat.zero_add]; exact hm.2 i x hi h⟩⟩

theorem heldIntS_any (A : Option Addr) (n c k : Nat) (w : World) (hn : n ≤ 1048576) (ki : Int) (hki : ki = (k : Int)) (hk : k ≤ 100000000) (hx : IntsAt w A (markInts k n)) :
    Calls Try.prog 25 #[.slice A n c, .int .i64 ki] w fun e w' => e = .returned (.int .i64 (k + n)) ∧ w = w' := by
  subst hki
  go_enter Try.func25, Try.ntmps25
  go_wp2
  go_loop [5, 1] (fun i q => ∃ j : Nat, j ≤ n ∧ i = .int .i64 j ∧ q = .int .i64 ((k : Int) + (j : Int))) (fun i _ => n - (intOf i).toNat)
  case atStart => exact ⟨0, by omega, rfl, by simp⟩
  case round =>
    obtain ⟨j, hj, rfl, rfl⟩ := hrel
    by_cases hlt : j < n
    · obtain ⟨g, o, rfl, c0⟩ := hx j _ (markInts_at k n j hlt)
      have hne : ((((k + j : Nat) : Int)) != (k : Int) + (j : Int)) = false := by simp
      go_wp2
      go_round
      case rel => exact ⟨j + 1, by omega, by go_num, by go_num⟩
      case measure => simp [intOf]; omega
    · obtain rfl : n = j := by omega
      go_wp2
      go_ret
      exact ⟨rfl, rfl⟩

/-- Made, with room to spare. -/
theorem Made.nextMark {w : World} {g t n sz k j : Nat} (h : RowN w g t sz ∧ ∀ i a, i < j → (markArcs k n)[i]? = some a → Arc5 w g (i * 5) a) (hj : j < n) (hs : n * 5 ≤ sz) :
    let w' := (((((w.setCell ⟨g, j * 5, none⟩ (.int .i64 ((k + 5 * j : Nat) : Int))).setCell ⟨g, j * 5 + 1, none⟩ (.int .i64 ((k + 5 * j + 1 : Nat) : Int))).setCell ⟨g, j * 5 + 2, none⟩ (.int .i64 ((k + 5 * j + 2 : Nat) : Int))).setCell ⟨g, j * 5 + 3, none⟩ (.int .i64 ((k + 5 * j + 3 : Nat) : Int))).setCell ⟨g, j * 5 + 4, none⟩ (.int .i64 ((k + 5 * j + 4 : Nat) : Int)))
    RowN w' g t sz ∧ ∀ i a, i < j + 1 → (markArcs k n)[i]? = some a → Arc5 w' g (i * 5) a := by
  intro w'
  refine ⟨((((h.1.set _ _).set _ _).set _ _).set _ _).set _ _, fun i a hi hia => ?_⟩
  rcases Nat.lt_or_ge i j with hlt | hge
  · exact (((((h.2 i a hlt hia).set _ _ (by omega)).set _ _ (by omega)).set _ _ (by omega)).set _ _ (by omega)).set _ _ (by omega)
  · obtain rfl : i = j := by omega
    rw [markArcs_at k n i hj] at hia
    injection hia with hia
    subst hia
    exact Arc5.put h.1 (by omega) _ _ _ _ _

/-- The row and the marks so far. -/
def MarkedTo (w : World) (g t sz k n j : Nat) : Prop := RowN w g t sz ∧ ∀ i a, i < j → (markArcs k n)[i]? = some a → Arc5 w g (i * 5) a

set_option maxHeartbeats 1000000 in
theorem markArcS_any (A : Option Addr) (n c k lo t : Nat) (w : World) (hn : n ≤ 1048576) (ki : Int) (hki : ki = (k : Int)) (hk : k ≤ 100000000) (ho : OwnAt w lo A t 5 n) :
    Calls Try.prog 53 #[.slice A n c, .int .i64 ki] w (Marked w A (k + 5 * n) fun w' => ArcsAt w' A (markArcs k n)) := by
  subst hki
  rcases ho with ⟨rfl, rfl⟩ | ⟨g, sz, rfl, hlo, hr, hs⟩
  · go_enter Try.func53, Try.ntmps53
    go_wp2
    go_loop [5, 1] (fun i q => i = .int .i64 0 ∧ q = .int .i64 k) (fun _ _ => 0)
    case atStart => exact ⟨rfl, rfl⟩
    case round =>
      obtain ⟨rfl, rfl⟩ := hrel
      go_wp2
      go_ret
      exact ⟨ret_int (by simp), grown_refl _ _, fun i x h => by simp [markArcs] at h⟩
  · go_enter Try.func53, Try.ntmps53
    go_wp2
    go_loopw [5, 1] (fun i q wr => ∃ j : Nat, j ≤ n ∧ i = .int .i64 j ∧ q = .int .i64 ((k : Int) + 5 * (j : Int)) ∧ w.grownBy wr (some g) ∧ MarkedTo wr g t sz k n j) (fun i _ _ => n - (intOf i).toNat)
    case atStart => exact ⟨0, by omega, rfl, by simp, grown_refl _ _, hr, fun j x h => absurd h (by omega)⟩
    case round =>
      obtain ⟨j, hj, rfl, rfl, hb, hm⟩ := hrel
      by_cases hlt : j < n
      · obtain ⟨v0, e0⟩ := hm.1.cell (i := j * 5) (by omega)
        obtain ⟨v1, e1⟩ := hm.1.cell (i := j * 5 + 1) (by omega)
        obtain ⟨v2, e2⟩ := hm.1.cell (i := j * 5 + 2) (by omega)
        obtain ⟨v3, e3⟩ := hm.1.cell (i := j * 5 + 3) (by omega)
        obtain ⟨v4, e4⟩ := hm.1.cell (i := j * 5 + 4) (by omega)
        have z0 := hm.1.frozen (j * 5)
        have z1 := hm.1.frozen (j * 5 + 1)
        have z2 := hm.1.frozen (j * 5 + 2)
        have z3 := hm.1.frozen (j * 5 + 3)
        have z4 := hm.1.frozen (j * 5 + 4)
        have hm2 : MarkedTo (((((wr.setCell ⟨g, j * 5, none⟩ (.int .i64 ((k : Int) + 5 * (j : Int)))).setCell ⟨g, j * 5 + 1, none⟩ (.int .i64 ((k : Int) + 5 * (j : Int) + 1))).setCell ⟨g, j * 5 + 2, none⟩ (.int .i64 ((k : Int) + 5 * (j : Int) + 1 + 1))).setCell ⟨g, j * 5 + 3, none⟩ (.int .i64 ((k : Int) + 5 * (j : Int) + 1 + 1 + 1))).setCell ⟨g, j * 5 + 4, none⟩ (.int .i64 ((k : Int) + 5 * (j : Int) + 1 + 1 + 1 + 1))) g t sz k n (j + 1) := by
          have h := Made.nextMark hm hlt hs
          have q0 : ((k + 5 * j : Nat) : Int) = (k : Int) + 5 * (j : Int) := by omega
          have q1 : ((k + 5 * j + 1 : Nat) : Int) = (k : Int) + 5 * (j : Int) + 1 := by omega
          have q2 : ((k + 5 * j + 2 : Nat) : Int) = (k : Int) + 5 * (j : Int) + 1 + 1 := by omega
          have q3 : ((k + 5 * j + 3 : Nat) : Int) = (k : Int) + 5 * (j : Int) + 1 + 1 + 1 := by omega
          have q4 : ((k + 5 * j + 4 : Nat) : Int) = (k : Int) + 5 * (j : Int) + 1 + 1 + 1 + 1 := by omega
          rw [q0, q1, q2, q3, q4] at h
          exact h
        go_wp2
        go_roundw
        case rel => exact ⟨j + 1, by omega, by go_num, by go_num, grown_set (grown_set (grown_set (grown_set (grown_set hb _ _) _ _) _ _) _ _) _ _, hm2⟩
        case measure => simp [intOf]; omega
      · obtain rfl : n = j := by omega
        go_wp2
        go_ret
        exact ⟨rfl, hb, fun i x h => ⟨g, 0, rfl, by
          have hi : i < n := by have := (List.getElem?_eq_some_iff.1 h).1; simpa [markArcs_length] using this
          rw [Nat.zero_add]; exact hm.2 i x hi h⟩⟩

set_option maxHeartbeats 1000000 in
theorem heldArcS_any (A : Option Addr) (n c k : Nat) (w : World) (hn : n ≤ 1048576) (ki : Int) (hki : ki = (k : Int)) (hk : k ≤ 100000000) (hx : ArcsAt w A (markArcs k n)) :
    Calls Try.prog 56 #[.slice A n c, .int .i64 ki] w fun e w' => e = .returned (.int .i64 (k + 5 * n)) ∧ w = w' := by
  subst hki
  go_enter Try.func56, Try.ntmps56
  go_wp2
  go_loop [5, 1] (fun i q => ∃ j : Nat, j ≤ n ∧ i = .int .i64 j ∧ q = .int .i64 ((k : Int) + 5 * (j : Int))) (fun i _ => n - (intOf i).toNat)
  case atStart => exact ⟨0, by omega, rfl, by simp⟩
  case round =>
    obtain ⟨j, hj, rfl, rfl⟩ := hrel
    by_cases hlt : j < n
    · obtain ⟨g, o, rfl, c0, c1, c2, c3, c4⟩ := hx j _ (markArcs_at k n j hlt)
      have q0 : ((k + 5 * j : Nat) : Int) = (k : Int) + 5 * (j : Int) := by omega
      have q1 : ((k + 5 * j + 1 : Nat) : Int) = (k : Int) + 5 * (j : Int) + 1 := by omega
      have q2 : ((k + 5 * j + 2 : Nat) : Int) = (k : Int) + 5 * (j : Int) + 1 + 1 := by omega
      have q3 : ((k + 5 * j + 3 : Nat) : Int) = (k : Int) + 5 * (j : Int) + 1 + 1 + 1 := by omega
      have q4 : ((k + 5 * j + 4 : Nat) : Int) = (k : Int) + 5 * (j : Int) + 1 + 1 + 1 + 1 := by omega
      simp only [q0, q1, q2, q3, q4] at c0 c1 c2 c3 c4
      clear q0 q1 q2 q3 q4
      go_wp2
      go_round
      case rel => exact ⟨j + 1, by omega, by go_num, by go_num⟩
      case measure => simp [intOf]; omega
    · obtain rfl : n = j := by omega
      go_wp2
      go_ret
      exact ⟨rfl, rfl⟩

theorem markNet_any (m : Int) (A : Option Addr) (n c k lo t : Nat) (w : World) (hn : n ≤ 1048576) (ki : Int) (hki : ki = (k : Int)) (hk : k ≤ 100000000) (ho : OwnAt w lo A t 5 n) :
    Calls Try.prog 23 #[.agg #[.int .i64 m, .slice A n c], .int .i64 ki] w (Marked w A (k + 5 * n) fun w' => ArcsAt w' A (markArcs k n)) := by
  subst hki
  go_enter Try.func23, Try.ntmps23
  go_wp2_with fail
  have hb0 : Below w.heap.size w (w.alloc (.cells #[.int .i64 m, .slice A n c] 29)) := (Below.refl _ _).alloc (Nat.le_refl _) _
  refine (markArcS_any A n c k lo t _ hn _ rfl hk (ho.keep (grown_of_below hb0 none) (by simp))).mono ?_
  rintro e w1 ⟨rfl, hb1, hx⟩
  go_wp2
  go_ret
  exact ⟨rfl, grown_trans (grown_of_below hb0 _) hb1, hx⟩

theorem heldNet_any (m : Int) (A : Option Addr) (n c k : Nat) (w : World) (hn : n ≤ 1048576) (ki : Int) (hki : ki = (k : Int)) (hk : k ≤ 100000000) (hx : ArcsAt w A (markArcs k n)) :
    Calls Try.prog 28 #[.agg #[.int .i64 m, .slice A n c], .int .i64 ki] w fun e w' => e = .returned (.int .i64 (k + 5 * n)) ∧ Below w.heap.size w w' := by
  subst hki
  go_enter Try.func28, Try.ntmps28
  go_wp2_with fail
  have hb0 : Below w.heap.size w (w.alloc (.cells #[.int .i64 m, .slice A n c] 29)) := (Below.refl _ _).alloc (Nat.le_refl _) _
  refine (heldArcS_any A n c k _ hn _ rfl hk (hx.below hb0)).mono ?_
  rintro e w1 ⟨rfl, rfl⟩
  have hpos : ¬ ((k : Int) + 5 * (n : Int) < 0) := by omega
  go_wp2
  go_ret
  exact ⟨rfl, hb0⟩

/-- What lies in elder blocks than the one that is written. -/
theorem IntsAt.old {wE w w' : World} {A : Option Addr} {xs : List Int} {g : Nat} (hE : IntsAt wE A xs) (h : IntsAt w A xs) (hg : w.grownBy w' (some g)) (hle : wE.heap.size ≤ g) : IntsAt w' A xs := fun k x hk => by
  obtain ⟨b, o, rfl, hc⟩ := hE k x hk
  obtain ⟨b', o', e, hc'⟩ := h k x hk
  have hb : b < wE.heap.size := lt_of_cell hc
  injection e with e
  injection e with e1 e2
  subst e1 e2
  exact ⟨b, o, rfl, hg.cell hc' (by simp only [ne_eq, Option.some.injEq]; omega)⟩
theorem ArcsAt.old {wE w w' : World} {A : Option Addr} {xs : List ArcD} {g : Nat} (hE : ArcsAt wE A xs) (h : ArcsAt w A xs) (hg : w.grownBy w' (some g)) (hle : wE.heap.size ≤ g) : ArcsAt w' A xs := fun k x hk => by
  obtain ⟨b, o, rfl, hc⟩ := hE k x hk
  obtain ⟨b', o', e, hc'⟩ := h k x hk
  have hb := hc.lt
  injection e with e
  injection e with e1 e2
  subst e1 e2
  exact ⟨b, o, rfl, hc'.keep (hg.block b hc'.lt (by simp only [ne_eq, Option.some.injEq]; omega))⟩
/-- What lies in younger blocks. -/
theorem IntsAt.young {w w' : World} {A : Option Addr} {xs : List Int} {g lo t : Nat} (ho : OwnAt w lo A t 1 xs.length) (h : IntsAt w A xs) (hg : w.grownBy w' (some g)) (hlt : g < lo) : IntsAt w' A xs := fun k x hk => by
  obtain ⟨b', o', rfl, hc'⟩ := h k x hk
  rcases ho with ⟨h0, _⟩ | ⟨b, sz, e, hl, _, _⟩
  · cases h0
  · injection e with e
    injection e with e1 e2
    subst e1
    exact ⟨b', o', rfl, hg.cell hc' (by simp only [ne_eq, Option.some.injEq]; omega)⟩
theorem ArcsAt.young {w w' : World} {A : Option Addr} {xs : List ArcD} {g lo t : Nat} (ho : OwnAt w lo A t 5 xs.length) (h : ArcsAt w A xs) (hg : w.grownBy w' (some g)) (hlt : g < lo) : ArcsAt w' A xs := fun k x hk => by
  obtain ⟨b', o', rfl, hc'⟩ := h k x hk
  rcases ho with ⟨h0, _⟩ | ⟨b, sz, e, hl, _, _⟩
  · cases h0
  · injection e with e
    injection e with e1 e2
    subst e1
    exact ⟨b', o', rfl, hc'.keep (hg.block b' hc'.lt (by simp only [ne_eq, Option.some.injEq]; omega))⟩
theorem OwnAt.young {w w' : World} {A : Option Addr} {size n g lo t : Nat} (ho : OwnAt w lo A t size n) (hg : w.grownBy w' (some g)) (hlt : g < lo) : OwnAt w' lo A t size n :=
  ho.keep hg (fun b e => by injection e with e; omega)
theorem RowN.young {w w' : World} {g' t n g : Nat} (h : RowN w g' t n) (hg : w.grownBy w' (some g)) (hne : g' ≠ g) : RowN w' g' t n := h.keep (hg.block g' h.lt (by simpa using hne))
theorem cell_far {w w' : World} {p : Addr} {v : Value} {g : Nat} (hg : w.grownBy w' (some g)) (h : w.cell? p = some v) (hne : p.block ≠ g) : w'.cell? p = some v := hg.cell h (by simpa using hne)
theorem OwnAt.below {w w' : World} {lo t size n : Nat} {A : Option Addr} (h : OwnAt w lo A t size n) (hb : Below w.heap.size w w') : OwnAt w' lo A t size n := h.keep (grown_of_below hb none) (by simp)

/-- Behind marks in a block of the call's own. -/
theorem below_marked {a w w' : World} {A : Option Addr} {lo t size n : Nat} (h : Below a.heap.size a w) (hg : w.grownBy w' (blk A)) (ho : OwnAt w lo A t size n) (hle : a.heap.size ≤ lo) : Below a.heap.size a w' := by
  rcases ho with ⟨rfl, _⟩ | ⟨g, sz, rfl, hl, _, _⟩
  · exact h.trans ((below_of_grown hg).mono h.size)
  · exact h.grown hg h.size (fun k hk => by simp [blk] at hk; omega)

theorem below_own {w w' : World} {A : Option Addr} {lo t size n : Nat} (hg : w.grownBy w' (blk A)) (ho : OwnAt w lo A t size n) (hle : lo ≤ w.heap.size) : Below lo w w' := by
  rcases ho with ⟨rfl, _⟩ | ⟨g, sz, rfl, hl, _, _⟩
  · exact (below_of_grown hg).mono hle
  · exact (Below.refl lo w).grown hg hle (fun k hk => by simp [blk] at hk; omega)
theorem IntsAt.under {wE w w' : World} {A : Option Addr} {xs : List Int} {lo : Nat} (hE : IntsAt wE A xs) (h : IntsAt w A xs) (hb : Below lo w w') (hle : wE.heap.size ≤ lo) : IntsAt w' A xs := fun k x hk => by
  obtain ⟨b, o, rfl, hc⟩ := hE k x hk
  obtain ⟨b', o', e, hc'⟩ := h k x hk
  have hb' : b < wE.heap.size := lt_of_cell hc
  injection e with e
  injection e with e1 e2
  subst e1 e2
  exact ⟨b, o, rfl, (hb.cell (p := ⟨b, o + k, none⟩) (by simp only; omega)).trans hc'⟩
theorem ArcsAt.under {wE w w' : World} {A : Option Addr} {xs : List ArcD} {lo : Nat} (hE : ArcsAt wE A xs) (h : ArcsAt w A xs) (hb : Below lo w w') (hle : wE.heap.size ≤ lo) : ArcsAt w' A xs := fun k x hk => by
  obtain ⟨b, o, rfl, hc⟩ := hE k x hk
  obtain ⟨b', o', e, hc'⟩ := h k x hk
  have hb' := hc.lt
  injection e with e
  injection e with e1 e2
  subst e1 e2
  exact ⟨b, o, rfl, hc'.keep (hb.block b (by omega))⟩

end Go.Proofs.Ytmncokldkecknaa
