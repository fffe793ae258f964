/-
  FnReachLoad answers true at every input: what can be reached with a load can be reached without. No condition.
-/
import Derived.Test.YtaojognjkiifmaaDrawNetOut
import Derived.Test.YtaojognjkiifmaaOpenW
import Derived.Test.YtaojognjkiifmaaDraw
import Derived.Test.YtaojognjkiifmaaInfoI
import Derived.Test.YtaojognjkiifmaaMarkB
import Derived.Test.YtaojognjkiifmaaTo
import Derived.Test.YtaojognjkiifmaaBase
import Derived.Test.YtaojognjkiifmaaSLoad
import Derived.Test.YtaojognjkiifmaaNear
import Derived.Test.YtaojognjkiifmaaNCh
import Derived.Test.YtaojognjkiifmaaNLen
import Derived.Deep.LoopGhost
import Derived.Test.YtaojognjkiifmaaNRepI
import Derived.Test.YtaojognjkiifmaaPReach
import Derived.Maps.AppendAt
import Derived.Test.YtaojognjkiifmaaRInS
import Derived.Test.YtaojognjkiifmaaPLoad
import Derived.Test.YtaojognjkiifmaaCost
import Derived.Test.YtaojognjkiifmaaIn
import Derived.Test.YtaojognjkiifmaaILoad
namespace Go.Proofs.Ytaojognjkiifmaa
open Go.RowKit

set_option maxRecDepth 100000 in
set_option maxHeartbeats 4000000 in
theorem drawLoadAll_any (A : Option Addr) (n c : Nat) (w : World) (hn : n ≤ c) (hc : c ≤ maxLen) (hb : BytesAt w A n) :
    Calls Try.prog 47 #[.slice A n c] w (DrawNodeG w) := by
  have hpV : Past w (w.alloc (.cells #[.int .i64 0, .slice none 0 0] 32)) := (Past.refl w).alloc _
  go_enter Try.func47, Try.ntmps47
  go_wp2_with fail
  refine (drawNetOut_any A n c _ hn hc (hb.below hpV)).mono ?_
  rintro e w1 ⟨m, B, k, cap, xs, z, rfl, hxk, hk, hx1, ⟨hfar, hform⟩, hb1⟩
  have r0 : RowN w1 w.heap.size 32 2 := by
    have r : RowN (w.alloc (.cells #[.int .i64 0, .slice none 0 0] 32)) w.heap.size 32 2 := ⟨_, heap_alloc_new w _, rfl⟩
    exact r.keep (hb1.block _ r.lt)
  have hp1 : Past w w1 := hpV.trans hb1
  obtain ⟨y0, e0⟩ := r0.cell (i := 0) (by omega)
  obtain ⟨y1, e1⟩ := r0.cell (i := 1) (by omega)
  have z0 := r0.frozen 0
  have z1 := r0.frozen 1
  rw [World.size_alloc] at hfar
  have hneB := hfar w.heap.size (by omega)
  have hx5 := (hx1.far ⟨w.heap.size, 0, none⟩ (.int .i64 m) hneB).far ⟨w.heap.size, 1, none⟩ (.slice B k cap) hneB
  have hbel := Below.setCell (Below.setCell hp1 (p := ⟨w.heap.size, 0, none⟩) (by simp) (.int .i64 m)) (p := ⟨w.heap.size, 1, none⟩) (by simp) (.slice B k cap)
  have hfar' : ∀ g, g < w.heap.size → blk B ≠ some g := fun g hg => hfar g (by omega)
  clear hb1 hx1 hfar hpV r0 hp1
  go_wp2
  exact bodyPost_ret (v := .tuple #[.agg #[.int .i64 m, .slice B k cap], .int .i64 z]) (by simp [results, Try.results47, go_sem, e0, e1]) rfl ⟨m, B, k, cap, xs, z, rfl, hxk, hk, hx5, ⟨hfar', hform⟩, hbel⟩

end Go.Proofs.Ytaojognjkiifmaa

namespace Go.Proofs.Ytaojognjkiifmaa
open Go.ChangeShapes Go.WideShapes Go.ChangeAt Go.RowKit Go.Deep Go.Joins

set_option maxRecDepth 100000 in
theorem open_bytes {H : Type} {enc : TypeId × Value → H} {W : World} {r : Reach} {b0 : Nat} {v : Value} {d : DataW H} {p : List MemPlace} (hv : Value.okWide Try.prog W r b0 43 v)
    (h : DataW.Trod enc Try.prog W 0 (fun _ => true) true 43 v d p) : ∃ (A : Option Addr) (n c : Nat), v = .slice A n c ∧ n ≤ c ∧ c ≤ maxLen ∧ BytesAt W A n := by
  obtain ⟨a0, len, cap, rfl⟩ := okWide_slice Try.underlying43 hv
  obtain ⟨fuel, hf⟩ := h
  rcases open_ints Try.underlying43 Try.underlying5 (by kernel_rfl) (show DataW.trod enc Try.prog W 0 (fun _ => true) true fuel 43 [.slice a0 len cap] = some _ by simpa [Value.cells] using hf) with ⟨hcs, _⟩ | ⟨a, len', cap', zs, hcs, _, hl, hm, hz, _, hcell, hwf⟩
  · injection hcs with hcs
    injection hcs with e1 e2 e3
    subst e1 e2 e3
    exact ⟨none, 0, 0, rfl, Nat.le_refl _, Nat.zero_le _, fun k hk => absurd hk (by omega)⟩
  · injection hcs with hcs
    injection hcs with e1 e2 e3
    subst e1 e2 e3
    simp only [if_true] at hz
    refine ⟨some a, _, _, rfl, hl, hm, fun k hk => ?_⟩
    have hc := hcell k (by omega)
    obtain ⟨g, o, rfl⟩ := spotless (hcell 0 (by omega))
    rw [addr_add] at hc
    have hw := hwf (zs.getD k 0) (by rw [List.getD_eq_getElem?_getD, List.getElem?_eq_getElem (by omega)]; simp)
    refine ⟨g, o, _, rfl, hc, ?_⟩
    simp only [Lit.wf, Bool.and_eq_true, decide_eq_true_eq] at hw
    rw [show IntKind.u8.min = 0 by decide, show IntKind.u8.max = 255 by decide] at hw
    exact hw

end Go.Proofs.Ytaojognjkiifmaa

namespace Go.Proofs.Ytaojognjkiifmaa
open Go.RowKit

/-- k, k + 1, .. -/
def markInts (k : Nat) (n : Nat) : List Int := (List.range n).map fun i => ((k + i : Nat) : Int)
theorem markInts_length (k n : Nat) : (markInts k n).length = n := by simp [markInts]
theorem markInts_at (k n i : Nat) (h : i < n) : (markInts k n)[i]? = some ((k + i : Nat) : Int) := by simp [markInts, h]
theorem markIntS_any (A : Option Addr) (n c k lo t : Nat) (w : World) (hn : n ≤ 1048576) (ki : Int) (hki : ki = (k : Int)) (hk : k ≤ 100000000) (ho : OwnAt w lo A t 1 n) :
    Calls Try.prog 26 #[.slice A n c, .int .i64 ki] w (Marked w A (k + n) fun w' => IntsAt w' A (markInts k n)) := by
  subst hki
  rcases ho with ⟨rfl, rfl⟩ | ⟨g, sz, rfl, hlo, hr, hs⟩
  · go_enter Try.func26, Try.ntmps26
    go_wp2
    go_loop [5, 1] (fun i q => i = .int .i64 0 ∧ q = .int .i64 k) (fun _ _ => 0)
    case atStart => exact ⟨rfl, rfl⟩
    case round =>
      obtain ⟨rfl, rfl⟩ := hrel
      go_wp2
      go_ret
      exact ⟨ret_int (by simp), grown_refl _ _, fun i x h => by simp [markInts] at h⟩
  · go_enter Try.func26, Try.ntmps26
    go_wp2
    go_loopw [5, 1] (fun i q wr => ∃ j : Nat, j ≤ n ∧ i = .int .i64 j ∧ q = .int .i64 ((k : Int) + (j : Int)) ∧ w.grownBy wr (some g) ∧ MadeI wr g t sz (markInts k n) j) (fun i _ _ => n - (intOf i).toNat)
    case atStart => exact ⟨0, by omega, rfl, by simp, grown_refl _ _, hr, fun j x h => absurd h (by omega)⟩
    case round =>
      obtain ⟨j, hj, rfl, rfl, hb, hm⟩ := hrel
      by_cases hlt : j < n
      · have HM := Lib.hid (markInts_at k n j hlt)
        obtain ⟨v0, e0⟩ := hm.1.cell (i := j) (by omega)
        have z0 := hm.1.frozen j
        have hjs : j < sz := by omega
        go_wp2
        go_roundw
        case rel => exact ⟨j + 1, by omega, by go_num, by go_num, grown_set hb _ _, by have := hm.next HM.out hjs; simpa using this⟩
        case measure => simp [intOf]; omega
      · obtain rfl : n = j := by omega
        go_wp2
        go_ret
        exact ⟨rfl, hb, fun i x h => ⟨g, 0, rfl, by
          have hi : i < n := by have := (List.getElem?_eq_some_iff.1 h).1; simpa [markInts_length] using this
          rw [Nat.zero_add]; exact hm.2 i x hi h⟩⟩

theorem heldIntS_any (A : Option Addr) (n c k : Nat) (w : World) (hn : n ≤ 1048576) (ki : Int) (hki : ki = (k : Int)) (hk : k ≤ 100000000) (hx : IntsAt w A (markInts k n)) :
    Calls Try.prog 27 #[.slice A n c, .int .i64 ki] w fun e w' => e = .returned (.int .i64 (k + n)) ∧ w = w' := by
  subst hki
  go_enter Try.func27, Try.ntmps27
  go_wp2
  go_loop [5, 1] (fun i q => ∃ j : Nat, j ≤ n ∧ i = .int .i64 j ∧ q = .int .i64 ((k : Int) + (j : Int))) (fun i _ => n - (intOf i).toNat)
  case atStart => exact ⟨0, by omega, rfl, by simp⟩
  case round =>
    obtain ⟨j, hj, rfl, rfl⟩ := hrel
    by_cases hlt : j < n
    · obtain ⟨g, o, rfl, c0⟩ := hx j _ (markInts_at k n j hlt)
      have hne : ((((k + j : Nat) : Int)) != (k : Int) + (j : Int)) = false := by simp
      go_wp2
      go_round
      case rel => exact ⟨j + 1, by omega, by go_num, by go_num⟩
      case measure => simp [intOf]; omega
    · obtain rfl : n = j := by omega
      go_wp2
      go_ret
      exact ⟨rfl, rfl⟩

/-- What lies in elder blocks than the one that is written. -/
theorem IntsAt.old {wE w w' : World} {A : Option Addr} {xs : List Int} {g : Nat} (hE : IntsAt wE A xs) (h : IntsAt w A xs) (hg : w.grownBy w' (some g)) (hle : wE.heap.size ≤ g) : IntsAt w' A xs := fun k x hk => by
  obtain ⟨b, o, rfl, hc⟩ := hE k x hk
  obtain ⟨b', o', e, hc'⟩ := h k x hk
  have hb : b < wE.heap.size := lt_of_cell hc
  injection e with e
  injection e with e1 e2
  subst e1 e2
  exact ⟨b, o, rfl, hg.cell hc' (by simp only [ne_eq, Option.some.injEq]; omega)⟩
/-- What lies in younger blocks. -/
theorem IntsAt.young {w w' : World} {A : Option Addr} {xs : List Int} {g lo t : Nat} (ho : OwnAt w lo A t 1 xs.length) (h : IntsAt w A xs) (hg : w.grownBy w' (some g)) (hlt : g < lo) : IntsAt w' A xs := fun k x hk => by
  obtain ⟨b', o', rfl, hc'⟩ := h k x hk
  rcases ho with ⟨h0, _⟩ | ⟨b, sz, e, hl, _, _⟩
  · cases h0
  · injection e with e
    injection e with e1 e2
    subst e1
    exact ⟨b', o', rfl, hg.cell hc' (by simp only [ne_eq, Option.some.injEq]; omega)⟩
theorem IntsAt.under {wE w w' : World} {A : Option Addr} {xs : List Int} {lo : Nat} (hE : IntsAt wE A xs) (h : IntsAt w A xs) (hb : Below lo w w') (hle : wE.heap.size ≤ lo) : IntsAt w' A xs := fun k x hk => by
  obtain ⟨b, o, rfl, hc⟩ := hE k x hk
  obtain ⟨b', o', e, hc'⟩ := h k x hk
  have hb' : b < wE.heap.size := lt_of_cell hc
  injection e with e
  injection e with e1 e2
  subst e1 e2
  exact ⟨b, o, rfl, (hb.cell (p := ⟨b, o + k, none⟩) (by simp only; omega)).trans hc'⟩

end Go.Proofs.Ytaojognjkiifmaa

namespace Go.Proofs.Ytaojognjkiifmaa
open Go.RowKit

def markArcs (k : Nat) (n : Nat) : List ArcD := (List.range n).map fun i => ⟨((k + 5 * i : Nat) : Int), ((k + 5 * i + 1 : Nat) : Int), ((k + 5 * i + 2 : Nat) : Int), ((k + 5 * i + 3 : Nat) : Int), ((k + 5 * i + 4 : Nat) : Int)⟩
theorem markArcs_length (k n : Nat) : (markArcs k n).length = n := by simp [markArcs]
theorem markArcs_at (k n i : Nat) (h : i < n) : (markArcs k n)[i]? = some ⟨((k + 5 * i : Nat) : Int), ((k + 5 * i + 1 : Nat) : Int), ((k + 5 * i + 2 : Nat) : Int), ((k + 5 * i + 3 : Nat) : Int), ((k + 5 * i + 4 : Nat) : Int)⟩ := by simp [markArcs, h]

/-- Made, with room to spare. -/
theorem Made.nextMark {w : World} {g t n sz k j : Nat} (h : RowN w g t sz ∧ ∀ i a, i < j → (markArcs k n)[i]? = some a → Arc5 w g (i * 5) a) (hj : j < n) (hs : n * 5 ≤ sz) :
    let w' := (((((w.setCell ⟨g, j * 5, none⟩ (.int .i64 ((k + 5 * j : Nat) : Int))).setCell ⟨g, j * 5 + 1, none⟩ (.int .i64 ((k + 5 * j + 1 : Nat) : Int))).setCell ⟨g, j * 5 + 2, none⟩ (.int .i64 ((k + 5 * j + 2 : Nat) : Int))).setCell ⟨g, j * 5 + 3, none⟩ (.int .i64 ((k + 5 * j + 3 : Nat) : Int))).setCell ⟨g, j * 5 + 4, none⟩ (.int .i64 ((k + 5 * j + 4 : Nat) : Int)))
    RowN w' g t sz ∧ ∀ i a, i < j + 1 → (markArcs k n)[i]? = some a → Arc5 w' g (i * 5) a := by
  intro w'
  refine ⟨((((h.1.set _ _).set _ _).set _ _).set _ _).set _ _, fun i a hi hia => ?_⟩
  rcases Nat.lt_or_ge i j with hlt | hge
  · exact (((((h.2 i a hlt hia).set _ _ (by omega)).set _ _ (by omega)).set _ _ (by omega)).set _ _ (by omega)).set _ _ (by omega)
  · obtain rfl : i = j := by omega
    rw [markArcs_at k n i hj] at hia
    injection hia with hia
    subst hia
    exact Arc5.put h.1 (by omega) _ _ _ _ _

/-- The row and the marks so far. -/
def MarkedTo (w : World) (g t sz k n j : Nat) : Prop := RowN w g t sz ∧ ∀ i a, i < j → (markArcs k n)[i]? = some a → Arc5 w g (i * 5) a

set_option maxHeartbeats 1000000 in
theorem markArcS_any (A : Option Addr) (n c k lo t : Nat) (w : World) (hn : n ≤ 1048576) (ki : Int) (hki : ki = (k : Int)) (hk : k ≤ 100000000) (ho : OwnAt w lo A t 5 n) :
    Calls Try.prog 69 #[.slice A n c, .int .i64 ki] w (Marked w A (k + 5 * n) fun w' => ArcsAt w' A (markArcs k n)) := by
  subst hki
  rcases ho with ⟨rfl, rfl⟩ | ⟨g, sz, rfl, hlo, hr, hs⟩
  · go_enter Try.func69, Try.ntmps69
    go_wp2
    go_loop [5, 1] (fun i q => i = .int .i64 0 ∧ q = .int .i64 k) (fun _ _ => 0)
    case atStart => exact ⟨rfl, rfl⟩
    case round =>
      obtain ⟨rfl, rfl⟩ := hrel
      go_wp2
      go_ret
      exact ⟨ret_int (by simp), grown_refl _ _, fun i x h => by simp [markArcs] at h⟩
  · go_enter Try.func69, Try.ntmps69
    go_wp2
    go_loopw [5, 1] (fun i q wr => ∃ j : Nat, j ≤ n ∧ i = .int .i64 j ∧ q = .int .i64 ((k : Int) + 5 * (j : Int)) ∧ w.grownBy wr (some g) ∧ MarkedTo wr g t sz k n j) (fun i _ _ => n - (intOf i).toNat)
    case atStart => exact ⟨0, by omega, rfl, by simp, grown_refl _ _, hr, fun j x h => absurd h (by omega)⟩
    case round =>
      obtain ⟨j, hj, rfl, rfl, hb, hm⟩ := hrel
      by_cases hlt : j < n
      · obtain ⟨v0, e0⟩ := hm.1.cell (i := j * 5) (by omega)
        obtain ⟨v1, e1⟩ := hm.1.cell (i := j * 5 + 1) (by omega)
        obtain ⟨v2, e2⟩ := hm.1.cell (i := j * 5 + 2) (by omega)
        obtain ⟨v3, e3⟩ := hm.1.cell (i := j * 5 + 3) (by omega)
        obtain ⟨v4, e4⟩ := hm.1.cell (i := j * 5 + 4) (by omega)
        have z0 := hm.1.frozen (j * 5)
        have z1 := hm.1.frozen (j * 5 + 1)
        have z2 := hm.1.frozen (j * 5 + 2)
        have z3 := hm.1.frozen (j * 5 + 3)
        have z4 := hm.1.frozen (j * 5 + 4)
        have hm2 : MarkedTo (((((wr.setCell ⟨g, j * 5, none⟩ (.int .i64 ((k : Int) + 5 * (j : Int)))).setCell ⟨g, j * 5 + 1, none⟩ (.int .i64 ((k : Int) + 5 * (j : Int) + 1))).setCell ⟨g, j * 5 + 2, none⟩ (.int .i64 ((k : Int) + 5 * (j : Int) + 1 + 1))).setCell ⟨g, j * 5 + 3, none⟩ (.int .i64 ((k : Int) + 5 * (j : Int) + 1 + 1 + 1))).setCell ⟨g, j * 5 + 4, none⟩ (.int .i64 ((k : Int) + 5 * (j : Int) + 1 + 1 + 1 + 1))) g t sz k n (j + 1) := by
          have h := Made.nextMark hm hlt hs
          have q0 : ((k + 5 * j : Nat) : Int) = (k : Int) + 5 * (j : Int) := by omega
          have q1 : ((k + 5 * j + 1 : Nat) : Int) = (k : Int) + 5 * (j : Int) + 1 := by omega
          have q2 : ((k + 5 * j + 2 : Nat) : Int) = (k : Int) + 5 * (j : Int) + 1 + 1 := by omega
          have q3 : ((k + 5 * j + 3 : Nat) : Int) = (k : Int) + 5 * (j : Int) + 1 + 1 + 1 := by omega
          have q4 : ((k + 5 * j + 4 : Nat) : Int) = (k : Int) + 5 * (j : Int) + 1 + 1 + 1 + 1 := by omega
          rw [q0, q1, q2, q3, q4] at h
          exact h
        go_wp2
        go_roundw
        case rel => exact ⟨j + 1, by omega, by go_num, by go_num, grown_set (grown_set (grown_set (grown_set (grown_set hb _ _) _ _) _ _) _ _) _ _, hm2⟩
        case measure => simp [intOf]; omega
      · obtain rfl : n = j := by omega
        go_wp2
        go_ret
        exact ⟨rfl, hb, fun i x h => ⟨g, 0, rfl, by
          have hi : i < n := by have := (List.getElem?_eq_some_iff.1 h).1; simpa [markArcs_length] using this
          rw [Nat.zero_add]; exact hm.2 i x hi h⟩⟩

theorem markNet_any (m : Int) (A : Option Addr) (n c k lo t : Nat) (w : World) (hn : n ≤ 1048576) (ki : Int) (hki : ki = (k : Int)) (hk : k ≤ 100000000) (ho : OwnAt w lo A t 5 n) :
    Calls Try.prog 24 #[.agg #[.int .i64 m, .slice A n c], .int .i64 ki] w (Marked w A (k + 5 * n) fun w' => ArcsAt w' A (markArcs k n)) := by
  subst hki
  go_enter Try.func24, Try.ntmps24
  go_wp2_with fail
  have hb0 : Below w.heap.size w (w.alloc (.cells #[.int .i64 m, .slice A n c] 32)) := (Below.refl _ _).alloc (Nat.le_refl _) _
  refine (markArcS_any A n c k lo t _ hn _ rfl hk (ho.keep (grown_of_below hb0 none) (by simp))).mono ?_
  rintro e w1 ⟨rfl, hb1, hx⟩
  go_wp2
  go_ret
  exact ⟨rfl, grown_trans (grown_of_below hb0 _) hb1, hx⟩

theorem ArcsAt.old {wE w w' : World} {A : Option Addr} {xs : List ArcD} {g : Nat} (hE : ArcsAt wE A xs) (h : ArcsAt w A xs) (hg : w.grownBy w' (some g)) (hle : wE.heap.size ≤ g) : ArcsAt w' A xs := fun k x hk => by
  obtain ⟨b, o, rfl, hc⟩ := hE k x hk
  obtain ⟨b', o', e, hc'⟩ := h k x hk
  have hb := hc.lt
  injection e with e
  injection e with e1 e2
  subst e1 e2
  exact ⟨b, o, rfl, hc'.keep (hg.block b hc'.lt (by simp only [ne_eq, Option.some.injEq]; omega))⟩
theorem ArcsAt.young {w w' : World} {A : Option Addr} {xs : List ArcD} {g lo t : Nat} (ho : OwnAt w lo A t 5 xs.length) (h : ArcsAt w A xs) (hg : w.grownBy w' (some g)) (hlt : g < lo) : ArcsAt w' A xs := fun k x hk => by
  obtain ⟨b', o', rfl, hc'⟩ := h k x hk
  rcases ho with ⟨h0, _⟩ | ⟨b, sz, e, hl, _, _⟩
  · cases h0
  · injection e with e
    injection e with e1 e2
    subst e1
    exact ⟨b', o', rfl, hc'.keep (hg.block b' hc'.lt (by simp only [ne_eq, Option.some.injEq]; omega))⟩
theorem ArcsAt.under {wE w w' : World} {A : Option Addr} {xs : List ArcD} {lo : Nat} (hE : ArcsAt wE A xs) (h : ArcsAt w A xs) (hb : Below lo w w') (hle : wE.heap.size ≤ lo) : ArcsAt w' A xs := fun k x hk => by
  obtain ⟨b, o, rfl, hc⟩ := hE k x hk
  obtain ⟨b', o', e, hc'⟩ := h k x hk
  have hb' := hc.lt
  injection e with e
  injection e with e1 e2
  subst e1 e2
  exact ⟨b, o, rfl, hc'.keep (hb.block b (by omega))⟩

end Go.Proofs.Ytaojognjkiifmaa

namespace Go.Proofs.Ytaojognjkiifmaa
open Go.RowKit

theorem MadeI.put {w : World} {g t n k : Nat} {xs : List Int} (h : MadeI w g t n xs k) (u : Value) : MadeI (w.setCell ⟨g, k, none⟩ u) g t n xs k :=
  ⟨h.1.set _ _, fun j x hj hx => (World.cell?_setCell_other w ⟨g, k, none⟩ ⟨g, j, none⟩ _ (by intro e; injection e; omega)).trans (h.2 j x hj hx)⟩
theorem MadeI.one {w : World} {g t n k : Nat} {xs : List Int} {x : Int} (h : MadeI w g t n xs k) (hx : xs[k]? = some x) (hc : w.cell? ⟨g, k, none⟩ = some (.int .i64 x)) : MadeI w g t n xs (k + 1) :=
  ⟨h.1, fun j y hj hy => by
    rcases Nat.lt_or_ge j k with hlt | hge
    · exact h.2 j y hlt hy
    · obtain rfl : j = k := by omega
      rw [hx] at hy
      injection hy with hy
      subst hy
      exact hc⟩

end Go.Proofs.Ytaojognjkiifmaa

namespace Go.Proofs.Ytaojognjkiifmaa
open Go.RowKit

set_option maxRecDepth 100000 in
set_option maxHeartbeats 4000000 in
theorem l18Most_any (m : Nat) (s : Int) (A : Option Addr) (n c : Nat) (xs : List ArcD) (w : World) (hN : netB (m : Int) xs = true) (hnx : xs.length = n) (hn : n ≤ 1048576) (hx : ArcsAt w A xs) (hs : 0 ≤ s ∧ s < m) :
    Calls Try.prog 92 #[.agg #[.int .i64 (m : Int), .slice A n c], .int .i64 s] w (Gives w (mostL m xs s)) := by
  have HX := Lib.hid hnx
  have HN := Lib.hid hN
  have hm : m ≤ 8 := by have := ((netB_iff _ _).1 hN).1; omega
  have hn16 : n ≤ 16 := by have := ((netB_iff _ _).1 hN).2.1; omega
  clear hnx hN
  obtain ⟨hs0, hs1⟩ := hs
  have hmk := makeInt m (by omega)
  have hb0 : Past w (w.alloc (.cells #[.int .i64 (m : Int), .slice A n c] 32)) := (Past.refl _).alloc _
  obtain ⟨W, hW⟩ : ∃ W, W = w.alloc (.cells #[.int .i64 (m : Int), .slice A n c] 32) := ⟨_, rfl⟩
  have hWs : W.heap.size = w.heap.size + 1 := by rw [hW]; simp
  have b0 : W.cell? ⟨w.heap.size, 0, none⟩ = some (.int .i64 (m : Int)) := by rw [hW]; go_simp
  have b1 : W.cell? ⟨w.heap.size, 1, none⟩ = some (.slice A n c) := by rw [hW]; go_simp
  rw [← hW] at hb0
  have hxW := hx.below hb0
  have HW := Lib.hid hW
  have HWS := Lib.hid hWs
  go_enter Try.func92, Try.ntmps92
  clear hW hWs
  go_wp2
  go_loopw [6] (fun i wr => ∃ k : Nat, k ≤ m ∧ i = .int .i64 k ∧ Past W wr ∧ MadeI wr (w.heap.size + 1) 3 m (mostL m xs s) k) (fun i _ => m - (intOf i).toNat)
  case atStart => exact ⟨0, by omega, rfl, by rw [HW.out]; exact (Past.refl _).alloc _, by have := MadeI.start (w.alloc (.cells #[.int .i64 (m : Int), .slice A n c] 32)) 3 m (mostL m xs s) (madeCells #[.int .i64 0] m) (by simp [size_madeCells]); simpa using this⟩
  case round =>
    obtain ⟨k, hk, rfl, hb, hmd⟩ := hrel
    have b0' := cell_in hb b0
    by_cases hlt : k < m
    · obtain ⟨v0, e0⟩ := hmd.1.cell (i := k) hlt
      have z0 := hmd.1.frozen k
      have k0 : (0 : Int) ≤ (k : Int) := by omega
      have k1 : (k : Int) < (m : Int) := by omega
      have hmd0 := hmd.put (.int .i64 (-1))
      have hb0' : Past W (wr.setCell ⟨w.heap.size + 1, k, none⟩ (.int .i64 (-1))) := Below.setCell hb (by rw [HWS.out]; simp) _
      have hc0 : (wr.setCell ⟨w.heap.size + 1, k, none⟩ (.int .i64 (-1))).cell? ⟨w.heap.size + 1, k, none⟩ = some (.int .i64 (mostTo m xs s (k : Int) 0)) := World.cell?_setCell_same _ _ _ e0
      clear hmd
      go_wp2
      go_loopw [7] (fun i wq => ∃ q : Nat, q ≤ 10 ∧ i = .int .i64 q ∧ Past W wq ∧ MadeI wq (w.heap.size + 1) 3 m (mostL m xs s) k ∧ wq.cell? ⟨w.heap.size + 1, k, none⟩ = some (.int .i64 (mostTo m xs s (k : Int) q))) (fun i _ => 10 - (intOf i).toNat)
      case atStart => exact ⟨0, by omega, rfl, hb0', hmd0, hc0⟩
      case round =>
        clear hmd0 hb0' hc0
        obtain ⟨q, hq, rfl, hbq, hmq, hcq⟩ := hrel
        have b0q := cell_in hbq b0
        have b1q := cell_in hbq b1
        by_cases hq10 : q < 10
        · have q9 : (q : Int) ≤ 9 := by omega
          have hxf := forL_in (arcsIn_net HN.out) (q : Int)
          go_wp2_with fail
          refine (l18For_any (m : Int) A n c xs (q : Int) _ hn16 HX.out (hxW.below hbq)).mono ?_
          rintro e w4 ⟨A4, c4, rfl, hx4, _, hb4⟩
          have hn4 : (forL xs (q : Int)).length ≤ 1048576 := Nat.le_trans (forL_len _ _) (by rw [HX.out]; omega)
          obtain ⟨N4, hN4⟩ : ∃ N4, N4 = (forL xs (q : Int)).length := ⟨_, rfl⟩
          rw [← hN4] at hn4 ⊢
          have HN4 := Lib.hid hN4.symm
          clear hN4
          go_wp2_with fail
          refine (l3All_any m s A4 N4 c4 (forL xs (q : Int)) _ hm HN4.out hn4 hx4 hxf ⟨hs0, hs1⟩).mono ?_
          rintro e w5 ⟨v5, rfl, hv5, hb5⟩
          obtain ⟨D, cd, rfl, hd5, _⟩ := hv5.form
          rw [nearL_length]
          obtain ⟨z, hz⟩ : ∃ z, z = at_ (nearL m (forL xs (q : Int)) s) (k : Int) := ⟨_, rfl⟩
          obtain ⟨gd, od, rfl, cz⟩ := hd5 k z (by rw [hz]; exact getElem_at _ k (by rw [nearL_length]; exact hlt))
          have hgo : goesB m xs s (k : Int) (q : Int) = decide (z < 99999) := by rw [goesB, hz]
          have HGO := Lib.hid hgo
          have hb45 := hb4.trans (hb5.mono hb4.size)
          have hmq := hmq.below hb45
          have hcq := cell_in hb45 hcq
          have hbq := Past.trans hbq hb45
          have z0q := hmq.1.frozen k
          clear hgo hz hv5 hd5 hx4 hb4 hb5 hb45
          by_cases hf : z < 99999
          · have HM : Hid (mostTo m xs s (k : Int) (q + 1) = (q : Int)) := mostTo_hit (by rw [HGO.out]; exact decide_eq_true hf)
            go_wp2
            go_roundw
            case rel => exact ⟨q + 1, by omega, by go_num, Below.setCell hbq (by rw [HWS.out]; simp) _, hmq.put _, by rw [HM.out]; exact World.cell?_setCell_same _ _ _ hcq⟩
            case measure => simp [intOf]; omega
          · have HM : Hid (mostTo m xs s (k : Int) (q + 1) = mostTo m xs s (k : Int) q) := mostTo_miss (by rw [HGO.out]; exact decide_eq_false hf)
            go_wp2
            go_roundw
            case rel => exact ⟨q + 1, by omega, by go_num, hbq, hmq, by rw [HM.out]; exact hcq⟩
            case measure => simp [intOf]; omega
        · obtain rfl : q = 10 := by omega
          have q9 : ¬ ((10 : Int) ≤ 9) := by omega
          have hmk1 := hmq.one (mostL_at hlt) hcq
          clear hmq hcq
          go_wp2
          go_roundw
          case rel => exact ⟨k + 1, by omega, by go_num, hbq, hmk1⟩
          case measure => simp [intOf]; omega
    · obtain rfl : m = k := by omega
      have hrow : RowI wr (w.heap.size + 1) (mostL m xs s) := hmd.row (mostL_length _ _ _)
      go_wp2
      go_ret
      exact ⟨_, rfl, hrow.res (mostL_length m xs s) (by omega) (by omega), hb0.trans hb⟩

set_option maxRecDepth 100000 in
set_option maxHeartbeats 1000000 in
theorem specLoadAll_any (m : Int) (A : Option Addr) (n c : Nat) (xs : List ArcD) (s : Int) (w : World) (hn : n ≤ 1048576) (hnx : xs.length = n) (hx : ArcsAt w A xs) :
    Calls Try.prog 49 #[.agg #[.int .i64 m, .slice A n c], .int .i64 s] w (Gives w (loadsI m xs s)) := by
  have HX := Lib.hid hnx
  clear hnx
  have hb0 : Past w (w.alloc (.cells #[.int .i64 m, .slice A n c] 32)) := (Past.refl _).alloc _
  go_enter Try.func49, Try.ntmps49
  go_wp2_with fail
  refine (l1Ok_any m A n c xs _ hn HX.out (hx.below hb0)).mono ?_
  rintro e w1 ⟨rfl, hb1⟩
  have b0 := cell_in (p := ⟨w.heap.size, 0, none⟩) (v := .int .i64 m) hb1 (by go_simp)
  have b1 := cell_in (p := ⟨w.heap.size, 1, none⟩) (v := .slice A n c) hb1 (by go_simp)
  have hx1 := (hx.below hb0).below hb1
  have hp1 := hb0.trans hb1
  clear hb0 hb1
  cases hB : netB m xs with
  | false =>
    have HB := Lib.hid hB
    clear hB
    go_wp2
    go_ret
    exact ⟨_, rfl, by rw [loadsI, hereB, HB.out]; exact Res.nil _ _, hp1⟩
  | true =>
    obtain ⟨M, rfl, h1, h8⟩ := here_nat hB
    have HB := Lib.hid hB
    clear hB
    go_wp2_with fail
    refine (l1In_any _ _ _ _).mono ?_
    rintro e w2 ⟨rfl, rfl⟩
    cases hI : inB s 0 ((M : Int) - 1) with
    | false =>
      have HI := Lib.hid hI
      clear hI
      go_wp2
      go_ret
      exact ⟨_, rfl, by rw [loadsI, hereB, HB.out, HI.out]; exact Res.nil _ _, hp1⟩
    | true =>
      have hs := (inB_iff _ _ _).1 hI
      have HI := Lib.hid hI
      clear hI
      go_wp2_with fail
      refine (l18Most_any M s A n c xs _ HB.out HX.out hn hx1 (by omega)).mono ?_
      rintro e w3 ⟨v3, rfl, hv3, hb3⟩
      have hlo := hp1.size
      go_wp2
      go_ret
      exact ⟨_, rfl, by rw [loadsI, hereB, HB.out, HI.out, if_pos (by rfl), Int.toNat_natCast]; exact hv3.lower (by omega), hp1.trans hb3⟩

end Go.Proofs.Ytaojognjkiifmaa

namespace Go.Proofs.Ytaojognjkiifmaa
open Go.RowKit

set_option maxRecDepth 100000 in
set_option maxHeartbeats 1000000 in
theorem costsOf_any (g n cap : Nat) (L : List LenD) (w : World) (hn : n ≤ 1048576) (hl : L.length = n) (hr : ∀ j a, L[j]? = some a → w.cell? ⟨g, j * 2, none⟩ = some (.int .i64 a.x0) ∧ w.cell? ⟨g, j * 2 + 1, none⟩ = some (.int .i64 a.x1)) :
    Calls Try.prog 74 #[.slice (some ⟨g, 0, none⟩) n cap] w (Gives w (L.map LenD.x0)) := by
  have hmk := makeInt n hn
  have HL := Lib.hid hl
  have HR := Lib.hid hr
  clear hl hr
  go_enter Try.func74, Try.ntmps74
  go_wp2
  go_loopw [11] (fun i wr => ∃ k : Nat, k ≤ n ∧ i = .int .i64 k ∧ Past w wr ∧ MadeI wr w.heap.size 3 n (L.map LenD.x0) k) (fun i _ => n - (intOf i).toNat)
  case atStart => exact ⟨0, by omega, rfl, (Past.refl w).alloc _, MadeI.start _ _ _ _ _ (by simp [size_madeCells])⟩
  case round =>
    obtain ⟨k, hk, rfl, hb, hm⟩ := hrel
    by_cases hlt : k < n
    · obtain ⟨⟨x0, x1⟩, ha⟩ : ∃ a, L[k]? = some a := ⟨_, List.getElem?_eq_getElem (by have := HL.out; omega)⟩
      obtain ⟨c0, c1⟩ := HR.out k _ ha
      have c0 := cell_in hb c0
      have c1 := cell_in hb c1
      simp only at c0 c1
      have HA : Hid ((L.map LenD.x0)[k]? = some x0) := by rw [Hid, List.getElem?_map, ha]; rfl
      have i0 : (0 : Int) ≤ (k : Int) := by omega
      have i1 : (k : Int) < (n : Int) := by omega
      have hmA := hm.below ((Past.refl wr).alloc (.cells #[.int .i64 x0, .int .i64 x1] 88))
      obtain ⟨v0, e0⟩ := hmA.1.cell (i := k) hlt
      have z0 := hmA.1.frozen k
      have hnx := (hm.next HA.out hlt).below ((Past.refl _).alloc (.cells #[.int .i64 x0, .int .i64 x1] 88))
      have hgk : w.heap.size < wr.heap.size := hm.1.lt
      clear ha
      go_wp2
      go_roundw
      case rel => exact ⟨k + 1, by omega, by go_num, Past.alloc (Below.setCell hb (p := ⟨w.heap.size, k, none⟩) (by simp) _) _, hnx⟩
      case measure => simp [intOf]; omega
    · obtain rfl : n = k := by omega
      go_wp2
      go_ret
      refine ⟨_, rfl, ?_, hb⟩
      have hlm : (L.map LenD.x0).length = n := by rw [List.length_map, HL.out]
      exact (hm.row hlm).res hlm (Nat.le_refl _) hn

set_option maxRecDepth 100000 in
set_option maxHeartbeats 1000000 in
theorem allWithin_any (A : Option Addr) (n c : Nat) (zs : List Int) (mo : Int) (w : World) (hn : n ≤ 1048576) (hl : zs.length = n) (hz : IntsAt w A zs) :
    Calls Try.prog 99 #[.slice A n c, .int .i64 mo] w fun e w' => e = .returned (.bool (zs.all (fun z => inB z 0 mo))) ∧ Below w.heap.size w w' := by
  have HL := Lib.hid hl
  clear hl
  go_enter Try.func99, Try.ntmps99
  go_wp2
  go_loopw [9] (fun i wr => ∃ k : Nat, k ≤ n ∧ i = .int .i64 k ∧ Past w wr ∧ (zs.take k).all (fun z => inB z 0 mo) = true) (fun i _ => n - (intOf i).toNat)
  case atStart => exact ⟨0, by omega, rfl, Past.refl w, by simp⟩
  case round =>
    obtain ⟨k, hk, rfl, hb, hm⟩ := hrel
    have HM := Lib.hid hm
    clear hm
    by_cases hlt : k < n
    · obtain ⟨y, ha⟩ : ∃ a, zs[k]? = some a := ⟨_, List.getElem?_eq_getElem (by have := HL.out; omega)⟩
      obtain ⟨g, o, rfl, c0⟩ := hz k _ ha
      have c0 := cell_in hb c0
      have HA := Lib.hid ha
      have i0 : (0 : Int) ≤ (k : Int) := by omega
      have i1 : (k : Int) < (n : Int) := by omega
      clear ha
      go_wp2_with fail
      refine (within_any y mo _).mono ?_
      rintro e w1 ⟨rfl, rfl⟩
      cases hB : inB y 0 mo with
      | false =>
        have HB := Lib.hid hB
        clear hB
        go_wp2
        go_ret
        exact ⟨ret_bool (by
          symm
          rw [List.all_eq_false]
          exact ⟨y, List.mem_of_getElem? HA.out, by rw [HB.out]; simp⟩), hb⟩
      | true =>
        have HB := Lib.hid hB
        clear hB
        go_wp2
        go_roundw
        case rel => exact ⟨k + 1, by omega, by go_num, hb, by rw [List.take_add_one, List.all_append, HM.out, HA.out]; simp [HB.out]⟩
        case measure => simp [intOf]; omega
    · obtain rfl : n = k := by omega
      go_wp2
      go_ret
      refine ⟨ret_bool ?_, hb⟩
      have := HM.out
      rw [List.take_of_length_le (by have := HL.out; omega)] at this
      exact this.symm

set_option maxRecDepth 100000 in
set_option maxHeartbeats 1000000 in
theorem netHas_any (m : Int) (A : Option Addr) (n c : Nat) (xs : List ArcD) (B : Option Addr) (l cb : Nat) (zs : List Int) (w : World) (hn : n ≤ 1048576) (hnx : xs.length = n) (hx : ArcsAt w A xs) (hl : l ≤ 1048576) (hlz : zs.length = l) (hz : IntsAt w B zs) :
    Calls Try.prog 62 #[.agg #[.int .i64 m, .slice A n c], .slice B l cb] w fun e w' => e = .returned (.bool (netB m xs && zs.all (fun z => inB z 0 (m - 1)))) ∧ Below w.heap.size w w' := by
  have HX := Lib.hid hnx
  have HZ := Lib.hid hlz
  clear hnx hlz
  have hb0 : Past w (w.alloc (.cells #[.int .i64 m, .slice A n c] 32)) := (Past.refl _).alloc _
  go_enter Try.func62, Try.ntmps62
  go_wp2_with fail
  refine (implNetOk_any m A n c xs _ hn HX.out (hx.below hb0)).mono ?_
  rintro e w1 ⟨rfl, hb1⟩
  have b0 := cell_in (p := ⟨w.heap.size, 0, none⟩) (v := .int .i64 m) hb1 (by go_simp)
  cases hB : netB m xs with
  | false =>
    have HB := Lib.hid hB
    clear hB
    go_wp2
    go_ret
    exact ⟨ret_bool (by rw [HB.out]; rfl), hb0.trans hb1⟩
  | true =>
    have hw : IntKind.i64.wrap (m - 1) = m - 1 := by
      obtain ⟨h1, _⟩ := (netB_iff _ _).1 hB
      exact IntWalk.i64_in _ (by omega)
    have HB := Lib.hid hB
    clear hB
    go_wp2_with fail
    refine (allWithin_any B l cb zs (m - 1) _ hl HZ.out ((hz.below hb0).below hb1)).mono ?_
    rintro e w2 ⟨rfl, hb2⟩
    go_wp2
    go_ret
    exact ⟨ret_bool (by rw [HB.out]; rfl), (hb0.trans hb1).trans hb2⟩

end Go.Proofs.Ytaojognjkiifmaa

namespace Go.Proofs.Ytaojognjkiifmaa
open Go.RowKit

theorem net_ne {m : Int} {xs : List ArcD} (h : netB m xs = true) : ∀ a ∈ xs, a.f ≠ a.t := fun a ha => by
  obtain ⟨_, _, h3⟩ := (netB_iff _ _).1 h
  have := h3 a ha
  simp only [arcB, Bool.and_eq_true, Bool.not_eq_true'] at this
  simpa using this.2.2.1

set_option maxRecDepth 100000 in
set_option maxHeartbeats 1000000 in
theorem implNearAll_any (m : Int) (A : Option Addr) (n c : Nat) (xs : List ArcD) (s : Int) (w : World) (hn : n ≤ 1048576) (hnx : xs.length = n) (hx : ArcsAt w A xs) :
    Calls Try.prog 30 #[.agg #[.int .i64 m, .slice A n c], .int .i64 s] w (Gives w (nearI m xs s)) := by
  have HX := Lib.hid hnx
  clear hnx
  go_enter Try.func30, Try.ntmps30
  have hb0 : Past w ((w.alloc (.cells #[.int .i64 m, .slice A n c] 32)).alloc (.cells #[.int .i64 s] 3)) := ((Past.refl _).alloc _).alloc _
  have hz : IntsAt ((w.alloc (.cells #[.int .i64 m, .slice A n c] 32)).alloc (.cells #[.int .i64 s] 3)) (some ⟨w.heap.size + 1, 0, none⟩) [s] := fun k y hk => by
    cases k with
    | zero => simp at hk; subst hk; exact ⟨_, _, rfl, by go_simp⟩
    | succ k => simp at hk
  go_wp2_with fail
  refine (netHas_any m A n c xs _ 1 1 [s] _ hn HX.out (hx.below hb0) (by omega) rfl hz).mono ?_
  rintro e w1 ⟨rfl, hb1⟩
  have b0 := cell_in (p := ⟨w.heap.size, 0, none⟩) (v := .int .i64 m) hb1 (by go_simp)
  have b1 := cell_in (p := ⟨w.heap.size, 1, none⟩) (v := .slice A n c) hb1 (by go_simp)
  have hx1 := (hx.below hb0).below hb1
  have hp1 := hb0.trans hb1
  have hH : (netB m xs && [s].all (fun z => inB z 0 (m - 1))) = hereB m xs s := by simp [hereB]
  rw [hH]
  clear hH hb0 hz hb1
  cases hB : hereB m xs s with
  | false =>
    have HB := Lib.hid hB
    clear hB
    go_wp2
    go_ret
    exact ⟨_, rfl, by rw [nearI, HB.out]; exact Res.nil _ _, hp1⟩
  | true =>
    obtain ⟨hN, h0, h1⟩ := (hereB_iff _ _ _).1 hB
    obtain ⟨M, rfl, h3, h8⟩ := here_nat hN
    obtain ⟨S, rfl⟩ : ∃ S : Nat, s = (S : Int) := ⟨s.toNat, by omega⟩
    have hS : S < M := by omega
    have h16 : n ≤ 16 := by rw [← HX.out]; exact ((netB_iff _ _).1 hN).2.1
    have HB := Lib.hid hB
    have HN := Lib.hid hN
    clear hB hN
    go_wp2_with fail
    refine (lengths_any M S A n c xs _ (by omega) HX.out hx1 (arcsIn_net HN.out) (net_ne HN.out) h3 (by omega) hS).mono ?_
    rintro e w2 ⟨g, L, rfl, hrow, hLl, hlabs, hopen, hb2⟩
    have HL := Lib.hid hlabs
    have HO := Lib.hid hopen
    clear hlabs hopen
    have HG := Lib.hid (fun j a (hj : L[j]? = some a) => hrow.get hLl hj)
    clear hrow
    go_wp2_with fail
    refine (costsOf_any g M M L _ (by omega) hLl HG.out).mono ?_
    rintro e w3 ⟨v3, rfl, hv3, hb3⟩
    go_wp2
    go_ret
    have hnear := HL.out.near (arcsIn_net HN.out) ⟨h0, h1⟩ (by omega) HO.out
    exact ⟨_, rfl, by rw [nearI, HB.out, if_pos rfl, Int.toNat_natCast, ← hnear]; exact hv3.lower (Nat.le_trans hp1.size hb2.size), (hp1.trans hb2).trans hb3⟩

end Go.Proofs.Ytaojognjkiifmaa

namespace Go.Proofs.Ytaojognjkiifmaa
open Go.RowKit

set_option maxRecDepth 100000 in
set_option maxHeartbeats 4000000 in
theorem implLoadAll_any (m : Int) (A : Option Addr) (n c : Nat) (xs : List ArcD) (s : Int) (w : World) (hn : n ≤ 1048576) (hnx : xs.length = n) (hx : ArcsAt w A xs) :
    Calls Try.prog 48 #[.agg #[.int .i64 m, .slice A n c], .int .i64 s] w (Gives w (loadsI m xs s)) := by
  have HX := Lib.hid hnx
  clear hnx
  have hb0 : Past w ((w.alloc (.cells #[.int .i64 m, .slice A n c] 32)).alloc (.cells #[.int .i64 s] 3)) := ((Past.refl _).alloc _).alloc _
  have hz : IntsAt ((w.alloc (.cells #[.int .i64 m, .slice A n c] 32)).alloc (.cells #[.int .i64 s] 3)) (some ⟨w.heap.size + 1, 0, none⟩) [s] := fun k y hk => by
    cases k with
    | zero => simp at hk; subst hk; exact ⟨_, _, rfl, by go_simp⟩
    | succ k => simp at hk
  go_enter Try.func48, Try.ntmps48
  go_wp2
  go_step3
  go_wp2_with fail
  refine (netHas_any m A n c xs _ 1 1 [s] _ hn HX.out (hx.below hb0) (by omega) rfl hz).mono ?_
  rintro e w1 ⟨rfl, hb1⟩
  have b0 := cell_in (p := ⟨w.heap.size, 0, none⟩) (v := .int .i64 m) hb1 (by go_simp)
  have b1 := cell_in (p := ⟨w.heap.size, 1, none⟩) (v := .slice A n c) hb1 (by go_simp)
  have hx1 := (hx.below hb0).below hb1
  have hp1 := hb0.trans hb1
  have hH : (netB m xs && [s].all (fun z => inB z 0 (m - 1))) = hereB m xs s := by simp [hereB]
  rw [hH]
  clear hH hb0 hz hb1
  cases hB : hereB m xs s with
  | false =>
    have HB := Lib.hid hB
    clear hB
    go_wp2
    go_ret
    exact ⟨_, rfl, by rw [loadsI, HB.out]; exact Res.nil _ _, hp1⟩
  | true =>
    obtain ⟨hN, h0, h1⟩ := (hereB_iff _ _ _).1 hB
    obtain ⟨M, rfl, h3, h8⟩ := here_nat hN
    have HR : Hid (loadsI (M : Int) xs s = mostL M xs s) := by rw [Hid, loadsI, if_pos hB, Int.toNat_natCast]
    have HN := Lib.hid hN
    have hsM : s.toNat < M := by omega
    clear hB hN
    have b0A := fun (o : Obj) => cell_in ((Past.refl w1).alloc o) b0
    have b1A := fun (o : Obj) => cell_in ((Past.refl w1).alloc o) b1
    go_wp2_with fail
    clear b0A b1A
    refine (repeatI_any w1.heap.size M (-1) _ (by omega) (by go_simp)).mono ?_
    rintro e w2 ⟨rfl, hrep, hb2⟩
    rw [World.size_alloc] at hrep ⊢
    have hp12 : Past w1 w2 := ((Past.refl w1).alloc _).trans hb2
    have B1 := Lib.hid b1
    have b0 := cell_in hp12 b0
    have b1 := cell_in hp12 b1
    have hrow2 := RowI.of_rep hrep
    obtain ⟨v0, e0⟩ := hrow2.1.cell (i := s.toNat) (by simp; omega)
    have z0 := hrow2.1.frozen s.toNat
    have hrow3 := hrow2.set s.toNat 9 (by simp; omega)
    have hp3 : Past w1 (w2.setCell ⟨w1.heap.size + 1, s.toNat, none⟩ (.int .i64 9)) := Below.setCell hp12 (by simp) _
    have hW0 := Wide.first (M := M) (xs := xs) (s := s) ⟨h0, h1⟩
    obtain ⟨ds0, hds0⟩ : ∃ ds0, ds0 = (List.replicate M (-1 : Int)).set s.toNat 9 := ⟨_, rfl⟩
    rw [← hds0] at hrow3 hW0
    have HRW := Lib.hid hrow3
    have HP3 := Lib.hid hp3
    clear hrep hb2 hp12 hrow2 hds0 hrow3 hp3
    go_wp2
    go_step3
    go_wp2
    go_loopg [] (restS ds0) (fun g wx => ∃ ds : List Int, g = restS ds ∧ Wide M xs s ds ∧ RowI wx (w1.heap.size + 1) ds ∧ Past w1 wx)
    case atStart => exact ⟨ds0, rfl, hW0, HRW.out, HP3.out⟩
    case round =>
      clear hW0 HRW HP3
      obtain ⟨ds, rfl, hW, hrow, hpr⟩ := hrel
      have b1r := cell_in hpr B1.out
      clear b0 b1 e0 z0
      go_wp2
      go_loopg [24] n (fun g2 q wy => ∃ j : Nat, j + g2 = n ∧ q = .int .i64 j ∧ RowI wy (w1.heap.size + 1) ds ∧ Past w1 wy ∧ (∀ (i : Nat) (a : ArcD), i < j → xs[i]? = some a → ¬ at_ ds a.t < min (at_ ds a.f) a.d))
      case atStart => exact ⟨0, by omega, rfl, hrow, hpr, fun i a h => absurd h (by omega)⟩
      case round =>
        clear hrow hpr b1r
        obtain ⟨j, hjg, rfl, hrow, hpr, hno⟩ := hrel
        by_cases hlt : j < n
        · obtain ⟨⟨f, t, c', l, d⟩, ha⟩ : ∃ a, xs[j]? = some a := ⟨_, List.getElem?_eq_getElem (by have := HX.out; omega)⟩
          obtain ⟨g, o, rfl, c0, c1, c2, c3, c4⟩ := (hx1.below hpr) j _ ha
          simp only at c0 c1 c2 c3 c4
          have hbd := arcsIn_net HN.out _ (List.mem_of_getElem? ha)
          have hd9 := ((netB_iff _ _).1 HN.out).2.2 _ (List.mem_of_getElem? ha)
          simp only [arcB, Bool.and_eq_true, inB_iff] at hd9
          simp only at hbd
          have pb := hW.bd f (by omega) (by omega)
          have qb := hW.bd t (by omega) (by omega)
          have hln := hW.len
          obtain ⟨W1, hW1⟩ : ∃ W1, W1 = wr.alloc (.cells #[.int .i64 f, .int .i64 t, .int .i64 c', .int .i64 l, .int .i64 d] 52) := ⟨_, rfl⟩
          have e0 : W1.cell? ⟨wr.heap.size, 0, none⟩ = some (.int .i64 f) := by rw [hW1]; go_simp
          have e1 : W1.cell? ⟨wr.heap.size, 1, none⟩ = some (.int .i64 t) := by rw [hW1]; go_simp
          have e4 : W1.cell? ⟨wr.heap.size, 4, none⟩ = some (.int .i64 d) := by rw [hW1]; go_simp
          have hbW1 : Past wr W1 := by rw [hW1]; exact (Past.refl _).alloc _
          have hrow1 := hrow.below hbW1
          have df := hrow1.at_ (v := f) (by omega) (by omega)
          have dt := hrow1.at_ (v := t) (by omega) (by omega)
          have hp1' := hpr.trans hbW1
          have j0 : (0 : Int) ≤ f := by omega
          have j1 : f < (M : Int) := by omega
          have j2 : (0 : Int) ≤ t := by omega
          have j3 : t < (M : Int) := by omega
          have hnew : ¬ at_ ds t < min (at_ ds f) d → ∀ (i : Nat) (a : ArcD), i < j + 1 → xs[i]? = some a → ¬ at_ ds a.t < min (at_ ds a.f) a.d := fun h i a hi hia => by
            by_cases e : i = j
            · subst e
              rw [ha] at hia
              injection hia with hia
              subst hia
              exact h
            · exact hno i a (by omega) hia
          obtain ⟨x, hx⟩ : ∃ x, x = min (at_ ds f) d := ⟨_, rfl⟩
          have hmore : at_ ds t < x → Wide M xs s (ds.set t.toNat x) := fun h => hW.more HN.out (List.mem_of_getElem? ha) hx h
          have hrest : at_ ds t < x → restS (ds.set t.toNat x) < restS ds := fun h => restS_set (y := at_ ds t) (by have := getElem_at ds t.toNat (by omega); rw [show ((t.toNat : Nat) : Int) = t by omega] at this; exact this) h (by omega)
          have htl : t.toNat < ds.length := by omega
          rw [← hx] at hnew
          obtain ⟨p, hp⟩ : ∃ p, p = at_ ds f := ⟨_, rfl⟩
          obtain ⟨q, hq⟩ : ∃ q, q = at_ ds t := ⟨_, rfl⟩
          rw [← hp] at df hx
          rw [← hq] at dt hnew hmore hrest
          have hmin2 : min p d = x := hx.symm
          have hmin : (if d < p then d else p) = x := by rw [hx]; split <;> omega
          have z1 := hrow1.1.frozen t.toNat
          have HW1 := Lib.hid hW1
          have HNO := Lib.hid hnew
          have HMO := Lib.hid hmore
          have HRE := Lib.hid hrest
          have hj0 : (0 : Int) ≤ (j : Int) := by omega
          have hj1 : (j : Int) < (n : Int) := by omega
          clear hW1 ha hbd hd9 hp hq hx hno hnew hmore hrest hbW1 hrow pb qb
          go_wp2_with fail
          rw [← HW1.out]
          go_quiet (fail)
          obtain ⟨W2, hW2⟩ : ∃ W2, W2 = W1.drewN nq := ⟨_, rfl⟩
          have e0 : W2.cell? ⟨wr.heap.size, 0, none⟩ = some (.int .i64 f) := by rw [hW2]; exact e0
          have e1 : W2.cell? ⟨wr.heap.size, 1, none⟩ = some (.int .i64 t) := by rw [hW2]; exact e1
          have df : W2.cell? ⟨w1.heap.size + 1, f.toNat, none⟩ = some (.int .i64 p) := by rw [hW2]; exact df
          have dt : W2.cell? ⟨w1.heap.size + 1, t.toNat, none⟩ = some (.int .i64 q) := by rw [hW2]; exact dt
          have z1 : W2.frozen? ⟨w1.heap.size + 1, t.toNat, none⟩ = false := by rw [hW2]; exact z1
          have hrow2 : RowI W2 (w1.heap.size + 1) ds := by rw [hW2]; exact hrow1
          have hp2 : Past w1 W2 := by rw [hW2]; exact hp1'.drewN nq
          clear hrow1 hp1'
          by_cases hh : q < x
          · have HSET := Lib.hid (hrow2.set t.toNat x htl)
            have HP2 := Lib.hid (show Past w1 (W2.setCell ⟨w1.heap.size + 1, t.toNat, none⟩ (.int .i64 x)) from Below.setCell hp2 (by simp) _)
            clear hrow2 hp2
            go_wp2_with fail
            rw [← hW2]
            go_wp2
            go_roundg (restS (ds.set t.toNat x))
            case measure => exact HRE.out hh
            case rel => exact ⟨_, rfl, HMO.out hh, HSET.out, HP2.out⟩
          · go_wp2_with fail
            rw [← hW2]
            go_wp2
            go_roundg (n - (j + 1))
            case measure => omega
            case rel => exact ⟨j + 1, by omega, by go_num, hrow2, hp2, HNO.out hh⟩
        · have hjn : j = n := by omega
          have hall := hW.all HN.out ⟨h0, h1⟩ (fun a ha => by
            obtain ⟨i, hi⟩ := List.getElem?_of_mem ha
            exact hno i a (by have := (List.getElem?_eq_some_iff.1 hi).1; have := HX.out; omega) hi)
          have HALL := Lib.hid hall
          have hln := hW.len
          have hlo := hp1.size
          clear hno hall
          go_wp2
          (try rw [Exit.noGoto_ret])
          go_ret
          exact ⟨_, rfl, by rw [HR.out, ← HALL.out]; exact hrow.res hln (by omega) (by omega), hp1.trans hpr⟩

end Go.Proofs.Ytaojognjkiifmaa

namespace Go.Proofs.Ytaojognjkiifmaa
open Go.RowKit

/-- The blocks from lo on and below B are as they were. -/
def Mid (lo B : Nat) (w w' : World) : Prop := w.heap.size ≤ w'.heap.size ∧ ∀ b, lo ≤ b → b < B → w'.heap[b]? = w.heap[b]?
theorem Mid.refl (lo B : Nat) (w : World) : Mid lo B w w := ⟨Nat.le_refl _, fun _ _ _ => rfl⟩
theorem Mid.trans {lo B : Nat} {a b c : World} (h : Mid lo B a b) (k : Mid lo B b c) : Mid lo B a c := ⟨Nat.le_trans h.1 k.1, fun x h1 h2 => (k.2 x h1 h2).trans (h.2 x h1 h2)⟩
theorem Mid.of_past {lo B : Nat} {w w' : World} (h : Past w w') (hB : B ≤ w.heap.size) : Mid lo B w w' := ⟨h.size, fun b _ hb => h.block b (by omega)⟩

set_option maxRecDepth 100000 in
set_option maxHeartbeats 1000000 in
theorem traverse_any (cl : Nat) (lb : Array Value) (m : Int) (A : Option Addr) (n c : Nat) (xs : List ArcD) (s most : Int) (w : World) (eg : ∀ args w, (callFunc cl args).run Try.prog w = .ok (.enter cl args) w) (hn : n ≤ 1048576) (hnx : xs.length = n) (hx : ArcsAt w A xs) (ds : List Int) (hds : nearI m xs s = ds)
    (J : Nat → Nat → World → Prop)
    (h0 : ∀ w1, Past w w1 → J w1.heap.size 0 w1)
    (hS : ∀ B k W, J B k W → k < ds.length → rchB most (at_ ds (k : Int)) = false → J B (k + 1) W)
    (hV : ∀ B k W, w.heap.size ≤ B → B ≤ W.heap.size → k < ds.length → J B k W → rchB most (at_ ds (k : Int)) = true →
      Calls Try.prog cl (#[.int .i64 (k : Int), .int .i64 (at_ ds (k : Int))] ++ lb) W fun e W' => e = .returned (.tuple #[]) ∧ J B (k + 1) W' ∧ Mid w.heap.size B W W') :
    Calls Try.prog 93 #[.agg #[.int .i64 m, .slice A n c], .int .i64 s, .int .i64 most, .func (.func cl) #[] lb] w fun e w' => e = .returned (.tuple #[]) ∧ ∃ B, w.heap.size ≤ B ∧ B ≤ w'.heap.size ∧ J B ds.length w' := by
  have HX := Lib.hid hnx
  have H0 := Lib.hid h0
  have HS := Lib.hid hS
  have HV := Lib.hid hV
  have hdl := nearI_len m xs s
  have hbd : ∀ k : Nat, k < ds.length → at_ ds (k : Int) ≤ 99999 := fun k hk => by
    rw [← hds] at hk ⊢
    unfold nearI at hk ⊢
    split at hk
    · rename_i h
      rw [if_pos h]
      obtain ⟨hN, h0, h1⟩ := (hereB_iff _ _ _).1 h
      obtain ⟨M, rfl, _, h8⟩ := here_nat hN
      rw [nearL_length] at hk
      simp at hk ⊢
      exact (nearL_bound (arcsIn_net hN) ⟨h0, h1⟩ ⟨by omega, by omega⟩).2
    · simp at hk
  have HB := Lib.hid hbd
  rw [hds] at hdl
  clear hnx h0 hS hV hbd
  have hbx : Past w (w.alloc (.cells #[.int .i64 m, .slice A n c] 32)) := (Past.refl _).alloc _
  go_enter Try.func93, Try.ntmps93
  go_wp2_with fail
  refine (implNearAll_any m A n c xs s _ hn HX.out (hx.below hbx)).mono ?_
  rintro e w1 ⟨v1, rfl, hv1, hb1⟩
  have hv1 := hv1.lower hbx.size
  have hb1 := hbx.trans hb1
  clear hbx
  rw [hds] at hv1
  obtain ⟨D, cd, rfl, hd1, _⟩ := hv1.form
  have hJ0 := H0.out w1 hb1
  have hs1 := hb1.size
  obtain ⟨N, hN⟩ : ∃ N, N = ds.length := ⟨_, rfl⟩
  rw [← hN] at hdl ⊢
  have HN := Lib.hid hN
  have hlo : ∀ g o, D = some ⟨g, o, none⟩ → w.heap.size ≤ g := fun g o e => by
    subst e
    exact (World.ownsRow.lt hv1 g rfl).1
  have HLO := Lib.hid hlo
  clear hN hds hv1 hlo
  go_wp2
  go_loopw [14] (fun i wr => ∃ k : Nat, k ≤ N ∧ i = .int .i64 k ∧ J w1.heap.size k wr ∧ Mid w.heap.size w1.heap.size w1 wr) (fun i _ => N - (intOf i).toNat)
  case atStart => exact ⟨0, by omega, rfl, hJ0, Mid.refl _ _ _⟩
  case round =>
    obtain ⟨k, hk, rfl, hJ, hm⟩ := hrel
    by_cases hlt : k < N
    · obtain ⟨z, hz⟩ : ∃ z, z = at_ ds (k : Int) := ⟨_, rfl⟩
      obtain ⟨g, o, rfl, d0⟩ := hd1 k z (by rw [hz]; exact getElem_at ds k (by rw [← HN.out]; exact hlt))
      have d0 : wr.cell? ⟨g, o + k, none⟩ = some (.int .i64 z) := by
        have hl := lt_of_cell d0
        exact (World.cell?_of_block (a := ⟨g, o + k, none⟩) (hm.2 g (HLO.out g o rfl) hl)).trans d0
      have hz9 : z ≤ 99999 := by rw [hz]; exact HB.out k (by rw [← HN.out]; exact hlt)
      have HZ := Lib.hid hz
      have i0 : (0 : Int) ≤ (k : Int) := by omega
      have i1 : (k : Int) < (N : Int) := by omega
      cases hH : rchB most z with
      | true =>
        have hh := (rchB_iff _ _).1 hH
        have q1 : z ≠ 99999 := by omega
        have q2 := hh.2
        have hc := HV.out w1.heap.size k wr hs1 (hm.1) (by rw [← HN.out]; exact hlt) hJ (by rw [← hz]; exact hH)
        rw [← hz] at hc
        have HC := Lib.hid hc
        clear hH hh hz hc
        go_wp2_with fail
        refine HC.out.mono ?_
        rintro e w2 ⟨rfl, hJ2, hm2⟩
        go_wp2
        go_roundw
        case rel => exact ⟨k + 1, by omega, by go_num, hJ2, hm.trans hm2⟩
        case measure => simp [intOf]; omega
      | false =>
        have hh := (rchB_no _ _).1 hH
        have hJ2 := HS.out w1.heap.size k wr hJ (by rw [← HN.out]; exact hlt) (by rw [← hz]; exact hH)
        clear hH hz
        by_cases q1 : z = 99999
        · subst q1
          go_wp2
          go_roundw
          case rel => exact ⟨k + 1, by omega, by go_num, hJ2, hm⟩
          case measure => simp [intOf]; omega
        · have q2 : ¬ z ≤ most := fun h => hh ⟨by omega, h⟩
          go_wp2
          go_roundw
          case rel => exact ⟨k + 1, by omega, by go_num, hJ2, hm⟩
          case measure => simp [intOf]; omega
    · obtain rfl : N = k := by omega
      go_wp2
      go_end0
      exact ⟨rfl, _, hs1, hm.1, by rw [← HN.out]; exact hJ⟩

end Go.Proofs.Ytaojognjkiifmaa

namespace Go.Proofs.Ytaojognjkiifmaa
open Go.RowKit

end Go.Proofs.Ytaojognjkiifmaa

namespace Go.Proofs.Ytaojognjkiifmaa
open Go.RowKit

/-- A box of one number that a function value writes. -/
structure FarJ (w : World) (bx : Nat) (z : Int) (W : World) : Prop where
  cell : W.cell? ⟨bx, 0, none⟩ = some (.int .i64 z)
  free : W.frozen? ⟨bx, 0, none⟩ = false
  past : Past w W
  le : w.heap.size ≤ bx
theorem FarJ.later {w W W' : World} {bx : Nat} {z : Int} (h : FarJ w bx z W) (hp : Past W W') : FarJ w bx z W' := ⟨cell_in hp h.cell, free_in hp h.cell h.free, h.past.trans hp, h.le⟩
theorem FarJ.set {w W : World} {bx : Nat} {z y : Int} (h : FarJ w bx z W) : FarJ w bx y (W.setCell ⟨bx, 0, none⟩ (.int .i64 y)) :=
  ⟨World.cell?_setCell_same W ⟨bx, 0, none⟩ _ h.cell, by rw [← h.free]; simp, Below.setCell h.past (p := ⟨bx, 0, none⟩) h.le _, h.le⟩
theorem Mid.set {lo B b o : Nat} {W : World} {v : Value} (h : b < lo ∨ B ≤ b) : Mid lo B W (W.setCell ⟨b, o, none⟩ v) :=
  ⟨by simp [World.setCell], fun c h1 h2 => Below.heap_setCell W ⟨b, o, none⟩ v c (by simp only [ne_eq]; omega)⟩

end Go.Proofs.Ytaojognjkiifmaa

namespace Go.Proofs.Ytaojognjkiifmaa
open Go.RowKit

/-- A box of a slice of numbers that a function value appends to. -/
structure AppJ (w : World) (bx B : Nat) (zs : List Int) (W : World) (v : Value) : Prop where
  cell : W.cell? ⟨bx, 0, none⟩ = some v
  free : W.frozen? ⟨bx, 0, none⟩ = false
  res : Res W (bx + 1) v zs
  own : ∀ b, v.ownBlock = some b → B ≤ b
  past : Past w W
  le : w.heap.size ≤ bx
theorem Mid.grown {lo B : Nat} {W W' : World} {row : Option Nat} (h : W.grownBy W' row) (hB : B ≤ W.heap.size) (hr : ∀ b, row = some b → B ≤ b) : Mid lo B W W' :=
  ⟨h.size, fun b _ hb => h.block b (by omega) (fun e => by have := hr b e.symm; omega)⟩

set_option maxRecDepth 100000 in
set_option maxHeartbeats 1000000 in
theorem reachIn1_any (k z : Int) (bx lo B : Nat) (zs : List Int) (w W : World) (v : Value) (h : AppJ w bx B zs W v) (hl : zs.length ≤ 1000) (hB : B ≤ W.heap.size) (hlo : bx < lo) :
    Calls Try.prog 94 #[.int .i64 k, .int .i64 z, .pointer (some ⟨bx, 0, none⟩)] W fun e W' => e = .returned (.tuple #[]) ∧ (∃ v', AppJ w bx B (zs ++ [k]) W' v') ∧ Mid lo B W W' := by
  obtain ⟨i0, hi, hz0, hz1, hz2⟩ := info_parts infoInt
  have c0 := h.cell
  have f0 := h.free
  have hv := h.res
  have ho := h.own
  have hp := h.past
  have hle := h.le
  have hbx : bx < W.heap.size := lt_of_cell c0
  unfold Res at hv
  have hne : v.ownBlock ≠ some bx := fun e => by have := (World.ownsRow.lt hv bx e).1; omega
  go_enter Try.func94, Try.ntmps94
  go_wp2_with (first | (at_builtin; (refine wpList_append_own_at _ rfl _ _ 28 rfl (bx + 1) 3 i0 (.int .i64 0) 1 8 Try.underlying28 hi hz0 hz1 hz2 rfl (by decide) v zs.length (ints zs) rfl (hv.alloc _) ⟨W.heap.size, 0, none⟩ 1 1 [.int .i64 k] rfl rfl (cell_one_new _ _ _) (one_cell _) (by unfold maxLen; omega) (by omega) (by simp; omega) ?_; intro v' w4 hown' hgrow4 hnil4 hat4; obtain ⟨gv, cv, hvf, _, _⟩ := World.ownsRow.form hown' (by omega); subst hvf; have c4 := hgrow4.cell (cell_in ((Past.refl W).alloc _) c0) (fun e => hne e.symm); have f4 := (hgrow4.frozen_far ⟨bx, 0, none⟩ (by simp; omega) (fun e => hne e.symm)).trans (free_in ((Past.refl W).alloc _) c0 f0))))
  go_end0
  have hz4 := hgrow4.size
  simp only [World.size_alloc] at hz4
  have hb4 : ∀ b, (Value.slice (some ⟨gv, 0, none⟩) (zs.length + 1) cv).ownBlock = some b → B ≤ b := fun b e => by
    rcases hat4 with h2 | h2
    · exact ho b (by rw [← h2]; exact e)
    · rw [h2] at e
      injection e with e
      simp only [World.size_alloc] at e
      omega
  have hne' : (Value.slice (some ⟨gv, 0, none⟩) (zs.length + 1) cv).ownBlock ≠ some bx := fun e => by have := (World.ownsRow.lt hown' bx e).1; omega
  refine ⟨rfl, ⟨_, World.cell?_setCell_same w4 ⟨bx, 0, none⟩ _ c4, by rw [← f4]; simp, Res.push (own_far hown' hne' _), hb4, Below.setCell (Past.grown (hp.alloc _) (hv.alloc _) hgrow4 (by omega)) (p := ⟨bx, 0, none⟩) hle _, hle⟩, ?_⟩
  exact ((Mid.of_past ((Past.refl W).alloc _) hB).trans (Mid.grown hgrow4 (by simp; omega) ho)).trans (Mid.set (.inl hlo))

set_option maxRecDepth 100000 in
set_option maxHeartbeats 1000000 in
theorem implReachIn_any (m : Int) (A : Option Addr) (n c : Nat) (xs : List ArcD) (s most : Int) (w : World) (hn : n ≤ 1048576) (hnx : xs.length = n) (hx : ArcsAt w A xs) :
    Calls Try.prog 50 #[.agg #[.int .i64 m, .slice A n c], .int .i64 s, .int .i64 most] w (Gives w (reachI m xs s most)) := by
  have HX := Lib.hid hnx
  clear hnx
  obtain ⟨W0, hW0⟩ : ∃ W0, W0 = w.alloc (.cells #[.int .i64 m, .slice A n c] 32) := ⟨_, rfl⟩
  have hpW : Past w W0 := by rw [hW0]; exact (Past.refl _).alloc _
  have hs0 : W0.heap.size = w.heap.size + 1 := by rw [hW0]; simp
  obtain ⟨W1, hW1⟩ : ∃ W1, W1 = W0.alloc (.cells #[.slice none 0 0] 28) := ⟨_, rfl⟩
  have hs1 : W1.heap.size = w.heap.size + 1 + 1 := by rw [hW1, World.size_alloc, hs0]
  have hJ0 : AppJ W0 (w.heap.size + 1) (w.heap.size + 1 + 1) [] W1 (.slice none 0 0) := by
    have hp : Past W0 W1 := by rw [hW1]; exact (Past.refl _).alloc _
    refine ⟨?_, ?_, Res.nil _ _, (fun b e => by cases e), hp, by omega⟩
    · rw [hW1, ← hs0]; go_simp
    · rw [hW1, ← hs0]; go_simp
  have hpp : Past w W1 := hpW.trans hJ0.past
  have b0 := cell_in (W := W0) (w1 := W1) (p := ⟨w.heap.size, 0, none⟩) (v := .int .i64 m) hJ0.past (by rw [hW0]; go_simp)
  have b1 := cell_in (W := W0) (w1 := W1) (p := ⟨w.heap.size, 1, none⟩) (v := .slice A n c) hJ0.past (by rw [hW0]; go_simp)
  obtain ⟨ds, hds⟩ : ∃ ds, nearI m xs s = ds := ⟨_, rfl⟩
  have hdl : ds.length ≤ 8 := by
    rw [← hds]
    unfold nearI
    split
    · rename_i h
      obtain ⟨M, rfl, _, h8⟩ := here_nat ((hereB_iff _ _ _).1 h).1
      rw [nearL_length]
      simp
      exact h8
    · simp
  have hri : reachI m xs s most = inTo ds most ds.length := by
    rw [← hds]
    unfold reachI nearI
    split
    · rw [nearL_length]
    · rfl
  have HRI := Lib.hid hri
  have HDS := Lib.hid hds
  have HW : Hid (W1 = (w.alloc (.cells #[.int .i64 m, .slice A n c] 32)).alloc (.cells #[.slice none 0 0] 28)) := by rw [Hid, hW1, hW0]
  clear hri hds hW0 hW1
  go_enter Try.func50, Try.ntmps50
  go_wp2_with fail
  rw [← HW.out]
  clear HW
  refine (traverse_any 94 #[.pointer (some ⟨w.heap.size + 1, 0, none⟩)] m A n c xs s most _ (enters_of Try.func94 (by kernel_rfl) rfl) hn HX.out (hx.below hpp) ds HDS.out
    (fun B j W => ∃ v, AppJ W0 (w.heap.size + 1) B (inTo ds most j) W v)
    (fun W hW => ⟨_, cell_in hW hJ0.cell, free_in hW hJ0.cell hJ0.free, Res.nil _ _, (fun b e => by cases e), hJ0.past.trans hW, hJ0.le⟩)
    (fun B j W hW hj hno => by rw [inTo_miss hno]; exact hW)
    (fun B j W h1 h2 hj ⟨v, hv⟩ hyes => (reachIn1_any _ _ _ W1.heap.size B _ W0 W v hv (by have := inTo_len ds most j; omega) h2 (by omega)).mono (by
      rintro e W' ⟨rfl, hJ', hm⟩
      rw [inTo_hit hyes]
      exact ⟨rfl, hJ', hm⟩))).mono ?_
  rintro e w4 ⟨rfl, B, _, _, v4, hJ4⟩
  have c4 := hJ4.cell
  have hp4 := hpW.trans hJ4.past
  go_wp2
  go_ret
  exact ⟨_, rfl, by rw [HRI.out]; exact hJ4.res.lower (by omega), hp4⟩

end Go.Proofs.Ytaojognjkiifmaa

namespace Go.Proofs.Ytaojognjkiifmaa

section
variable {M : Nat} {xs : List ArcD} {s : Int}
theorem way_goes (hN : netB (M : Int) xs = true) (hs : 0 ≤ s ∧ s < M) {v x c : Int} {l : List Int} (w : Way (forL xs x) s v c l) : goesB M xs s v x = true := by
  have hM : M ≤ 8 := by have := ((netB_iff _ _).1 hN).1; omega
  have hx := forL_in (arcsIn_net hN) x
  obtain ⟨c2, l2, h1, _, _, h4⟩ := w.simple hx
  have hf := h1.few hx hs h4
  have hcc := h1.cost hx
  have := nearL_le (by omega) hx hs h1
  simp only [goesB, decide_eq_true_eq]
  omega
theorem goes_way (hN : netB (M : Int) xs = true) (hs : 0 ≤ s ∧ s < M) {v x : Int} (hv : 0 ≤ v ∧ v < M) (h : goesB M xs s v x = true) : ∃ c l, Way (forL xs x) s v c l := by
  simp only [goesB, decide_eq_true_eq] at h
  obtain ⟨l, w⟩ := ((nearL_sound (forL_in (arcsIn_net hN) x) hs).2 v hv.1 (by omega)).2.resolve_left (by unfold farI; omega)
  exact ⟨_, l, w⟩
theorem goes_less (hN : netB (M : Int) xs = true) (hs : 0 ≤ s ∧ s < M) {v x y : Int} (hv : 0 ≤ v ∧ v < M) (h : goesB M xs s v x = true) (hy : y ≤ x) : goesB M xs s v y = true := by
  obtain ⟨c, l, w⟩ := goes_way hN hs hv h
  exact way_goes hN hs (w.less hy)
theorem goes_to (hN : netB (M : Int) xs = true) (hs : 0 ≤ s ∧ s < M) {v : Int} (hv : 0 ≤ v ∧ v < M) : ∀ (k : Nat) (y : Int), 0 ≤ y → y < k → (goesB M xs s v y = true ↔ y ≤ mostTo M xs s v k)
  | 0, y, h0, h1 => by omega
  | k + 1, y, h0, h1 => by
    cases hg : goesB M xs s v (k : Int) with
    | true =>
      rw [mostTo_hit hg]
      exact ⟨fun _ => by omega, fun _ => goes_less hN hs hv hg (by omega)⟩
    | false =>
      rw [mostTo_miss hg]
      by_cases e : y = k
      · subst e
        have := (mostTo_bd M xs s v k).2
        rw [hg]
        exact ⟨fun h => by simp at h, fun h => by omega⟩
      · exact goes_to hN hs hv k y h0 (by omega)
/-- So much may go if it is no more than the most. -/
theorem goes_most (hN : netB (M : Int) xs = true) (hs : 0 ≤ s ∧ s < M) {v y : Int} (hv : 0 ≤ v ∧ v < M) (h0 : 0 ≤ y) (h9 : y ≤ 9) : goesB M xs s v y = true ↔ y ≤ at_ (mostL M xs s) v := by
  have e : at_ (mostL M xs s) v = mostTo M xs s v 10 := by
    have := mostL_at (xs := xs) (s := s) (show v.toNat < M by omega)
    unfold at_
    rw [List.getD_eq_getElem?_getD, this, show ((v.toNat : Nat) : Int) = v by omega]
    rfl
  rw [e]
  exact goes_to hN hs hv 10 y h0 (by omega)
theorem most_bd {v : Int} (hv : 0 ≤ v ∧ v < M) : -1 ≤ at_ (mostL M xs s) v ∧ at_ (mostL M xs s) v ≤ 9 := by
  have := mostL_at (xs := xs) (s := s) (show v.toNat < M by omega)
  have h := mostTo_bd M xs s v 10
  unfold at_
  rw [List.getD_eq_getElem?_getD, this, show ((v.toNat : Nat) : Int) = v by omega]
  simp only [Option.getD_some]
  omega
theorem most_start (hN : netB (M : Int) xs = true) (hs : 0 ≤ s ∧ s < M) : at_ (mostL M xs s) s = 9 := by
  have h := (goes_most hN hs hs (y := 9) (by omega) (by omega)).1 (way_goes hN hs .nil)
  have := most_bd (xs := xs) (s := s) hs
  omega
/-- As much may go as over the weaker of an arc and the way to it. -/
theorem most_arc (hN : netB (M : Int) xs = true) (hs : 0 ≤ s ∧ s < M) {a : ArcD} (ha : a ∈ xs) : min (at_ (mostL M xs s) a.f) a.d ≤ at_ (mostL M xs s) a.t := by
  have hb := arcsIn_net hN a ha
  have h1 := most_bd (M := M) (xs := xs) (s := s) (v := a.f) (by omega)
  have h2 := most_bd (M := M) (xs := xs) (s := s) (v := a.t) (by omega)
  have hd := ((netB_iff _ _).1 hN).2.2 a ha
  simp only [arcB, Bool.and_eq_true, inB_iff] at hd
  by_cases h : at_ (mostL M xs s) a.f = -1
  · omega
  · obtain ⟨x, hx⟩ : ∃ x, x = min (at_ (mostL M xs s) a.f) a.d := ⟨_, rfl⟩
    rw [← hx]
    have hg := (goes_most (M := M) hN hs (v := a.f) (y := x) (by omega) (by omega) (by omega)).2 (by omega)
    obtain ⟨c, l, w⟩ := goes_way hN hs (by omega) hg
    exact (goes_most (M := M) hN hs (v := a.t) (y := x) (by omega) (by omega) (by omega)).1 (way_goes hN hs (.snoc w (mem_forL.2 ⟨ha, by omega⟩) rfl))
end

end Go.Proofs.Ytaojognjkiifmaa

namespace Go.Proofs.Ytaojognjkiifmaa
open Go.RowKit

/-- A number is in a list. -/
def inL (ys : List Int) (x : Int) : Bool := decide (x ∈ ys)
theorem inL_iff (ys : List Int) (x : Int) : inL ys x = true ↔ x ∈ ys := by simp [inL]
theorem inL_no (ys : List Int) (x : Int) : inL ys x = false ↔ x ∉ ys := by simp [inL]
/-- What the first k arcs cost, those that are in another list. -/
def shareTo (xs : List ArcD) (ys zs : List Int) : Nat → Int
  | 0 => 0
  | k + 1 => if inL zs (numOf ys k) then shareTo xs ys zs k + (arcOf xs (numOf ys k)).c else shareTo xs ys zs k
def shareI (m : Int) (xs : List ArcD) (ys zs : List Int) : Int := if okB m xs ys && okB m xs zs then shareTo xs ys zs ys.length else -1
theorem shareTo_bd {m : Int} {xs : List ArcD} {ys zs : List Int} (h : okB m xs ys = true) : ∀ k, k ≤ ys.length → 0 ≤ shareTo xs ys zs k ∧ shareTo xs ys zs k ≤ 99 * k
  | 0, _ => by simp [shareTo]
  | k + 1, hk => by
    have ih := shareTo_bd (zs := zs) h k (by omega)
    obtain ⟨j, a, _, _, h0, h1, e⟩ := ok_arc h (List.getElem?_eq_getElem (show k < ys.length by omega))
    unfold shareTo
    split
    · rw [e]; omega
    · omega
theorem numOf_get {ys : List Int} {k : Nat} {y : Int} (h : ys[k]? = some y) : numOf ys k = y := by simp [numOf, List.getD_eq_getElem?_getD, h]

end Go.Proofs.Ytaojognjkiifmaa

namespace Go.Proofs.Ytaojognjkiifmaa
open Go.RowKit

theorem inL_take {ys : List Int} {x y : Int} {k : Nat} (h : x ∉ ys.take k) (hy : ys[k]? = some y) (hne : y ≠ x) : x ∉ ys.take (k + 1) := by
  rw [List.take_add_one, hy]
  simp
  exact ⟨h, fun e => hne e.symm⟩


/-- Where a number is in a list: -1, if it isn't. -/
def Found (ys : List Int) (x j : Int) : Prop := (j = -1 ∧ x ∉ ys) ∨ ∃ k : Nat, j = k ∧ ys[k]? = some x ∧ x ∉ ys.take k



end Go.Proofs.Ytaojognjkiifmaa

namespace Go.Proofs.Ytaojognjkiifmaa
open Go.RowKit

set_option maxRecDepth 100000 in
set_option maxHeartbeats 1000000 in
theorem wkIn_any (A : Option Addr) (n c : Nat) (ys : List Int) (x : Int) (w : World) (hn : n ≤ 1048576) (hl : ys.length = n) (hx : IntsAt w A ys) :
    Calls Try.prog 51 #[.slice A n c, .int .i64 x] w fun e w' => e = .returned (.bool (inL ys x)) ∧ Below w.heap.size w w' := by
  have HL := Lib.hid hl
  clear hl
  go_enter Try.func51, Try.ntmps51
  go_wp2
  go_loopw [5] (fun i wr => ∃ k : Nat, k ≤ n ∧ i = .int .i64 k ∧ x ∉ ys.take k ∧ Past w wr) (fun i _ => n - (intOf i).toNat)
  case atStart => exact ⟨0, by omega, rfl, by simp, Past.refl _⟩
  case round =>
    obtain ⟨k, hk, rfl, hno, hb⟩ := hrel
    have HN := Lib.hid hno
    clear hno
    by_cases hlt : k < n
    · obtain ⟨y, ha⟩ : ∃ a, ys[k]? = some a := ⟨_, List.getElem?_eq_getElem (by have := HL.out; omega)⟩
      obtain ⟨g, o, rfl, c0⟩ := (hx.below hb) k _ ha
      have HA := Lib.hid ha
      have i0 : (0 : Int) ≤ (k : Int) := by omega
      have i1 : (k : Int) < (n : Int) := by omega
      clear ha
      by_cases e : y = x
      · subst e
        go_wp2
        go_ret
        exact ⟨ret_bool ((inL_iff _ _).2 (List.mem_of_getElem? HA.out)).symm, hb⟩
      · go_wp2
        go_roundw
        case rel => exact ⟨k + 1, by omega, by go_num, inL_take HN.out HA.out e, hb⟩
        case measure => simp [intOf]; omega
    · obtain rfl : n = k := by omega
      go_wp2
      go_ret
      exact ⟨ret_bool ((inL_no _ _).2 (by have := HN.out; rwa [List.take_of_length_le (by have := HL.out; omega)] at this)).symm, hb⟩

end Go.Proofs.Ytaojognjkiifmaa

namespace Go.Proofs.Ytaojognjkiifmaa
open Go.RowKit

set_option maxRecDepth 100000 in
set_option maxHeartbeats 1000000 in
theorem wkInts_same (A B : Option Addr) (n c c' : Nat) (xs : List Int) (w : World) (hn : n ≤ 1048576) (hl : xs.length = n) (hx : IntsAt w A xs) (hy : IntsAt w B xs) :
    Calls Try.prog 29 #[.slice A n c, .slice B n c'] w fun e w' => e = .returned (.bool true) ∧ Below w.heap.size w w' := by
  go_enter Try.func29, Try.ntmps29
  go_wp2
  go_loopw [5] (fun i wr => ∃ k : Nat, k ≤ n ∧ i = .int .i64 k ∧ Past w wr) (fun i _ => n - (intOf i).toNat)
  case atStart => exact ⟨0, by omega, rfl, Past.refl _⟩
  case round =>
    obtain ⟨k, hk, rfl, hb⟩ := hrel
    by_cases hlt : k < n
    · obtain ⟨x0, ha⟩ : ∃ a, xs[k]? = some a := ⟨_, List.getElem?_eq_getElem (by omega)⟩
      obtain ⟨g, o, rfl, c0⟩ := (hx.below hb) k _ ha
      obtain ⟨g', o', rfl, d0⟩ := (hy.below hb) k _ ha
      have hi : (k : Int) < (n : Int) := by omega
      have h0 : (0 : Int) ≤ (k : Int) := by omega
      clear ha hl
      go_wp2_with fail
      go_quiet (fail)
      go_wp2
      go_roundw
      case rel => exact ⟨k + 1, by omega, by go_num, hb.drewN _⟩
      case measure => simp [intOf]; omega
    · go_wp2
      go_ret
      exact ⟨rfl, hb⟩

end Go.Proofs.Ytaojognjkiifmaa

namespace Go.Proofs.Ytaojognjkiifmaa
open Go.ChangeShapes Go.WideShapes Go.ChangeAt Go.RowKit

theorem mem_reach {M : Nat} {xs : List ArcD} {s q y : Int} (hN : netB (M : Int) xs = true) (hs : 0 ≤ s ∧ s < M) : y ∈ reachI (M : Int) (forL xs q) s 99999 ↔ (0 ≤ y ∧ y < M) ∧ goesB M xs s y q = true := by
  have hh : hereB (M : Int) (forL xs q) s = true := (hereB_iff _ _ _).2 ⟨forL_net hN q, hs⟩
  rw [reachI, if_pos hh, Int.toNat_natCast, mem_inTo, rchB_iff, goesB, decide_eq_true_eq]
  constructor
  · rintro ⟨h0, h1, h2, _⟩; exact ⟨⟨h0, h1⟩, h2⟩
  · rintro ⟨⟨h0, h1⟩, h2⟩; exact ⟨h0, h1, h2, by omega⟩

set_option maxRecDepth 100000 in
set_option maxHeartbeats 8000000 in
theorem fnReachLoad_walk (A : Option Addr) (n c : Nat) (w : World) (hn : n ≤ c) (hc : c ≤ maxLen) (hb : BytesAt w A n) :
    Calls Try.prog 12 #[.slice A n c] w fun e w' => e = .returned (.bool true) ∧ Below w.heap.size w w' := by
  by_cases h1 : 1048576 < n
  · have h1' : (1048576 : Int) < (n : Int) := by omega
    go_enter Try.func12, Try.ntmps12
    go_wp2
    go_ret
    exact ⟨rfl, Below.refl _ _⟩
  have h1' : ¬ (1048576 : Int) < (n : Int) := by omega
  go_enter Try.func12, Try.ntmps12
  go_wp2_with fail
  refine (drawLoadAll_any A n c w hn hc hb).mono ?_
  rintro e w1 ⟨m, B, k, cap, xs, s, rfl, hxk, hk, hx1, _, hb1⟩
  have HX := Lib.hid hxk
  have hkk : k ≤ 1048576 := by omega
  clear hxk hn hc hb
  have hpW : Past w1 (w1.alloc (.cells #[.int .i64 m, .slice B k cap] 32)) := (Past.refl w1).alloc _
  go_wp2_with fail
  refine (implLoadAll_any m B k cap xs s _ hkk HX.out (hx1.below hpW)).mono ?_
  rintro e w2 ⟨v2, rfl, hv2, hb2⟩
  have b0 := cell_in (p := ⟨w1.heap.size, 0, none⟩) (v := .int .i64 m) hb2 (by go_simp)
  have b1 := cell_in (p := ⟨w1.heap.size, 1, none⟩) (v := .slice B k cap) hb2 (by go_simp)
  have hx2 := (hx1.below hpW).below hb2
  have hp2 : Past w w2 := Past.trans hb1 (hpW.trans hb2)
  obtain ⟨X, cx, rfl, hs2, _⟩ := hv2.form
  obtain ⟨ps, hps⟩ : ∃ ps, ps = loadsI m xs s := ⟨_, rfl⟩
  rw [← hps] at hs2 ⊢
  obtain ⟨R, hR⟩ : ∃ R, R = ps.length := ⟨_, rfl⟩
  have hR1 : R ≤ 1048576 := by rw [hR, hps]; exact loadsI_len m xs s
  rw [← hR]
  have HPS := Lib.hid hps
  have HR := Lib.hid hR.symm
  clear hps hR hv2 hx1 hb1 hb2 hpW
  go_wp2_with fail
  refine (specLoadAll_any m B k cap xs s _ hkk HX.out hx2).mono ?_
  rintro e w3 ⟨v3, rfl, hv3, hb3⟩
  obtain ⟨F, cf, rfl, hs3, _⟩ := hv3.form
  rw [← HPS.out] at hs3 ⊢
  rw [HR.out]
  have b0 := cell_in hb3 b0
  have b1 := cell_in hb3 b1
  have hx3 := hx2.below hb3
  have hs23 := hs2.below hb3
  have hp3 := Past.trans hp2 hb3
  clear hv3 hx2 hs2 hb3 hp2
  go_wp2_with fail
  refine (wkInts_same X F R cx cf ps _ hR1 HR.out hs23 hs3).mono ?_
  rintro e w4 ⟨rfl, hb4⟩
  have b0 := cell_in hb4 b0
  have b1 := cell_in hb4 b1
  have hx4 := hx3.below hb4
  have hs4 := hs23.below hb4
  have hp4 := Past.trans hp3 hb4
  clear hx3 hs23 hs3 hb4 hp3
  cases hO : hereB m xs s with
  | false =>
    obtain rfl : R = 0 := by rw [← HR.out, HPS.out, loadsI, hO]; rfl
    clear hO
    go_wp2_with fail
    refine (specLoadAll_any m B k cap xs s _ hkk HX.out hx4).mono ?_
    rintro e w6 ⟨v6, rfl, hv6, hb6⟩
    obtain ⟨F, cf, rfl, hs6, _⟩ := hv6.form
    rw [← HPS.out] at hs6 ⊢
    rw [HR.out]
    go_wp2_with fail
    refine (wkInts_same X F 0 cx cf ps _ hR1 HR.out (hs4.below hb6) hs6).mono ?_
    rintro e w7 ⟨rfl, hb7⟩
    go_wp2
    go_ret
    exact ⟨rfl, (Past.trans hp4 hb6).trans hb7⟩
  | true =>
  obtain ⟨hN, hn0, hn1⟩ := (hereB_iff _ _ _).1 hO
  obtain ⟨M, rfl, hM1, hM8⟩ := here_nat hN
  have hps : ps = mostL M xs s := by rw [HPS.out, loadsI, hO, if_pos rfl, Int.toNat_natCast]
  obtain rfl : M = R := by rw [← HR.out, hps, mostL_length]
  have hwas : reachI (M : Int) xs s 99999 = reachI (M : Int) (forL xs 0) s 99999 := by rw [forL_zero hN]
  have hin : ∀ (q : Nat) (y : Int), q ≤ 9 → y ∈ reachI (M : Int) (forL xs (q : Int)) s 99999 → (0 ≤ y ∧ y < M) ∧ inL (reachI (M : Int) (forL xs ((q - 1 : Nat) : Int)) s 99999) y = true ∧ (q : Int) ≤ at_ ps y := fun q y hq h => by
    obtain ⟨hy, hg⟩ := (mem_reach hN ⟨hn0, hn1⟩).1 h
    refine ⟨hy, (inL_iff _ _).2 ((mem_reach hN ⟨hn0, hn1⟩).2 ⟨hy, goes_less hN ⟨hn0, hn1⟩ hy hg (by omega)⟩), ?_⟩
    rw [hps]
    exact (goes_most hN ⟨hn0, hn1⟩ hy (by omega) (by omega)).1 hg
  have hlast : inL (reachI (M : Int) (forL xs 9) s 99999) s = true := (inL_iff _ _).2 ((mem_reach hN ⟨hn0, hn1⟩).2 ⟨⟨hn0, hn1⟩, way_goes hN ⟨hn0, hn1⟩ .nil⟩)
  have hln : ∀ q : Nat, q ≤ 9 → lnetL (M : Int) xs (q : Int) = forL xs (q : Int) ∧ lnetN (M : Int) xs (q : Int) = M := fun q hq => by
    have h : lnetB (M : Int) xs (q : Int) = true := by rw [lnetB, hN, (inB_iff _ _ _).2 ⟨by omega, by omega⟩]; rfl
    exact ⟨(lnet_yes h).2, (lnet_yes h).1⟩
  have HWAS := Lib.hid hwas
  have HIN := Lib.hid hin
  have HLAST := Lib.hid hlast
  have HLN := Lib.hid hln
  have hM0 : ¬ (M : Int) = 0 := by omega
  have hM0b : ((M : Int) == 0) = false := by simp; omega
  clear hO hN hps hwas hin hlast hln
  go_wp2_with fail
  refine (implReachIn_any (M : Int) B k cap xs s 99999 _ hkk HX.out hx4).mono ?_
  rintro e w5 ⟨v5, rfl, hv5, hb5⟩
  rw [HWAS.out] at hv5
  have b0 := cell_in hb5 b0
  have b1 := cell_in hb5 b1
  have hx5 := hx4.below hb5
  have hs5 := hs4.below hb5
  have hp5 := Past.trans hp4 hb5
  obtain ⟨A5, c5, rfl, hi5, _⟩ := hv5.form
  clear hv5 hx4 hs4 hb5 hp4
  go_wp2
  go_loopw [6, 7, 8, 9] (fun v i _ _ wr => ∃ (q : Nat) (S : Option Addr) (cS : Nat), q ≤ 10 ∧ i = .int .i64 q ∧ v = .slice S (reachI (M : Int) (forL xs ((q - 1 : Nat) : Int)) s 99999).length cS ∧ IntsAt wr S (reachI (M : Int) (forL xs ((q - 1 : Nat) : Int)) s 99999) ∧ Past w5 wr) (fun _ i _ _ _ => 10 - (intOf i).toNat)
  case atStart => exact ⟨0, A5, c5, by omega, rfl, rfl, hi5, Past.refl _⟩
  case round =>
    clear hi5
    obtain ⟨q, S, cS, hq, rfl, rfl, hS, hbr⟩ := hrel
    have b0r := cell_in hbr b0
    have b1r := cell_in hbr b1
    obtain ⟨was, hwas⟩ : ∃ was, was = reachI (M : Int) (forL xs ((q - 1 : Nat) : Int)) s 99999 := ⟨_, rfl⟩
    have hwl : was.length ≤ 1048576 := by rw [hwas]; exact reachI_len _ _ _ _
    rw [← hwas] at hS ⊢
    obtain ⟨L, hL⟩ : ∃ L, L = was.length := ⟨_, rfl⟩
    rw [← hL] at hwl ⊢
    have HW := Lib.hid hwas
    have HL := Lib.hid hL.symm
    clear hwas hL
    by_cases hq10 : q < 10
    · have q9 : (q : Int) ≤ 9 := by omega
      obtain ⟨hl1, hl2⟩ := HLN.out q (by omega)
      have H1 := Lib.hid hl1
      have H2 := Lib.hid hl2
      clear hl1 hl2
      go_wp2_with fail
      refine (implLoadNet_any (M : Int) B k cap xs (q : Int) _ hkk HX.out (hx5.below hbr)).mono ?_
      rintro e w6 ⟨E, ce, rfl, hz6, _, hb6⟩
      rw [H1.out] at hz6
      rw [H1.out, H2.out]
      obtain ⟨K, hK⟩ : ∃ K, K = (forL xs (q : Int)).length := ⟨_, rfl⟩
      have hK1 : K ≤ 1048576 := by rw [hK]; exact Nat.le_trans (forL_len _ _) (by rw [HX.out]; omega)
      rw [← hK]
      have HK := Lib.hid hK.symm
      clear hK
      go_wp2_with fail
      refine (implReachIn_any (M : Int) E K ce (forL xs (q : Int)) s 99999 _ hK1 HK.out hz6).mono ?_
      rintro e w7 ⟨v7, rfl, hv7, hb7⟩
      obtain ⟨now, hnow⟩ : ∃ now, now = reachI (M : Int) (forL xs (q : Int)) s 99999 := ⟨_, rfl⟩
      rw [← hnow] at hv7
      obtain ⟨D, cd, rfl, hd7, _⟩ := hv7.form
      obtain ⟨T, hT⟩ : ∃ T, T = now.length := ⟨_, rfl⟩
      have hT1 : T ≤ 1048576 := by rw [hT, hnow]; exact reachI_len _ _ _ _
      rw [← hT]
      have HT := Lib.hid hT.symm
      have HNOW := Lib.hid hnow
      have hb67 : Past wr w7 := hb6.trans (hb7.mono hb6.size)
      have b0r := cell_in hb67 b0r
      have b1r := cell_in hb67 b1r
      have hS7 := hS.below hb67
      have hbr7 := Past.trans hbr hb67
      have hs7 := hs5.below hbr7
      clear hT hnow hv7 hz6 hb6 hb7 hb67 hS hbr
      go_wp2
      go_loopw [9] (fun i wz => ∃ j : Nat, j ≤ T ∧ i = .int .i64 j ∧ Past w7 wz) (fun i _ => T - (intOf i).toNat)
      case atStart => exact ⟨0, by omega, rfl, Past.refl _⟩
      case round =>
        obtain ⟨j, hj, rfl, hbz⟩ := hrel
        have b0z := cell_in hbz b0r
        have b1z := cell_in hbz b1r
        by_cases hlt : j < T
        · obtain ⟨y, hy⟩ : ∃ y, now[j]? = some y := ⟨_, List.getElem?_eq_getElem (by have := HT.out; omega)⟩
          obtain ⟨gd, od, rfl, cy⟩ := (hd7.below hbz) j y hy
          obtain ⟨⟨y0, y1⟩, hiw, hle⟩ := HIN.out q y (by omega) (by rw [← HNOW.out]; exact List.mem_of_getElem? hy)
          rw [← HW.out] at hiw
          obtain ⟨gX, oX, rfl, cp⟩ := (hs7.below hbz) y.toNat _ (by have := getElem_at ps y.toNat (by have := HR.out; omega); rw [show ((y.toNat : Nat) : Int) = y by omega] at this; exact this)
          obtain ⟨p, hp⟩ : ∃ p, p = at_ ps y := ⟨_, rfl⟩
          rw [← hp] at cp hle
          have j0 : (0 : Int) ≤ (j : Int) := by omega
          have j1 : (j : Int) < (T : Int) := by omega
          have g1 : ¬ p < (q : Int) := by omega
          have g2 : decide (p < (q : Int)) = false := decide_eq_false g1
          have HI := Lib.hid hiw
          clear hy hp hle hiw
          go_wp2_with fail
          refine (wkIn_any S L cS was y _ hwl HL.out (hS7.below hbz)).mono ?_
          rintro e w8 ⟨rfl, hb8⟩
          rw [HI.out]
          have cy := cell_in hb8 cy
          have cp := cell_in hb8 cp
          go_wp2
          go_roundw
          case rel => exact ⟨j + 1, by omega, by go_num, hbz.trans hb8⟩
          case measure => simp [intOf]; omega
        · obtain rfl : j = T := by omega
          have hdz := hd7.below hbz
          have hpz := Past.trans hbr7 hbz
          have HDZ : Hid (IntsAt wr D (reachI (M : Int) (forL xs ((q + 1 - 1 : Nat) : Int)) s 99999)) := by rw [Hid, Nat.add_sub_cancel, ← HNOW.out]; exact hdz
          have HLZ : Hid ((reachI (M : Int) (forL xs ((q + 1 - 1 : Nat) : Int)) s 99999).length = j) := by rw [Hid, Nat.add_sub_cancel, ← HNOW.out, HT.out]
          clear hdz
          go_wp2
          go_roundw
          case rel => exact ⟨q + 1, D, cd, by omega, by go_num, by rw [HLZ.out], HDZ.out, hpz⟩
          case measure => simp [intOf]; omega
    · obtain rfl : q = 10 := by omega
      have q9 : ¬ ((10 : Int) ≤ 9) := by omega
      have hI : inL was s = true := by rw [HW.out]; exact HLAST.out
      have HI := Lib.hid hI
      clear hI
      go_wp2_with fail
      refine (wkIn_any S L cS was s _ hwl HL.out hS).mono ?_
      rintro e w8 ⟨rfl, hb8⟩
      rw [HI.out]
      go_wp2
      go_ret
      exact ⟨rfl, (hp5.trans hbr).trans hb8⟩

set_option maxRecDepth 100000 in
theorem fnReachLoad_lifted (os : Os) (started : os.Started) (H : Type) (enc : TypeId × Value → H) :
    ReturnsInHanded {} Try.checked os 12 .any (Rows.fnReachLoadSpec.pre6 enc Try.prog Try.f12 Rows.fnReachLoadRow.domain false) (Rows.fnReachLoadSpec.post enc Try.prog Try.f12 false true false false) := by
  refine returnsInHanded_of_change (C := Try.checked) own started (by kernel_rfl) Try.func12
    (ChangeSpec.witness6 (enc := enc) (C := Try.checked) false ⟨#[], #[.slice none 0 0], []⟩ 8 (by kernel_rfl) (by kernel_rfl) (by kernel_rfl) (by kernel_rfl)) ?_
  intro W base args ds gs before hval0 hW hcnd _
  have hval : ∀ (j : Nat) t v, Try.f12.params[j]? = some t → args[j]? = some v → Value.okWide Try.prog W .any base t v := hval0
  have hW' := hW
  obtain ⟨p, q, hA0, hV, rfl, hfz, hnd⟩ := hW
  have hA : DataW.TrodAll enc Try.prog W 0 (fun _ => true) true Try.f12.params.toList args.toList ds p := hA0
  rw [Try.params12] at hA hval
  obtain ⟨v0, vs0, d0, ds0, p0, q0, hargs, rfl, rfl, h0, r0⟩ := trodAll_cons hA
  obtain ⟨rfl, rfl, rfl⟩ := trodAll_nil r0
  obtain rfl : args = #[v0] := by cases args; simp_all
  obtain ⟨rfl, rfl⟩ := trodVars_none hV
  have k0 := h0
  have lt0 := places_lt k0
  obtain ⟨A0, n0, c0, rfl, hn0, hc0, hb0⟩ := open_bytes (hval 0 43 v0 rfl rfl) h0
  clear hA0 hval0
  refine (fnReachLoad_walk A0 n0 c0 W hn0 hc0 hb0).mono fun e W' ⟨he, bel⟩ => ?_
  subst he
  exact ⟨_, rfl, _, _, _, [], _, [], hW', trodAll_mk1 (shut_bool Try.underlying4 _), (trodAll_cons_mk (Below.trod laidOut (by kernel_rfl) (of_decide_eq_true (by kernel_rfl)) k0 bel lt0) trodAll_mk0), rfl, bel.frame _, fun h => by cases h⟩

/-- The given statement. -/
theorem fnReachLoad_proved : Rows.FnReachLoadSaid :=
  OpenClaim.holds_of_wide 12 Try.f12 rfl rfl rfl rfl rfl rfl rfl ⟨rfl, rfl, rfl, rfl, rfl⟩ rfl rfl rfl rfl rfl (by kernel_rfl) Try.func12 (by kernel_rfl)
    (of_decide_eq_true (by kernel_rfl)) (by unfold Func.isWrapper; first | (rw [if_pos (by decide +kernel)]; kernel_rfl) | (rw [if_neg (by decide +kernel)]; exact ⟨rfl, rfl⟩))
    (fun os started H enc _ => fnReachLoad_lifted os started H enc)

end Go.Proofs.Ytaojognjkiifmaa
