/-
  FnReachParts answers true at every input: nodes of one kind reach each other. No condition.
-/
import Derived.Test.YtaojognjkiifmacRows
import Derived.Test.YtaojognjkiifmacBase
import Derived.OpenShut
import Derived.ShutString
import Derived.ChangeOld
import Derived.Deep.Slices
import Derived.Deep.Fields
import Derived.Lib.SmallJoins
import Derived.Test.YtaojognjkiifmacDraw
import Derived.Deep.LoopGhost
import Derived.Test.YtaojognjkiifmacRFarI
import Derived.Test.YtaojognjkiifmacPReach
import Derived.Test.YtaojognjkiifmacPMark
import Derived.Test.YtaojognjkiifmacPBack
import Derived.Test.YtaojognjkiifmacBack3
import Derived.Test.YtaojognjkiifmacNAll
import Derived.Test.YtaojognjkiifmacIn
import Derived.Test.YtaojognjkiifmacDrawReachParts
import Derived.Test.YtaojognjkiifmacRPrtS
import Derived.Test.YtaojognjkiifmacQPast
namespace Go.Proofs.Ytaojognjkiifmac
open Go.ChangeShapes Go.WideShapes Go.ChangeAt Go.RowKit Go.Deep Go.Joins

theorem own : ownKnob Try.prog.godebug = none := by kernel_rfl
theorem laidOut : laidOutB Try.prog = true := by kernel_rfl

theorem spotless {W : World} {a : Addr} {v : Value} (h : W.cell? (a.add 0) = some v) : ∃ g o, a = ⟨g, o, none⟩ := by
  obtain ⟨g, o, s⟩ := a
  have := World.cell?_spot h
  refine ⟨g, o, ?_⟩
  simpa [Addr.add] using this

theorem addr_add (g o i : Nat) : Addr.add ⟨g, o, none⟩ i = ⟨g, o + i, none⟩ := by
  unfold Addr.add
  split <;> simp_all

/-- What a reading goes through was there. -/
theorem places_lt {H : Type} {enc : TypeId × Value → H} {W : World} {t : TypeId} {v : Value} {d : DataW H} {p : List MemPlace} (h : DataW.Trod enc Try.prog W 0 (fun _ => true) true t v d p) : ∀ x ∈ p, x.block < W.heap.size := by
  obtain ⟨m, hm⟩ := h
  exact DataW.trod_lt m _ _ _ hm



end Go.Proofs.Ytaojognjkiifmac

namespace Go.Proofs.Ytaojognjkiifmac
open Go.ChangeShapes Go.WideShapes Go.ChangeAt Go.RowKit Go.Deep Go.Joins

set_option maxRecDepth 100000 in
theorem open_bytes {H : Type} {enc : TypeId × Value → H} {W : World} {r : Reach} {b0 : Nat} {v : Value} {d : DataW H} {p : List MemPlace} (hv : Value.okWide Try.prog W r b0 36 v)
    (h : DataW.Trod enc Try.prog W 0 (fun _ => true) true 36 v d p) : ∃ (A : Option Addr) (n c : Nat), v = .slice A n c ∧ n ≤ c ∧ c ≤ maxLen ∧ BytesAt W A n := by
  obtain ⟨a0, len, cap, rfl⟩ := okWide_slice Try.underlying36 hv
  obtain ⟨fuel, hf⟩ := h
  rcases open_ints Try.underlying36 Try.underlying5 (by kernel_rfl) (show DataW.trod enc Try.prog W 0 (fun _ => true) true fuel 36 [.slice a0 len cap] = some _ by simpa [Value.cells] using hf) with ⟨hcs, _⟩ | ⟨a, len', cap', zs, hcs, _, hl, hm, hz, _, hcell, hwf⟩
  · injection hcs with hcs
    injection hcs with e1 e2 e3
    subst e1 e2 e3
    exact ⟨none, 0, 0, rfl, Nat.le_refl _, Nat.zero_le _, fun k hk => absurd hk (by omega)⟩
  · injection hcs with hcs
    injection hcs with e1 e2 e3
    subst e1 e2 e3
    simp only [if_true] at hz
    refine ⟨some a, _, _, rfl, hl, hm, fun k hk => ?_⟩
    have hc := hcell k (by omega)
    obtain ⟨g, o, rfl⟩ := spotless (hcell 0 (by omega))
    rw [addr_add] at hc
    have hw := hwf (zs.getD k 0) (by rw [List.getD_eq_getElem?_getD, List.getElem?_eq_getElem (by omega)]; simp)
    refine ⟨g, o, _, rfl, hc, ?_⟩
    simp only [Lit.wf, Bool.and_eq_true, decide_eq_true_eq] at hw
    rw [show IntKind.u8.min = 0 by decide, show IntKind.u8.max = 255 by decide] at hw
    exact hw

end Go.Proofs.Ytaojognjkiifmac

namespace Go.Proofs.Ytaojognjkiifmac
open Go.RowKit

theorem MadeI.put {w : World} {g t n k : Nat} {xs : List Int} (h : MadeI w g t n xs k) (u : Value) : MadeI (w.setCell ⟨g, k, none⟩ u) g t n xs k :=
  ⟨h.1.set _ _, fun j x hj hx => (World.cell?_setCell_other w ⟨g, k, none⟩ ⟨g, j, none⟩ _ (by intro e; injection e; omega)).trans (h.2 j x hj hx)⟩
theorem MadeI.one {w : World} {g t n k : Nat} {xs : List Int} {x : Int} (h : MadeI w g t n xs k) (hx : xs[k]? = some x) (hc : w.cell? ⟨g, k, none⟩ = some (.int .i64 x)) : MadeI w g t n xs (k + 1) :=
  ⟨h.1, fun j y hj hy => by
    rcases Nat.lt_or_ge j k with hlt | hge
    · exact h.2 j y hlt hy
    · obtain rfl : j = k := by omega
      rw [hx] at hy
      injection hy with hy
      subst hy
      exact hc⟩

end Go.Proofs.Ytaojognjkiifmac

namespace Go.Proofs.Ytaojognjkiifmac
open Go.RowKit

/-- A grid of truths that a function value writes. -/
structure GridJ (w : World) (b : Nat) (g : Nat → Nat → Bool) (W : World) : Prop where
  cell : ∀ i k, i < 8 → k < 8 → W.cell? ⟨b, i * 8 + k, none⟩ = some (.bool (g i k))
  free : ∀ o, W.frozen? ⟨b, o, none⟩ = false
  past : Past w W
  le : w.heap.size ≤ b
theorem GridJ.lt {w W : World} {b : Nat} {g : Nat → Nat → Bool} (h : GridJ w b g W) : b < W.heap.size := lt_of_cell (h.cell 0 0 (by omega) (by omega))
theorem GridJ.later {w W W' : World} {b : Nat} {g : Nat → Nat → Bool} (h : GridJ w b g W) (hp : Past W W') : GridJ w b g W' :=
  ⟨fun i k h1 h2 => cell_in hp (h.cell i k h1 h2), fun o => (hp.frozen (p := ⟨b, o, none⟩) h.lt).trans (h.free o), h.past.trans hp, h.le⟩
theorem GridJ.set {w W : World} {b i k : Nat} {g : Nat → Nat → Bool} (h : GridJ w b g W) (hi : i < 8) (hk : k < 8) : GridJ w b (fun a c => if a = i ∧ c = k then true else g a c) (W.setCell ⟨b, i * 8 + k, none⟩ (.bool true)) := by
  refine ⟨fun a c ha hc => ?_, fun o => by rw [← h.free o]; simp, Below.setCell h.past (p := ⟨b, i * 8 + k, none⟩) h.le _, h.le⟩
  by_cases e : a = i ∧ c = k
  · obtain ⟨rfl, rfl⟩ := e
    rw [if_pos ⟨rfl, rfl⟩]
    exact World.cell?_setCell_same W _ _ (h.cell a c ha hc)
  · rw [if_neg e]
    exact (World.cell?_setCell_other _ _ _ _ (by intro e'; injection e' with _ e'; apply e; omega)).trans (h.cell a c ha hc)
theorem GridJ.eq {w W : World} {b : Nat} {g g' : Nat → Nat → Bool} (h : GridJ w b g W) (e : ∀ i k, i < 8 → k < 8 → g i k = g' i k) : GridJ w b g' W :=
  ⟨fun i k h1 h2 => by rw [← e i k h1 h2]; exact h.cell i k h1 h2, h.free, h.past, h.le⟩

theorem GridJ.far {w W : World} {b : Nat} {g : Nat → Nat → Bool} (h : GridJ w b g W) (p : Addr) (u : Value) (hne : p.block ≠ b) (hle : w.heap.size ≤ p.block) : GridJ w b g (W.setCell p u) :=
  ⟨fun i k h1 h2 => (World.cell?_setCell_other _ _ _ _ (by intro e; apply hne; rw [e])).trans (h.cell i k h1 h2), fun o => by rw [← h.free o]; simp, Below.setCell h.past hle _, h.le⟩
theorem GridJ.drewN {w W : World} {b : Nat} {g : Nat → Nat → Bool} (h : GridJ w b g W) (n : Nat) : GridJ w b g (W.drewN n) := h.later ((Past.refl W).drewN n)

/-- What has been written: all of the first i nodes, and of the next one what leads to the first j. -/
def gridTo (M : Nat) (xs : List ArcD) (i j a k : Nat) : Bool := if a < i then decide (k < M) && decide (at_ (nearL M xs (a : Int)) (k : Int) < 99999) else if a = i then decide (k < j) && decide (at_ (nearL M xs (a : Int)) (k : Int) < 99999) else false
theorem gridTo_full (M : Nat) (xs : List ArcD) (i a k : Nat) : gridTo M xs i M a k = gridTo M xs (i + 1) 0 a k := by
  unfold gridTo
  by_cases h1 : a < i
  · rw [if_pos h1, if_pos (by omega)]
  · rw [if_neg h1]
    by_cases h2 : a = i
    · rw [if_pos h2, if_pos (by omega)]
    · rw [if_neg h2, if_neg (by omega)]; simp
theorem gridTo_zero (M : Nat) (xs : List ArcD) (a k : Nat) : gridTo M xs 0 0 a k = false := by simp [gridTo]
theorem gridTo_miss {M : Nat} {xs : List ArcD} {i j : Nat} (h : ¬ at_ (nearL M xs (i : Int)) (j : Int) < 99999) (a k : Nat) : gridTo M xs i (j + 1) a k = gridTo M xs i j a k := by
  unfold gridTo
  by_cases h1 : a < i
  · rw [if_pos h1, if_pos h1]
  · rw [if_neg h1, if_neg h1]
    by_cases h2 : a = i
    · rw [if_pos h2, if_pos h2]
      by_cases h3 : k = j
      · subst h2 h3; rw [decide_eq_false h]; simp
      · have : decide (k < j + 1) = decide (k < j) := by simp; omega
        rw [this]
    · rw [if_neg h2, if_neg h2]
theorem gridTo_hit {M : Nat} {xs : List ArcD} {i j : Nat} (h : at_ (nearL M xs (i : Int)) (j : Int) < 99999) (a k : Nat) : (if a = i ∧ k = j then true else gridTo M xs i j a k) = gridTo M xs i (j + 1) a k := by
  unfold gridTo
  by_cases h0 : a = i ∧ k = j
  · obtain ⟨rfl, rfl⟩ := h0
    simp [h]
  · rw [if_neg h0]
    by_cases h1 : a < i
    · rw [if_pos h1, if_pos h1]
    · rw [if_neg h1, if_neg h1]
      by_cases h2 : a = i
      · rw [if_pos h2, if_pos h2]
        have : decide (k < j + 1) = decide (k < j) := by simp; omega
        rw [this]
      · rw [if_neg h2, if_neg h2]
theorem gridTo_all {M : Nat} {xs : List ArcD} {a k : Nat} (ha : a < M) (hk : k < M) : gridTo M xs M 0 a k = decide (at_ (nearL M xs (a : Int)) (k : Int) < 99999) := by
  simp [gridTo, ha, hk]

theorem zeros_made (n : Nat) (hn : n ≤ 8) : madeCells #[.int .i64 0] n = (List.replicate n (Value.int .i64 0)).toArray := by
  have h : n = 0 ∨ n = 1 ∨ n = 2 ∨ n = 3 ∨ n = 4 ∨ n = 5 ∨ n = 6 ∨ n = 7 ∨ n = 8 := by omega
  rcases h with rfl | rfl | rfl | rfl | rfl | rfl | rfl | rfl | rfl
  all_goals (simp [madeCells, Array.range, List.replicate]; try rfl)

set_option maxRecDepth 100000 in
set_option maxHeartbeats 1000000 in
theorem reachParts1_any (i k : Nat) (z : Int) (bx fb : Nat) (g : Nat → Nat → Bool) (w W : World) (h : GridJ w bx g W) (hc : W.cell? ⟨fb, 0, none⟩ = some (.int .i64 (i : Int))) (hi : i < 8) (hk : k < 8) :
    Calls Try.prog 73 #[.int .i64 (k : Int), .int .i64 z, .pointer (some ⟨bx, 0, none⟩), .pointer (some ⟨fb, 0, none⟩)] W fun e W' => e = .returned (.tuple #[]) ∧ W' = W.setCell ⟨bx, i * 8 + k, none⟩ (.bool true) := by
  have c0 := h.cell i k hi hk
  have f0 := h.free (i * 8 + k)
  have i0 : (0 : Int) ≤ (i : Int) := by omega
  have i1 : (i : Int) < 8 := by omega
  have k0 : (0 : Int) ≤ (k : Int) := by omega
  have k1 : (k : Int) < 8 := by omega
  go_enter Try.func73, Try.ntmps73
  go_wp2
  go_end0
  exact ⟨rfl, rfl⟩

set_option maxRecDepth 100000 in
set_option maxHeartbeats 4000000 in
theorem implReachParts_any (m : Int) (A : Option Addr) (n c : Nat) (xs : List ArcD) (w : World) (hn : n ≤ 1048576) (hnx : xs.length = n) (hx : ArcsAt w A xs) :
    Calls Try.prog 36 #[.agg #[.int .i64 m, .slice A n c]] w (Gives w (kindsI m xs)) := by
  have HX := Lib.hid hnx
  clear hnx
  have hb0 : Past w (w.alloc (.cells #[.int .i64 m, .slice A n c] 30)) := (Past.refl _).alloc _
  go_enter Try.func36, Try.ntmps36
  go_wp2_with fail
  refine (implNetOk_any m A n c xs _ hn HX.out (hx.below hb0)).mono ?_
  rintro e w1 ⟨rfl, hb1⟩
  have b0 := cell_in (p := ⟨w.heap.size, 0, none⟩) (v := .int .i64 m) hb1 (by go_simp)
  have b1 := cell_in (p := ⟨w.heap.size, 1, none⟩) (v := .slice A n c) hb1 (by go_simp)
  have hp1 := hb0.trans hb1
  have hx1 := hx.below hp1
  clear hb0 hb1 hx
  cases hB : netB m xs with
  | false =>
    have HB := Lib.hid hB
    clear hB
    go_wp2
    go_ret
    exact ⟨_, rfl, by rw [kindsI, HB.out]; exact Res.nil _ _, hp1⟩
  | true =>
    obtain ⟨M, rfl, h1, h8⟩ := here_nat hB
    have HB := Lib.hid hB
    clear hB
    have b0a := fun (o : Obj) => cell_in ((Past.refl w1).alloc o) b0
    have hlit : (Value.bool false :: Value.bool false :: Value.bool false :: Value.bool false :: Value.bool false :: Value.bool false :: Value.bool false :: Value.bool false :: Value.bool false :: Value.bool false :: Value.bool false :: Value.bool false :: Value.bool false :: Value.bool false :: Value.bool false :: Value.bool false :: Value.bool false :: Value.bool false :: Value.bool false :: Value.bool false :: Value.bool false :: Value.bool false :: Value.bool false :: Value.bool false :: Value.bool false :: Value.bool false :: Value.bool false :: Value.bool false :: Value.bool false :: Value.bool false :: Value.bool false :: Value.bool false :: Value.bool false :: Value.bool false :: Value.bool false :: Value.bool false :: Value.bool false :: Value.bool false :: Value.bool false :: Value.bool false :: Value.bool false :: Value.bool false :: Value.bool false :: Value.bool false :: Value.bool false :: Value.bool false :: Value.bool false :: Value.bool false :: Value.bool false :: Value.bool false :: Value.bool false :: Value.bool false :: Value.bool false :: Value.bool false :: Value.bool false :: Value.bool false :: Value.bool false :: Value.bool false :: Value.bool false :: Value.bool false :: Value.bool false :: Value.bool false :: Value.bool false :: Value.bool false :: []).toArray = (List.replicate 64 (Value.bool false)).toArray := rfl
    go_upto_region 4 with (fail)
    clear hlit b0a
    obtain ⟨W0, hW0⟩ : ∃ W0, W0 = w1.alloc (.cells (List.replicate 64 (Value.bool false)).toArray 83) := ⟨_, rfl⟩
    have hp0 : Past w1 W0 := by rw [hW0]; exact (Past.refl _).alloc _
    have hG0 : GridJ w1 w1.heap.size (gridTo M xs 0 0) W0 := by
      refine ⟨fun i k h1 h2 => ?_, fun o => ?_, hp0, Nat.le_refl _⟩
      · rw [hW0, cell_of_row _ _ _ _ _ _ (heap_alloc_new w1 _), gridTo_zero]
        rw [List.getElem?_toArray, List.getElem?_replicate, if_pos (by omega)]
      · rw [hW0]; exact RowN.frozen (t := 83) (n := 64) ⟨_, heap_alloc_new w1 _, by simp⟩ o
    rw [← hW0]
    have b0W := cell_in hp0 b0
    clear hW0
    have hmk := makeInt M (by omega)
    go_wp2
    clear b0W
    go_loopw [4, 12] (fun _ i wr => ∃ k : Nat, k ≤ M ∧ i = .int .i64 k ∧ GridJ w1 w1.heap.size (gridTo M xs k 0) wr) (fun _ i _ => M - (intOf i).toNat)
    case atStart => exact ⟨0, by omega, rfl, hG0⟩
    case round =>
      obtain ⟨k, hk, rfl, hJ⟩ := hrel
      have c0 := cell_in hJ.past b0
      have c1 := cell_in hJ.past b1
      by_cases hlt : k < M
      · have i0 : (0 : Int) ≤ (k : Int) := by omega
        have i1 : (k : Int) < (M : Int) := by omega
        have hH : hereB (M : Int) xs (k : Int) = true := (hereB_iff _ _ _).2 ⟨HB.out, i0, i1⟩
        have hds : nearI (M : Int) xs (k : Int) = nearL M xs (k : Int) := by rw [nearI, if_pos hH, Int.toNat_natCast]
        have hdl : (nearL M xs (k : Int)).length = M := nearL_length _ _ _
        have HDS := Lib.hid hds
        have HDL := Lib.hid hdl
        have hlt1 := hJ.lt
        obtain ⟨W4, hW4⟩ : ∃ W4, W4 = wr.alloc (.cells #[.int .i64 (k : Int)] 3) := ⟨_, rfl⟩
        have hp4 : Past wr W4 := by rw [hW4]; exact (Past.refl _).alloc _
        have f0 : W4.cell? ⟨wr.heap.size, 0, none⟩ = some (.int .i64 (k : Int)) := by rw [hW4]; go_simp
        have hs4 : W4.heap.size = wr.heap.size + 1 := by rw [hW4]; simp
        have hJ4 := hJ.later hp4
        have c0A := fun (o : Obj) => cell_in ((Past.refl wr).alloc o) c0
        have c1A := fun (o : Obj) => cell_in ((Past.refl wr).alloc o) c1
        have HW4 := Lib.hid hW4
        clear hH hds hdl hW4
        go_wp2_with fail
        rw [← HW4.out]
        clear HW4 c0A c1A
        refine (traverse_any 73 #[.pointer (some ⟨w1.heap.size, 0, none⟩), .pointer (some ⟨wr.heap.size, 0, none⟩)] (M : Int) A n c xs (k : Int) 99999 _ (enters_of Try.func73 (by kernel_rfl) rfl) hn HX.out ((hx1.below hJ.past).below hp4) (nearL M xs (k : Int)) HDS.out
          (fun _ j W => GridJ w1 w1.heap.size (gridTo M xs k j) W ∧ W.cell? ⟨wr.heap.size, 0, none⟩ = some (.int .i64 (k : Int)))
          (fun W hW => ⟨hJ4.later hW, cell_in hW f0⟩)
          (fun B j W hW hj hno => ⟨hW.1.eq (fun a c _ _ => (gridTo_miss (fun h => (rchB_no _ _).1 hno ⟨h, by omega⟩) a c).symm), hW.2⟩)
          (fun B j W _ _ hj hW hyes => (reachParts1_any k j _ _ _ _ w1 W hW.1 hW.2 (by omega) (by have := HDL.out; omega)).mono (by
            rintro e W' ⟨rfl, rfl⟩
            have hj8 : j < 8 := by have := HDL.out; omega
            refine ⟨rfl, ⟨(hW.1.set (show k < 8 by omega) hj8).eq (fun a c _ _ => gridTo_hit ((rchB_iff _ _).1 hyes).1 a c), (World.cell?_setCell_other _ _ _ _ (by intro e; injection e; omega)).trans hW.2⟩, Mid.set (.inl (by omega))⟩))).mono ?_
        rintro e w4 ⟨rfl, B, _, _, hJ5, _⟩
        rw [HDL.out] at hJ5
        have hJ6 : GridJ w1 w1.heap.size (gridTo M xs (k + 1) 0) w4 := hJ5.eq (fun a c _ _ => gridTo_full M xs k a c)
        clear hJ5 hJ4 hJ
        go_wp2
        go_roundw
        case rel => exact ⟨k + 1, by omega, by go_num, hJ6⟩
        case measure => simp [intOf]; omega
      · obtain rfl : k = M := by omega
        obtain ⟨kL, hkL⟩ : ∃ kL, kL = (List.range k).map fun i => (kindI k xs i : Int) := ⟨_, rfl⟩
        have hkl : kL.length = k := by rw [hkL]; simp
        have hkat : ∀ i, i < k → kL[i]? = some (kindI k xs i : Int) := fun i hi => by rw [hkL]; simp [hi]
        have hki : kindsI (k : Int) xs = kL := by rw [kindsI, if_pos HB.out, Int.toNat_natCast, hkL]
        have hx := arcsIn_net HB.out
        have hgb : ∀ a c, a < k → c < k → (gridTo k xs k 0 a c && gridTo k xs k 0 c a) = bothB k xs a c := fun a c ha hc => by rw [gridTo_all ha hc, gridTo_all hc ha]; rfl
        have hbl := hJ.lt
        obtain ⟨G, hG⟩ : ∃ G, G = wr.heap.size := ⟨_, rfl⟩
        obtain ⟨W7, hW7⟩ : ∃ W7, W7 = wr.alloc (.cells (madeCells #[.int .i64 0] k) 3) := ⟨_, rfl⟩
        have hp7 : Past wr W7 := by rw [hW7]; exact (Past.refl _).alloc _
        have hm7 : MadeI W7 G 3 k kL 0 := by rw [hW7, hG]; exact MadeI.start wr 3 k kL (madeCells #[.int .i64 0] k) (by simp [size_madeCells])
        have hz7 : ∀ j, 0 ≤ j → j < k → W7.cell? ⟨G, j, none⟩ = some (.int .i64 0) := fun j _ hj => by
          rw [hW7, hG, cell_of_row _ _ _ _ _ _ (heap_alloc_new wr _), zeros_made k (by omega), List.getElem?_toArray, List.getElem?_replicate, if_pos hj]
        have hJ7 := hJ.later hp7
        have hG1 : w1.heap.size < G := by rw [hG]; exact hbl
        have HW7 := Lib.hid hW7
        have HG := Lib.hid hG
        have HKL := Lib.hid hkl
        have HKA := Lib.hid hkat
        have HKI := Lib.hid hki
        have HGB := Lib.hid hgb
        have HXX := Lib.hid hx
        clear hkL hkl hkat hki hx hgb hG hW7 hJ hp7
        go_wp2_with fail
        rw [← HW7.out, ← HG.out]
        go_loopw [6, 25] (fun _ i wy => ∃ q : Nat, q ≤ k ∧ i = .int .i64 q ∧ MadeI wy G 3 k kL q ∧ (∀ j, q ≤ j → j < k → wy.cell? ⟨G, j, none⟩ = some (.int .i64 0)) ∧ GridJ w1 w1.heap.size (gridTo k xs k 0) wy) (fun _ i _ => k - (intOf i).toNat)
        case atStart => exact ⟨0, by omega, rfl, hm7, hz7, hJ7⟩
        case round =>
          clear hm7 hz7 hJ7 HW7
          obtain ⟨q, hq, rfl, hm, hz, hJ⟩ := hrel
          by_cases hqk : q < k
          · have hq0 := hz q (Nat.le_refl _) hqk
            have q0 : (0 : Int) ≤ (q : Int) := by omega
            have q1 : (q : Int) < (k : Int) := by omega
            have q8 : (q : Int) < 8 := by omega
            have hkq := kindI_lt (by omega) HXX.out hqk
            go_wp2
            go_loopg [] (kindI k xs q) (fun gh wz => ∃ c : Nat, c + gh = kindI k xs q ∧ MadeI wz G 3 k kL q ∧ (∀ j, q < j → j < k → wz.cell? ⟨G, j, none⟩ = some (.int .i64 0)) ∧ wz.cell? ⟨G, q, none⟩ = some (.int .i64 (c : Int)) ∧ GridJ w1 w1.heap.size (gridTo k xs k 0) wz)
            case atStart => exact ⟨0, by omega, hm, fun j h1 h2 => hz j (by omega) h2, hq0, hJ⟩
            case round =>
              clear hm hz hJ hq0
              obtain ⟨e, hek, hm, hz, hcq, hJ⟩ := hrel
              have he : e < k := by omega
              have e0 : (0 : Int) ≤ (e : Int) := by omega
              have e1 : (e : Int) < 8 := by omega
              have hc1 := hJ.cell q e (by omega) (by omega)
              have hc2 := hJ.cell e q (by omega) (by omega)
              have hb := HGB.out q e hqk he
              obtain ⟨x, hx⟩ : ∃ x, x = gridTo k xs k 0 q e := ⟨_, rfl⟩
              obtain ⟨y, hy⟩ : ∃ y, y = gridTo k xs k 0 e q := ⟨_, rfl⟩
              rw [← hx] at hc1 hb
              rw [← hy] at hc2 hb
              have zq := hm.1.frozen q
              have hM2 := hm.put (.int .i64 ((e : Int) + 1))
              have HM := Lib.hid hm
              have HZ := Lib.hid hz
              have HJ := Lib.hid hJ
              have HB := Lib.hid hb
              have s1 : IntKind.i64.wrap ((e : Int) + 1) = (e : Int) + 1 := IntWalk.i64_in _ (by omega)
              clear hx hy hM2 hm hz hJ hb
              by_cases hxy : x = true ∧ y = true
              · obtain ⟨rfl, rfl⟩ := hxy
                have hke : kindI k xs q = e := by
                  have h1 : kindI k xs q ≤ e := firstB_here he (by rw [← HB.out]; rfl)
                  omega
                have HKE : Hid (kL[q]? = some (e : Int)) := by rw [Hid, HKA.out q hqk, hke]
                clear hke
                go_wp2_with fail
                go_quiet (fail)
                go_wp2
                go_roundw
                case rel => exact ⟨q + 1, by omega, by go_num, (HM.out.one HKE.out hcq).below ((Past.refl _).drewN _), fun j h1 h2 => cell_in ((Past.refl _).drewN _) (HZ.out j (by omega) h2), HJ.out.drewN _⟩
                case measure => simp [intOf]; omega
              · have hne : e ≠ kindI k xs q := fun h => by
                  have h1 := firstB_yes (bothB k xs q) k (by show kindI k xs q < k; omega)
                  rw [show firstB (bothB k xs q) k = e from h.symm, ← HB.out] at h1
                  apply hxy
                  simpa using h1
                obtain ⟨g2, rfl⟩ : ∃ g2, gk = g2 + 1 := ⟨gk - 1, by omega⟩
                cases x with
                | false =>
                  clear hxy hne
                  go_wp2_with fail
                  go_quiet (fail)
                  obtain ⟨W2, hW2⟩ : ∃ W2, W2 = wr.drewN nq := ⟨_, rfl⟩
                  have hcq : W2.cell? ⟨G, q, none⟩ = some (.int .i64 (e : Int)) := by rw [hW2]; exact hcq
                  have zq : W2.frozen? ⟨G, q, none⟩ = false := by rw [hW2]; exact zq
                  have hm2 : MadeI W2 G 3 k kL q := by rw [hW2]; exact HM.out.below ((Past.refl _).drewN _)
                  have hz2 : ∀ j, q < j → j < k → W2.cell? ⟨G, j, none⟩ = some (.int .i64 0) := by rw [hW2]; exact fun j h1 h2 => cell_in ((Past.refl _).drewN _) (HZ.out j h1 h2)
                  have hJ2 : GridJ w1 w1.heap.size (gridTo k xs k 0) W2 := by rw [hW2]; exact HJ.out.drewN _
                  have R1 := Lib.hid (hm2.put (.int .i64 ((e : Int) + 1)))
                  have R2 := Lib.hid (fun j (h1 : q < j) (h2 : j < k) => (World.cell?_setCell_other W2 ⟨G, q, none⟩ ⟨G, j, none⟩ (.int .i64 ((e : Int) + 1)) (by intro e'; injection e'; omega)).trans (hz2 j h1 h2))
                  have R3 := Lib.hid (World.cell?_setCell_same W2 ⟨G, q, none⟩ (.int .i64 ((e : Int) + 1)) hcq)
                  have R4 := Lib.hid (hJ2.far ⟨G, q, none⟩ (.int .i64 ((e : Int) + 1)) (by simp; omega) (by simp; omega))
                  clear hm2 hz2 hJ2
                  go_wp2_with fail
                  rw [← hW2]
                  go_wp2
                  go_roundg g2
                  case measure => omega
                  case rel => exact ⟨e + 1, by omega, R1.out, R2.out, R3.out, R4.out⟩
                | true =>
                  have hyf : y = false := by
                    cases y with
                    | false => rfl
                    | true => exact absurd ⟨rfl, rfl⟩ hxy
                  subst hyf
                  clear hxy hne
                  go_wp2_with fail
                  go_quiet (fail)
                  obtain ⟨W2, hW2⟩ : ∃ W2, W2 = wr.drewN nq := ⟨_, rfl⟩
                  have hcq : W2.cell? ⟨G, q, none⟩ = some (.int .i64 (e : Int)) := by rw [hW2]; exact hcq
                  have zq : W2.frozen? ⟨G, q, none⟩ = false := by rw [hW2]; exact zq
                  have hm2 : MadeI W2 G 3 k kL q := by rw [hW2]; exact HM.out.below ((Past.refl _).drewN _)
                  have hz2 : ∀ j, q < j → j < k → W2.cell? ⟨G, j, none⟩ = some (.int .i64 0) := by rw [hW2]; exact fun j h1 h2 => cell_in ((Past.refl _).drewN _) (HZ.out j h1 h2)
                  have hJ2 : GridJ w1 w1.heap.size (gridTo k xs k 0) W2 := by rw [hW2]; exact HJ.out.drewN _
                  have R1 := Lib.hid (hm2.put (.int .i64 ((e : Int) + 1)))
                  have R2 := Lib.hid (fun j (h1 : q < j) (h2 : j < k) => (World.cell?_setCell_other W2 ⟨G, q, none⟩ ⟨G, j, none⟩ (.int .i64 ((e : Int) + 1)) (by intro e'; injection e'; omega)).trans (hz2 j h1 h2))
                  have R3 := Lib.hid (World.cell?_setCell_same W2 ⟨G, q, none⟩ (.int .i64 ((e : Int) + 1)) hcq)
                  have R4 := Lib.hid (hJ2.far ⟨G, q, none⟩ (.int .i64 ((e : Int) + 1)) (by simp; omega) (by simp; omega))
                  clear hm2 hz2 hJ2
                  go_wp2_with fail
                  rw [← hW2]
                  go_wp2
                  go_roundg g2
                  case measure => omega
                  case rel => exact ⟨e + 1, by omega, R1.out, R2.out, R3.out, R4.out⟩
          · obtain rfl : q = k := by omega
            have hrow := hm.row HKL.out
            have hpf := hp1.trans hJ.past
            go_wp2
            go_ret
            exact ⟨_, rfl, by rw [HKI.out]; exact hrow.res HKL.out (by have := hp1.size; omega) (by omega), hpf⟩

end Go.Proofs.Ytaojognjkiifmac

namespace Go.Proofs.Ytaojognjkiifmac

section
variable {M : Nat} {xs : List ArcD}
theorem bothB_iff (i k : Nat) : bothB M xs i k = true ↔ at_ (nearL M xs (i : Int)) (k : Int) < 99999 ∧ at_ (nearL M xs (k : Int)) (i : Int) < 99999 := by simp [bothB]
theorem near_chain (hM : M ≤ 8) (hx : ArcsIn M xs) {i j k : Nat} (hi : i < M) (hj : j < M) (hk : k < M) (h1 : at_ (nearL M xs (i : Int)) (j : Int) < 99999) (h2 : at_ (nearL M xs (j : Int)) (k : Int) < 99999) : at_ (nearL M xs (i : Int)) (k : Int) < 99999 := by
  have a := nearL_small (m := M) (by omega) hx (s := (i : Int)) (v := (j : Int)) ⟨by omega, by omega⟩ ⟨by omega, by omega⟩ (by omega)
  have b := nearL_small (m := M) (by omega) hx (s := (j : Int)) (v := (k : Int)) ⟨by omega, by omega⟩ ⟨by omega, by omega⟩ (by omega)
  have c := near_tri (m := M) (by omega) hx (s := (i : Int)) (u := (j : Int)) (v := (k : Int)) ⟨by omega, by omega⟩ ⟨by omega, by omega⟩ ⟨by omega, by omega⟩
  omega
theorem both_trans (hM : M ≤ 8) (hx : ArcsIn M xs) {i j k : Nat} (hi : i < M) (hj : j < M) (hk : k < M) (h1 : bothB M xs i j = true) (h2 : bothB M xs j k = true) : bothB M xs i k = true := by
  rw [bothB_iff] at h1 h2 ⊢
  exact ⟨near_chain hM hx hi hj hk h1.1 h2.1, near_chain hM hx hk hj hi h2.2 h1.2⟩
theorem kind_lt (hM : M ≤ 8) (hx : ArcsIn M xs) {i : Nat} (hi : i < M) : kindI M xs i < M := by have := kindI_lt (by omega) hx hi; omega
theorem kind_both (hM : M ≤ 8) (hx : ArcsIn M xs) {i : Nat} (hi : i < M) : bothB M xs i (kindI M xs i) = true := firstB_yes (bothB M xs i) M (kind_lt hM hx hi)
theorem kind_eq (hM : M ≤ 8) (hx : ArcsIn M xs) {i k : Nat} (hi : i < M) (hk : k < M) (h : bothB M xs i k = true) : kindI M xs k = kindI M xs i := by
  have hl := kind_lt hM hx hi
  refine firstB_eq hl (both_trans hM hx hk hi hl (by rw [bothB_comm]; exact h) (kind_both hM hx hi)) (fun j hj => ?_)
  cases hb : bothB M xs k j with
  | false => rfl
  | true =>
    have := firstB_no (bothB M xs i) M j hj
    rw [both_trans hM hx hi hk (by omega) h hb] at this
    cases this
/-- Nodes of one kind reach each other. -/
theorem kind_iff (hM : M ≤ 8) (hx : ArcsIn M xs) {i k : Nat} (hi : i < M) (hk : k < M) : kindI M xs i = kindI M xs k ↔ bothB M xs i k = true := by
  constructor
  · intro h
    have h1 := kind_both hM hx hi
    have h2 := kind_both hM hx hk
    rw [← h, bothB_comm] at h2
    exact both_trans hM hx hi (kind_lt hM hx hi) hk h1 h2
  · intro h; exact (kind_eq hM hx hi hk h).symm
theorem kind_self (hM : M ≤ 8) (hx : ArcsIn M xs) {i : Nat} (hi : i < M) : kindI M xs (kindI M xs i) = kindI M xs i := kind_eq hM hx hi (kind_lt hM hx hi) (kind_both hM hx hi)
theorem both_flip (hM : M ≤ 8) (hx : ArcsIn M xs) {i k : Nat} (hi : i < M) (hk : k < M) : bothB M (xs.map flip) i k = bothB M xs i k := by
  have h1 := near_back (m := M) (by omega) hx (s := (k : Int)) (v := (i : Int)) ⟨by omega, by omega⟩ ⟨by omega, by omega⟩
  have h2 := near_back (m := M) (by omega) hx (s := (i : Int)) (v := (k : Int)) ⟨by omega, by omega⟩ ⟨by omega, by omega⟩
  unfold bothB
  rw [← h1, ← h2, Bool.and_comm]
/-- Turned round all are of the same kinds. -/
theorem kind_flip (hM : M ≤ 8) (hx : ArcsIn M xs) {i : Nat} (hi : i < M) : kindI M (xs.map flip) i = kindI M xs i := by
  have hl := kind_lt hM hx hi
  refine firstB_eq hl (by rw [both_flip hM hx hi hl]; exact kind_both hM hx hi) (fun j hj => ?_)
  rw [both_flip hM hx hi (by omega)]
  exact firstB_no (bothB M xs i) M j hj
end

end Go.Proofs.Ytaojognjkiifmac

namespace Go.Proofs.Ytaojognjkiifmac
open Go.RowKit

theorem clone_nil (c : Nat) (w : World) : Calls Try.prog 74 #[.slice none 0 c] w (GivesArcs w []) := by
  have heq := fun u : World => Lib.run_eql_slice_nil (P := Try.prog) u 28 88 none 0 c 0 0 Try.underlying28
  simp only [Option.isNone_none] at heq
  go_enter Try.func74, Try.ntmps74
  go_wp2
  go_ret
  exact ⟨_, rfl, by unfold ResA; exact ⟨rfl, .inl ⟨rfl, rfl⟩⟩, Below.refl _ _⟩

set_option maxHeartbeats 1000000 in
theorem implNetBack_nil (m : Int) (c : Nat) (w : World) :
    Calls Try.prog 39 #[.agg #[.int .i64 m, .slice none 0 c]] w (GivesNet w (backN m []) (backL m [])) := by
  have hx : ArcsAt w none [] := fun k a hk => by simp at hk
  have hb0 : Past w ((w.alloc (.cells #[.int .i64 m, .slice none 0 c] 30)).alloc (.cells #[.int .i64 0, .slice none 0 0] 30)) := ((Past.refl _).alloc _).alloc _
  go_enter Try.func39, Try.ntmps39
  go_wp2_with fail
  refine (implNetOk_any m _ 0 c [] _ (by omega) rfl (hx.below hb0)).mono ?_
  rintro e w1 ⟨rfl, hb1⟩
  have b0 := cell_in (p := ⟨w.heap.size, 0, none⟩) (v := .int .i64 m) hb1 (by go_simp)
  have b1 := cell_in (p := ⟨w.heap.size, 1, none⟩) (v := .slice none 0 c) hb1 (by go_simp)
  have e0 := cell_in (p := ⟨w.heap.size + 1, 0, none⟩) (v := .int .i64 0) hb1 (by go_simp)
  have e1 := cell_in (p := ⟨w.heap.size + 1, 1, none⟩) (v := .slice none 0 0) hb1 (by go_simp)
  have z0 := free_in (p := ⟨w.heap.size + 1, 0, none⟩) (v := .int .i64 0) hb1 (by go_simp) (by go_simp)
  have z1 := free_in (p := ⟨w.heap.size + 1, 1, none⟩) (v := .slice none 0 0) hb1 (by go_simp) (by go_simp)
  cases hB : netB m [] with
  | false =>
    have HB := Lib.hid hB
    clear hB
    go_wp2
    exact bodyPost_ret (v := .agg #[.int .i64 0, .slice none 0 0]) (by simp [results, Try.results39, go_sem, e0, e1]) rfl
      ⟨none, 0, by simp [backN, backL, HB.out], by simp only [backL, HB.out, Bool.false_eq_true, if_false]; exact fun k a hk => by simp at hk, by simp only [backL, HB.out, Bool.false_eq_true, if_false]; exact .inl ⟨rfl, rfl⟩, Below.setCell (Below.setCell (bel_trans hb0 hb1) (by simp) _) (by simp) _⟩
  | true =>
    have HB := Lib.hid hB
    clear hB
    have nb0 := World.new_ne w1 _ b0
    have nb1 := World.new_ne w1 _ b1
    go_upto_region 3 with (fail)
    go_cut [3] (BackCut w1 m 0 [])
    case first =>
      go_region_held3 (fun w' => w'.cell? ⟨w.heap.size, 0, none⟩ = some (.int .i64 m) ∧ w'.cell? ⟨w.heap.size, 1, none⟩ = some (.slice none 0 c)) (go_keep)
        (first
          | (go_at_call 74; refine (clone_nil c _).mono ?_; rintro e w2 ⟨v, rfl, hv, hb2⟩; obtain ⟨A2, c2, rfl, hx2, ho2⟩ := hv.formN (n := 0) rfl; have b0 := cell_in hb2 b0; have b1 := cell_in hb2 b1)
          | (go_at_call 74; refine (clone_nil c _).mono ?_; rintro e w2 ⟨v, rfl, hv, hb2⟩; obtain ⟨A2, c2, rfl, hx2, ho2⟩ := hv.formN (n := 0) rfl; have b0 := cell_in hb2 (cell_in ((Past.refl w1).alloc (.cells #[.int .i64 0, .slice none 0 0] 30)).drew b0); have b1 := cell_in hb2 (cell_in ((Past.refl w1).alloc (.cells #[.int .i64 0, .slice none 0 0] 30)).drew b1); have p0 := cell_in (p := ⟨w1.heap.size, 0, none⟩) (v := .int .i64 0) hb2 (by go_simp); have p1 := cell_in (p := ⟨w1.heap.size, 1, none⟩) (v := .slice none 0 0) hb2 (by go_simp); have y0 := free_in (p := ⟨w1.heap.size, 0, none⟩) (v := .int .i64 0) hb2 (by go_simp) (by go_simp); have y1 := free_in (p := ⟨w1.heap.size, 1, none⟩) (v := .slice none 0 0) hb2 (by go_simp) (by go_simp)))
      all_goals go_wp2_with fail
      all_goals go_meet
      · have hb12 : Past w1 w2 := (Past.refl w1).drew.trans hb2
        exact ⟨w2.heap.size, A2, c2, rfl, hb2.size, ⟨_, heap_alloc_new w2 _, rfl⟩, by go_simp, by go_simp, hx2.below ((Past.refl w2).alloc _), OwnAt.keep ho2 (grown_of_below ((Past.refl w2).alloc _) none) (by simp), ho2.ne_new, hb12.alloc _⟩
      · have hbA : Past w1 (w1.alloc (.cells #[.int .i64 0, .slice none 0 0] 30)).drew := ((Past.refl w1).alloc _).drew
        have hb12 : Past w1 w2 := hbA.trans hb2
        have hr : RowN w2 w1.heap.size 30 2 := RowN.keep (w := (w1.alloc (.cells #[.int .i64 0, .slice none 0 0] 30)).drew) ⟨_, heap_alloc_new w1 _, rfl⟩ (hb2.block _ (by simp))
        have hne : blk A2 ≠ some w1.heap.size := ho2.ne_blk (by simp)
        refine ⟨w1.heap.size, A2, c2, rfl, Nat.le_refl _, (hr.set _ _).set _ _, ?_, ?_, (hx2.far _ _ hne).far _ _ hne, ((ho2.lower (by simp)).far _ _).far _ _, hne, Below.setCell (Below.setCell hb12 (by simp) _) (by simp) _⟩
        · exact (World.cell?_setCell_other _ _ _ _ (by simp)).trans (World.cell?_setCell_same _ _ _ p0)
        · exact World.cell?_setCell_same _ _ _ ((World.cell?_setCell_other _ _ _ _ (by simp)).trans p1)
    case rest =>
      obtain ⟨p, A2, c2, rfl, hp, hrp, q0, q1, hx2, ho2, hne, hb12⟩ := hcut
      have sw : w.heap.size + 1 < w1.heap.size := lt_of_cell e0
      have b0 := cell_in hb12 b0
      have b1 := cell_in hb12 b1
      have r1 : RowN wc (w.heap.size + 1) 30 2 := by
        refine RowN.keep (w := w1) (RowN.keep (w := ((w.alloc (.cells #[.int .i64 m, .slice none 0 c] 30)).alloc (.cells #[.int .i64 0, .slice none 0 0] 30))) ⟨#[.int .i64 0, .slice none 0 0], ?_, rfl⟩ (hb1.block _ (by simp))) (hb12.block _ sw)
        have := heap_alloc_new (w.alloc (.cells #[.int .i64 m, .slice none 0 c] 30)) (.cells #[.int .i64 0, .slice none 0 0] 30)
        simpa using this
      have hb0c : Past w wc := hb0.trans (Past.trans hb1 hb12)
      clear e0 e1 z0 z1 nb0 nb1
      obtain ⟨x0, e0⟩ := r1.cell (i := 0) (by omega)
      obtain ⟨x1, e1⟩ := r1.cell (i := 1) (by omega)
      have z0 := r1.frozen 0
      have z1 := r1.frozen 1
      have hne2 : blk A2 ≠ some (w.heap.size + 1) := ho2.ne_blk sw
      go_wp2
      go_loop [19] (fun q => q = .int .i64 0) (fun _ => 0)
      case atStart => rfl
      case round =>
        subst hrel
        go_wp2
        exact bodyPost_ret (v := .agg #[.int .i64 m, .slice A2 0 c2]) (by simp [results, Try.results39, go_sem, e0, e1]) rfl
          ⟨A2, c2, by simp [backN, backL, HB.out], by rw [backL, if_pos HB.out]; exact fun k a hk => by simp at hk, by rw [backL, if_pos HB.out, List.length_map]; exact ((ho2.lower (by omega)).far _ _).far _ _, Below.setCell (Below.setCell hb0c (by simp) _) (by simp) _⟩

theorem implNetBack_all (m : Int) (A : Option Addr) (n c : Nat) (xs : List ArcD) (w : World) (hn : n ≤ 1048576) (hl : xs.length = n) (hx : ArcsAt w A xs) (ho : (A = none ∧ n = 0) ∨ ∃ g o, A = some ⟨g, o, none⟩) :
    Calls Try.prog 39 #[.agg #[.int .i64 m, .slice A n c]] w (GivesNet w (backN m xs) (backL m xs)) := by
  rcases ho with ⟨rfl, rfl⟩ | ⟨g, o, rfl⟩
  · obtain rfl : xs = [] := List.eq_nil_of_length_eq_zero hl
    exact implNetBack_nil m c w
  · exact implNetBack_any m g o n c xs w hn hl hx

end Go.Proofs.Ytaojognjkiifmac

namespace Go.Proofs.Ytaojognjkiifmac
open Go.RowKit

theorem flip_flip' (a : ArcD) : flip (flip a) = a := rfl
theorem arcB_flip' {m : Int} {a : ArcD} (h : arcB m a = true) : arcB m (flip a) = true := by
  unfold arcB at h ⊢
  unfold flip
  simp only [Bool.and_eq_true, Bool.not_eq_true', beq_eq_false_iff_ne] at h ⊢
  exact ⟨h.2.1, h.1, fun e => h.2.2.1 e.symm, h.2.2.2⟩
theorem netB_flip' {m : Int} {xs : List ArcD} (h : netB m xs = true) : netB m (xs.map flip) = true := by
  obtain ⟨h1, h2, h3⟩ := (netB_iff _ _).1 h
  refine (netB_iff _ _).2 ⟨h1, by rw [List.length_map]; exact h2, fun a ha => ?_⟩
  obtain ⟨b, hb, rfl⟩ := List.mem_map.1 ha
  exact arcB_flip' (h3 b hb)
/-- What it costs from each to a node. -/
def nearTI (m : Int) (xs : List ArcD) (s : Int) : List Int := if hereB m xs s then nearL m.toNat (xs.map flip) s else []
theorem nearTI_back (m : Int) (xs : List ArcD) (s : Int) : nearI (backN m xs) (backL m xs) s = nearTI m xs s := by
  unfold nearI nearTI backN backL hereB
  cases hB : netB m xs with
  | true => simp only [if_true, netB_flip' hB]
  | false =>
    have : netB 0 [] = false := by decide
    simp [this]
theorem nearTI_len (m : Int) (xs : List ArcD) (s : Int) : (nearTI m xs s).length ≤ 1048576 := by
  rw [← nearTI_back]
  exact nearI_len _ _ _


set_option maxHeartbeats 1000000 in
theorem implNearTo_all (m : Int) (A : Option Addr) (n c : Nat) (xs : List ArcD) (s : Int) (w : World) (hn : n ≤ 1048576) (hnx : xs.length = n) (hx : ArcsAt w A xs) (ho : (A = none ∧ n = 0) ∨ ∃ g o, A = some ⟨g, o, none⟩) :
    Calls Try.prog 38 #[.agg #[.int .i64 m, .slice A n c], .int .i64 s] w (Gives w (nearTI m xs s)) := by
  have HX := Lib.hid hnx
  clear hnx
  go_enter Try.func38, Try.ntmps38
  go_wp2_with fail
  have hb0 : Past w (w.alloc (.cells #[.int .i64 m, .slice A n c] 30)) := (Past.refl _).alloc _
  refine (implNetBack_all m A n c xs _ hn HX.out (hx.below hb0) ho).mono ?_
  rintro e w1 ⟨A1, c1, rfl, hx1, _, hb1⟩
  obtain ⟨N1, hN1⟩ : ∃ N1, (backL m xs).length = N1 := ⟨_, rfl⟩
  have h1 : N1 ≤ 1048576 := by have := backL_len m xs; have := HX.out; omega
  rw [hN1]
  have HN1 := Lib.hid hN1
  clear hN1
  go_wp2_with fail
  refine (implNearAll_any (backN m xs) A1 N1 c1 (backL m xs) s _ h1 HN1.out hx1).mono ?_
  rintro e w2 ⟨v2, rfl, hv2, hb2⟩
  go_wp2
  go_ret
  rw [nearTI_back] at hv2
  exact ⟨_, rfl, hv2.lower (Nat.le_trans hb0.size hb1.size), (hb0.trans hb1).trans hb2⟩
theorem implNearTo_any (m : Int) (g n c : Nat) (xs : List ArcD) (s : Int) (w : World) (hn : n ≤ 1048576) (hnx : xs.length = n) (hx : ArcsAt w (some ⟨g, 0, none⟩) xs) :
    Calls Try.prog 38 #[.agg #[.int .i64 m, .slice (some ⟨g, 0, none⟩) n c], .int .i64 s] w (Gives w (nearTI m xs s)) :=
  implNearTo_all m _ n c xs s w hn hnx hx (.inr ⟨_, _, rfl⟩)

end Go.Proofs.Ytaojognjkiifmac

namespace Go.Proofs.Ytaojognjkiifmac
open Go.RowKit

set_option maxRecDepth 100000 in
set_option maxHeartbeats 1000000 in
theorem wkInts_same (A B : Option Addr) (n c c' : Nat) (xs : List Int) (w : World) (hn : n ≤ 1048576) (hl : xs.length = n) (hx : IntsAt w A xs) (hy : IntsAt w B xs) :
    Calls Try.prog 30 #[.slice A n c, .slice B n c'] w fun e w' => e = .returned (.bool true) ∧ Below w.heap.size w w' := by
  go_enter Try.func30, Try.ntmps30
  go_wp2
  go_loopw [5] (fun i wr => ∃ k : Nat, k ≤ n ∧ i = .int .i64 k ∧ Past w wr) (fun i _ => n - (intOf i).toNat)
  case atStart => exact ⟨0, by omega, rfl, Past.refl _⟩
  case round =>
    obtain ⟨k, hk, rfl, hb⟩ := hrel
    by_cases hlt : k < n
    · obtain ⟨x0, ha⟩ : ∃ a, xs[k]? = some a := ⟨_, List.getElem?_eq_getElem (by omega)⟩
      obtain ⟨g, o, rfl, c0⟩ := (hx.below hb) k _ ha
      obtain ⟨g', o', rfl, d0⟩ := (hy.below hb) k _ ha
      have hi : (k : Int) < (n : Int) := by omega
      have h0 : (0 : Int) ≤ (k : Int) := by omega
      clear ha hl
      go_wp2_with fail
      go_quiet (fail)
      go_wp2
      go_roundw
      case rel => exact ⟨k + 1, by omega, by go_num, hb.drewN _⟩
      case measure => simp [intOf]; omega
    · go_wp2
      go_ret
      exact ⟨rfl, hb⟩

end Go.Proofs.Ytaojognjkiifmac

namespace Go.Proofs.Ytaojognjkiifmac
open Go.ChangeShapes Go.WideShapes Go.ChangeAt Go.RowKit

set_option maxRecDepth 100000 in
set_option maxHeartbeats 8000000 in
theorem fnReachParts_walk (A : Option Addr) (n c : Nat) (w : World) (hn : n ≤ c) (hc : c ≤ maxLen) (hb : BytesAt w A n) :
    Calls Try.prog 10 #[.slice A n c] w fun e w' => e = .returned (.bool true) ∧ Below w.heap.size w w' := by
  by_cases h1 : 1048576 < n
  · have h1' : (1048576 : Int) < (n : Int) := by omega
    go_enter Try.func10, Try.ntmps10
    go_wp2
    go_ret
    exact ⟨rfl, Below.refl _ _⟩
  have h1' : ¬ (1048576 : Int) < (n : Int) := by omega
  go_enter Try.func10, Try.ntmps10
  go_wp2_with fail
  refine (drawReachParts_any A n c w hn hc hb).mono ?_
  rintro e w1 ⟨m, B, k, cap, xs, rfl, hxk, hk, hx1, hown1, hb1⟩
  have hform : (B = none ∧ k = 0) ∨ ∃ g o, B = some ⟨g, o, none⟩ := by
    rcases hown1 with h | ⟨g, _, h, _⟩
    · exact .inl h
    · exact .inr ⟨g, 0, h⟩
  clear hown1
  have HX := Lib.hid hxk
  have hkk : k ≤ 1048576 := by omega
  clear hxk hn hc hb
  have hpW : Past w1 (w1.alloc (.cells #[.int .i64 m, .slice B k cap] 30)) := (Past.refl w1).alloc _
  go_wp2_with fail
  refine (implReachParts_any m B k cap xs _ hkk HX.out (hx1.below hpW)).mono ?_
  rintro e w2 ⟨v2, rfl, hv2, hb2⟩
  have b0 := cell_in (p := ⟨w1.heap.size, 0, none⟩) (v := .int .i64 m) hb2 (by go_simp)
  have b1 := cell_in (p := ⟨w1.heap.size, 1, none⟩) (v := .slice B k cap) hb2 (by go_simp)
  have hx2 := (hx1.below hpW).below hb2
  have hp2 : Past w w2 := Past.trans hb1 (hpW.trans hb2)
  obtain ⟨X, cx, rfl, hs2, _⟩ := hv2.form
  obtain ⟨ps, hps⟩ : ∃ ps, ps = kindsI m xs := ⟨_, rfl⟩
  rw [← hps] at hs2 ⊢
  obtain ⟨R, hR⟩ : ∃ R, R = ps.length := ⟨_, rfl⟩
  have hR1 : R ≤ 1048576 := by rw [hR, hps]; exact kindsI_len m xs
  rw [← hR]
  have HPS := Lib.hid hps
  have HR := Lib.hid hR.symm
  clear hps hR hv2 hx1 hb1 hb2 hpW
  go_wp2_with fail
  refine (specReachParts_any m B k cap xs _ hkk HX.out hx2).mono ?_
  rintro e w3 ⟨v3, rfl, hv3, hb3⟩
  obtain ⟨F, cf, rfl, hs3, _⟩ := hv3.form
  rw [← HPS.out] at hs3 ⊢
  rw [HR.out]
  have b0 := cell_in hb3 b0
  have b1 := cell_in hb3 b1
  have hx3 := hx2.below hb3
  have hs23 := hs2.below hb3
  have hp3 := Past.trans hp2 hb3
  clear hv3 hx2 hs2 hb3 hp2
  go_wp2_with fail
  refine (wkInts_same X F R cx cf ps _ hR1 HR.out hs23 hs3).mono ?_
  rintro e w4 ⟨rfl, hb4⟩
  have b0 := cell_in hb4 b0
  have b1 := cell_in hb4 b1
  have hx4 := hx3.below hb4
  have hs4 := hs23.below hb4
  have hp4 := Past.trans hp3 hb4
  clear hx3 hs23 hs3 hb4 hp3
  cases hO : netB m xs with
  | false =>
    obtain rfl : R = 0 := by rw [← HR.out, HPS.out, kindsI, hO]; rfl
    clear hO
    go_wp2_with fail
    refine (specReachParts_any m B k cap xs _ hkk HX.out hx4).mono ?_
    rintro e w6 ⟨v6, rfl, hv6, hb6⟩
    obtain ⟨F, cf, rfl, hs6, _⟩ := hv6.form
    rw [← HPS.out] at hs6 ⊢
    rw [HR.out]
    go_wp2_with fail
    refine (wkInts_same X F 0 cx cf ps _ hR1 HR.out (hs4.below hb6) hs6).mono ?_
    rintro e w7 ⟨rfl, hb7⟩
    go_wp2
    go_ret
    exact ⟨rfl, (Past.trans hp4 hb6).trans hb7⟩
  | true =>
  obtain ⟨M, rfl, hM1, hM8⟩ := here_nat hO
  have hx := arcsIn_net hO
  have hps : ps = (List.range M).map (fun i => (kindI M xs i : Int)) := by rw [HPS.out, kindsI, hO, if_pos rfl, Int.toNat_natCast]
  obtain rfl : M = R := by rw [← HR.out, hps]; simp
  have hat : ∀ i : Nat, i < M → ps[i]? = some ((kindI M xs i : Nat) : Int) := fun i hi => by rw [hps]; simp [hi]
  have hback : kindsI (backN (M : Int) xs) (backL (M : Int) xs) = ps := by
    have h0 : netB (M : Int) (xs.map flip) = true := netB_flip' hO
    rw [backN, backL, if_pos hO, if_pos hO, kindsI, if_pos h0, Int.toNat_natCast, hps]
    refine List.map_congr_left fun i hi => ?_
    rw [kind_flip hM8 hx (by simpa using hi)]
  have hbl : (backL (M : Int) xs).length = k := by rw [backL, if_pos hO, List.length_map, HX.out]
  have hnr : ∀ i : Nat, i < M → nearI (M : Int) xs (i : Int) = nearL M xs (i : Int) := fun i hi => by rw [nearI, if_pos ((hereB_iff _ _ _).2 ⟨hO, by omega, by omega⟩), Int.toNat_natCast]
  have hnt : ∀ i : Nat, i < M → nearTI (M : Int) xs (i : Int) = nearL M (xs.map flip) (i : Int) := fun i hi => by rw [nearTI, if_pos ((hereB_iff _ _ _).2 ⟨hO, by omega, by omega⟩), Int.toNat_natCast]
  have hnb : ∀ i k : Nat, i < M → k < M → (decide (at_ (nearL M xs (i : Int)) (k : Int) < 99999) && decide (at_ (nearL M (xs.map flip) (i : Int)) (k : Int) < 99999)) = decide ((kindI M xs i : Int) = (kindI M xs k : Int)) := fun i k hi hk => by
    rw [← near_back (by omega) hx ⟨by omega, by omega⟩ ⟨by omega, by omega⟩]
    have h := kind_iff hM8 hx hi hk
    rw [show (decide (at_ (nearL M xs (i : Int)) (k : Int) < 99999) && decide (at_ (nearL M xs (k : Int)) (i : Int) < 99999)) = bothB M xs i k from rfl]
    cases hb : bothB M xs i k with
    | true => rw [decide_eq_true (by have := h.2 hb; omega)]
    | false => rw [decide_eq_false (fun e => by have h2 := h.1 (by omega); rw [hb] at h2; cases h2)]
  have hkl : ∀ i : Nat, i < M → kindI M xs i ≤ i ∧ kindI M xs (kindI M xs i) = kindI M xs i := fun i hi => ⟨kindI_lt (by omega) hx hi, kind_self hM8 hx hi⟩
  have HAT := Lib.hid hat
  have HBACK := Lib.hid hback
  have HBL := Lib.hid hbl
  have HNR := Lib.hid hnr
  have HNT := Lib.hid hnt
  have HNB := Lib.hid hnb
  have HKL := Lib.hid hkl
  have hM0 : ¬ (M : Int) = 0 := by omega
  have hM0b : ((M : Int) == 0) = false := by simp; omega
  clear hO hx hps hat hback hbl hnr hnt hnb hkl
  go_wp2
  go_loopw [5, 6, 7, 8] (fun i _ _ _ wr => ∃ q : Nat, q ≤ M ∧ i = .int .i64 q ∧ Past w4 wr) (fun i _ _ _ _ => M - (intOf i).toNat)
  case atStart => exact ⟨0, by omega, rfl, Past.refl _⟩
  case round =>
    obtain ⟨q, hq, rfl, hbr⟩ := hrel
    have b0r := cell_in hbr b0
    have b1r := cell_in hbr b1
    by_cases hlt : q < M
    · have q0 : (0 : Int) ≤ (q : Int) := by omega
      have q1 : (q : Int) < (M : Int) := by omega
      go_wp2_with fail
      refine (implNearAll_any (M : Int) B k cap xs (q : Int) _ hkk HX.out (hx4.below hbr)).mono ?_
      rintro e w5 ⟨v5, rfl, hv5, hb5⟩
      rw [HNR.out q hlt] at hv5
      obtain ⟨D, cd, rfl, hd5, _⟩ := hv5.form
      rw [nearL_length]
      have b0r := cell_in hb5 b0r
      have b1r := cell_in hb5 b1r
      have hbr := Past.trans hbr hb5
      clear hv5 hb5
      go_wp2_with fail
      refine (implNearTo_all (M : Int) B k cap xs (q : Int) _ hkk HX.out (hx4.below hbr) hform).mono ?_
      rintro e w6 ⟨v6, rfl, hv6, hb6⟩
      rw [HNT.out q hlt] at hv6
      obtain ⟨T, ct, rfl, ht6, _⟩ := hv6.form
      rw [nearL_length]
      have b0r := cell_in hb6 b0r
      have b1r := cell_in hb6 b1r
      have hbr := Past.trans hbr hb6
      have hd6 := hd5.below hb6
      clear hv6 hb6 hd5
      go_wp2
      go_loopw [8] (fun i wz => ∃ j : Nat, j ≤ M ∧ i = .int .i64 j ∧ Past w6 wz) (fun i _ => M - (intOf i).toNat)
      case atStart => exact ⟨0, by omega, rfl, Past.refl _⟩
      case round =>
        obtain ⟨j, hj, rfl, hbz⟩ := hrel
        have b0z := cell_in hbz b0r
        have b1z := cell_in hbz b1r
        have hbw := Past.trans hbr hbz
        obtain ⟨x, hx⟩ : ∃ x : Nat, x = kindI M xs q := ⟨_, rfl⟩
        have haq := HAT.out q hlt
        rw [← hx] at haq
        obtain ⟨gX, oX, rfl, cq⟩ := (hs4.below hbw) q _ haq
        by_cases hjM : j < M
        · have haj := HAT.out j hjM
          obtain ⟨y, hy⟩ : ∃ y : Nat, y = kindI M xs j := ⟨_, rfl⟩
          rw [← hy] at haj
          obtain ⟨gX', oX', eX, cj⟩ := (hs4.below hbw) j _ haj
          injection eX with eX
          injection eX with e1 e2
          subst e1 e2
          obtain ⟨u, hu⟩ : ∃ u, u = at_ (nearL M xs (q : Int)) (j : Int) := ⟨_, rfl⟩
          obtain ⟨v, hv⟩ : ∃ v, v = at_ (nearL M (xs.map flip) (q : Int)) (j : Int) := ⟨_, rfl⟩
          obtain ⟨gD, oD, rfl, cu⟩ := (hd6.below hbz) j u (by rw [hu]; exact getElem_at _ j (by rw [nearL_length]; exact hjM))
          obtain ⟨gT, oT, rfl, cv⟩ := (ht6.below hbz) j v (by rw [hv]; exact getElem_at _ j (by rw [nearL_length]; exact hjM))
          have hnb := HNB.out q j hlt hjM
          rw [← hu, ← hv, ← hx, ← hy] at hnb
          have j0 : (0 : Int) ≤ (j : Int) := by omega
          have j1 : (j : Int) < (M : Int) := by omega
          have Cq := past_cell cq
          have Cj := past_cell cj
          have Cu := past_cell cu
          have Cv := past_cell cv
          clear hx hy hu hv haq haj cq cj cu cv
          by_cases hu9 : u < 99999
          · have g1 : decide (u < 99999) = true := decide_eq_true hu9
            by_cases hv9 : v < 99999
            · have g2 : decide (v < 99999) = true := decide_eq_true hv9
              rw [g1, g2] at hnb
              obtain rfl : x = y := by have := of_decide_eq_true hnb.symm; omega
              have g3 : (((x : Nat) : Int) == ((x : Nat) : Int)) = true := by simp
              clear hnb
              go_wp2_with fail
              refine wp_region_past (by kernel_rfl) (by kernel_rfl) ?_
              repeat (go_big_quiet_step (with_reducible exact rfl))
              refine wpQuiet_nil ?_
              rintro _ ⟨⟨W8, hW8⟩, rfl⟩
              go_wp2
              go_roundw
              case rel => exact ⟨j + 1, by omega, by go_num, hbz.trans hW8⟩
              case measure => simp [intOf]; omega
            · have g2 : decide (v < 99999) = false := decide_eq_false hv9
              rw [g1, g2] at hnb
              have hxy : ¬ ((x : Nat) : Int) = ((y : Nat) : Int) := of_decide_eq_false hnb.symm
              have g3 : (((x : Nat) : Int) == ((y : Nat) : Int)) = false := by simpa using hxy
              have g4 : ¬ x = y := by omega
              have g5 : (x == y) = false := by simpa using g4
              clear hnb
              go_wp2_with fail
              refine wp_region_past (by kernel_rfl) (by kernel_rfl) ?_
              repeat (go_big_quiet_step (with_reducible exact rfl))
              refine wpQuiet_nil ?_
              rintro _ ⟨⟨W8, hW8⟩, rfl⟩
              go_wp2
              go_roundw
              case rel => exact ⟨j + 1, by omega, by go_num, hbz.trans hW8⟩
              case measure => simp [intOf]; omega
          · have g1 : decide (u < 99999) = false := decide_eq_false hu9
            rw [g1] at hnb
            have hxy : ¬ ((x : Nat) : Int) = ((y : Nat) : Int) := of_decide_eq_false hnb.symm
            have g3 : (((x : Nat) : Int) == ((y : Nat) : Int)) = false := by simpa using hxy
            have g4 : ¬ x = y := by omega
            have g5 : (x == y) = false := by simpa using g4
            clear hnb
            go_wp2_with fail
            refine wp_region_past (by kernel_rfl) (by kernel_rfl) ?_
            repeat (go_big_quiet_step (with_reducible exact rfl))
            refine wpQuiet_nil ?_
            rintro _ ⟨⟨W8, hW8⟩, rfl⟩
            go_wp2
            go_roundw
            case rel => exact ⟨j + 1, by omega, by go_num, hbz.trans hW8⟩
            case measure => simp [intOf]; omega
        · obtain rfl : j = M := by omega
          obtain ⟨hkle, hks⟩ := HKL.out q hlt
          rw [← hx] at hkle hks
          have hxa := HAT.out x (by omega)
          rw [hks] at hxa
          obtain ⟨gX', oX', eX, cx2⟩ := (hs4.below hbw) x _ hxa
          injection eX with eX
          injection eX with e1 e2
          subst e1 e2
          have x0 : (0 : Int) ≤ (x : Int) := by omega
          have x1 : (x : Int) < (j : Int) := by omega
          have g1 : decide ((q : Int) < (x : Int)) = false := decide_eq_false (by omega)
          have g2 : decide (q < x) = false := decide_eq_false (by omega)
          have g3 : (((x : Nat) : Int) != ((x : Nat) : Int)) = false := by simp
          have Cq := past_cell cq
          have Cx := past_cell cx2
          clear hx haq hxa hks cq cx2
          go_wp2_with fail
          refine wp_region_past (by kernel_rfl) (by kernel_rfl) ?_
          repeat (go_big_quiet_step (with_reducible exact rfl))
          refine wpQuiet_nil ?_
          rintro W8 ⟨pW, hpW⟩
          have hW8 : Past wr W8 := by rw [hpW]; exact pW.h
          clear hpW
          have hbw8 := Past.trans hbw hW8
          go_wp2
          go_roundw
          case rel => exact ⟨q + 1, by omega, by go_num, hbw8⟩
          case measure => simp [intOf]; omega
    · obtain rfl : q = M := by omega
      have hpr := Past.trans hp4 hbr
      go_wp2_with fail
      refine (implNetBack_all (q : Int) B k cap xs _ hkk HX.out (hx4.below hbr) hform).mono ?_
      rintro e w5 ⟨E, ce, rfl, hz5, _, hb5⟩
      rw [HBL.out]
      go_wp2_with fail
      refine (implReachParts_any (backN (q : Int) xs) E k ce (backL (q : Int) xs) _ hkk HBL.out hz5).mono ?_
      rintro e w6 ⟨v6, rfl, hv6, hb6⟩
      rw [HBACK.out] at hv6
      obtain ⟨Z, cz, rfl, hz6, _⟩ := hv6.form
      rw [HR.out]
      go_wp2_with fail
      refine (wkInts_same Z X q cz cx ps _ hR1 HR.out hz6 (((hs4.below hbr).below hb5).below hb6)).mono ?_
      rintro e w7 ⟨rfl, hb7⟩
      go_wp2
      go_ret
      exact ⟨rfl, ((hpr.trans hb5).trans hb6).trans hb7⟩

set_option maxRecDepth 100000 in
theorem fnReachParts_lifted (os : Os) (started : os.Started) (H : Type) (enc : TypeId × Value → H) :
    ReturnsInHanded {} Try.checked os 10 .any (Rows.fnReachPartsSpec.pre6 enc Try.prog Try.f10 Rows.fnReachPartsRow.domain false) (Rows.fnReachPartsSpec.post enc Try.prog Try.f10 false true false false) := by
  refine returnsInHanded_of_change (C := Try.checked) own started (by kernel_rfl) Try.func10
    (ChangeSpec.witness6 (enc := enc) (C := Try.checked) false ⟨#[], #[.slice none 0 0], []⟩ 8 (by kernel_rfl) (by kernel_rfl) (by kernel_rfl) (by kernel_rfl)) ?_
  intro W base args ds gs before hval0 hW hcnd _
  have hval : ∀ (j : Nat) t v, Try.f10.params[j]? = some t → args[j]? = some v → Value.okWide Try.prog W .any base t v := hval0
  have hW' := hW
  obtain ⟨p, q, hA0, hV, rfl, hfz, hnd⟩ := hW
  have hA : DataW.TrodAll enc Try.prog W 0 (fun _ => true) true Try.f10.params.toList args.toList ds p := hA0
  rw [Try.params10] at hA hval
  obtain ⟨v0, vs0, d0, ds0, p0, q0, hargs, rfl, rfl, h0, r0⟩ := trodAll_cons hA
  obtain ⟨rfl, rfl, rfl⟩ := trodAll_nil r0
  obtain rfl : args = #[v0] := by cases args; simp_all
  obtain ⟨rfl, rfl⟩ := trodVars_none hV
  have k0 := h0
  have lt0 := places_lt k0
  obtain ⟨A0, n0, c0, rfl, hn0, hc0, hb0⟩ := open_bytes (hval 0 36 v0 rfl rfl) h0
  clear hA0 hval0
  refine (fnReachParts_walk A0 n0 c0 W hn0 hc0 hb0).mono fun e W' ⟨he, bel⟩ => ?_
  subst he
  exact ⟨_, rfl, _, _, _, [], _, [], hW', trodAll_mk1 (shut_bool Try.underlying4 _), (trodAll_cons_mk (Below.trod laidOut (by kernel_rfl) (of_decide_eq_true (by kernel_rfl)) k0 bel lt0) trodAll_mk0), rfl, bel.frame _, fun h => by cases h⟩

/-- The given statement. -/
theorem fnReachParts_proved : Rows.FnReachPartsSaid :=
  OpenClaim.holds_of_wide 10 Try.f10 rfl rfl rfl rfl rfl rfl rfl ⟨rfl, rfl, rfl, rfl, rfl⟩ rfl rfl rfl rfl rfl (by kernel_rfl) Try.func10 (by kernel_rfl)
    (of_decide_eq_true (by kernel_rfl)) (by unfold Func.isWrapper; first | (rw [if_pos (by decide +kernel)]; kernel_rfl) | (rw [if_neg (by decide +kernel)]; exact ⟨rfl, rfl⟩))
    (fun os started H enc _ => fnReachParts_lifted os started H enc)

end Go.Proofs.Ytaojognjkiifmac
