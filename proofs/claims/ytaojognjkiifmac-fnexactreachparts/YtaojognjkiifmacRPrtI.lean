/-
  Of each node the least that it can reach, and that can reach it, as the program goes: impl.ReachParts. No condition.
-/
import Derived.Deep.LoopGhost
import Derived.Test.YtaojognjkiifmacRFarI
import Derived.Test.YtaojognjkiifmacMadeP
namespace Go.Proofs.Ytaojognjkiifmac
open Go.RowKit

/-- A grid of truths that a function value writes. -/
structure GridJ (w : World) (b : Nat) (g : Nat → Nat → Bool) (W : World) : Prop where
  cell : ∀ i k, i < 8 → k < 8 → W.cell? ⟨b, i * 8 + k, none⟩ = some (.bool (g i k))
  free : ∀ o, W.frozen? ⟨b, o, none⟩ = false
  past : Past w W
  le : w.heap.size ≤ b
theorem GridJ.lt {w W : World} {b : Nat} {g : Nat → Nat → Bool} (h : GridJ w b g W) : b < W.heap.size := lt_of_cell (h.cell 0 0 (by omega) (by omega))
theorem GridJ.later {w W W' : World} {b : Nat} {g : Nat → Nat → Bool} (h : GridJ w b g W) (hp : Past W W') : GridJ w b g W' :=
  ⟨fun i k h1 h2 => cell_in hp (h.cell i k h1 h2), fun o => (hp.frozen (p := ⟨b, o, none⟩) h.lt).trans (h.free o), h.past.trans hp, h.le⟩
theorem GridJ.set {w W : World} {b i k : Nat} {g : Nat → Nat → Bool} (h : GridJ w b g W) (hi : i < 8) (hk : k < 8) : GridJ w b (fun a c => if a = i ∧ c = k then true else g a c) (W.setCell ⟨b, i * 8 + k, none⟩ (.bool true)) := by
  refine ⟨fun a c ha hc => ?_, fun o => by rw [← h.free o]; simp, Below.setCell h.past (p := ⟨b, i * 8 + k, none⟩) h.le _, h.le⟩
  by_cases e : a = i ∧ c = k
  · obtain ⟨rfl, rfl⟩ := e
    rw [if_pos ⟨rfl, rfl⟩]
    exact World.cell?_setCell_same W _ _ (h.cell a c ha hc)
  · rw [if_neg e]
    exact (World.cell?_setCell_other _ _ _ _ (by intro e'; injection e' with _ e'; apply e; omega)).trans (h.cell a c ha hc)
theorem GridJ.eq {w W : World} {b : Nat} {g g' : Nat → Nat → Bool} (h : GridJ w b g W) (e : ∀ i k, i < 8 → k < 8 → g i k = g' i k) : GridJ w b g' W :=
  ⟨fun i k h1 h2 => by rw [← e i k h1 h2]; exact h.cell i k h1 h2, h.free, h.past, h.le⟩

theorem GridJ.far {w W : World} {b : Nat} {g : Nat → Nat → Bool} (h : GridJ w b g W) (p : Addr) (u : Value) (hne : p.block ≠ b) (hle : w.heap.size ≤ p.block) : GridJ w b g (W.setCell p u) :=
  ⟨fun i k h1 h2 => (World.cell?_setCell_other _ _ _ _ (by intro e; apply hne; rw [e])).trans (h.cell i k h1 h2), fun o => by rw [← h.free o]; simp, Below.setCell h.past hle _, h.le⟩
theorem GridJ.drewN {w W : World} {b : Nat} {g : Nat → Nat → Bool} (h : GridJ w b g W) (n : Nat) : GridJ w b g (W.drewN n) := h.later ((Past.refl W).drewN n)

/-- What has been written: all of the first i nodes, and of the next one what leads to the first j. -/
def gridTo (M : Nat) (xs : List ArcD) (i j a k : Nat) : Bool := if a < i then decide (k < M) && decide (at_ (nearL M xs (a : Int)) (k : Int) < 99999) else if a = i then decide (k < j) && decide (at_ (nearL M xs (a : Int)) (k : Int) < 99999) else false
theorem gridTo_full (M : Nat) (xs : List ArcD) (i a k : Nat) : gridTo M xs i M a k = gridTo M xs (i + 1) 0 a k := by
  unfold gridTo
  by_cases h1 : a < i
  · rw [if_pos h1, if_pos (by omega)]
  · rw [if_neg h1]
    by_cases h2 : a = i
    · rw [if_pos h2, if_pos (by omega)]
    · rw [if_neg h2, if_neg (by omega)]; simp
theorem gridTo_zero (M : Nat) (xs : List ArcD) (a k : Nat) : gridTo M xs 0 0 a k = false := by simp [gridTo]
theorem gridTo_miss {M : Nat} {xs : List ArcD} {i j : Nat} (h : ¬ at_ (nearL M xs (i : Int)) (j : Int) < 99999) (a k : Nat) : gridTo M xs i (j + 1) a k = gridTo M xs i j a k := by
  unfold gridTo
  by_cases h1 : a < i
  · rw [if_pos h1, if_pos h1]
  · rw [if_neg h1, if_neg h1]
    by_cases h2 : a = i
    · rw [if_pos h2, if_pos h2]
      by_cases h3 : k = j
      · subst h2 h3; rw [decide_eq_false h]; simp
      · have : decide (k < j + 1) = decide (k < j) := by simp; omega
        rw [this]
    · rw [if_neg h2, if_neg h2]
theorem gridTo_hit {M : Nat} {xs : List ArcD} {i j : Nat} (h : at_ (nearL M xs (i : Int)) (j : Int) < 99999) (a k : Nat) : (if a = i ∧ k = j then true else gridTo M xs i j a k) = gridTo M xs i (j + 1) a k := by
  unfold gridTo
  by_cases h0 : a = i ∧ k = j
  · obtain ⟨rfl, rfl⟩ := h0
    simp [h]
  · rw [if_neg h0]
    by_cases h1 : a < i
    · rw [if_pos h1, if_pos h1]
    · rw [if_neg h1, if_neg h1]
      by_cases h2 : a = i
      · rw [if_pos h2, if_pos h2]
        have : decide (k < j + 1) = decide (k < j) := by simp; omega
        rw [this]
      · rw [if_neg h2, if_neg h2]
theorem gridTo_all {M : Nat} {xs : List ArcD} {a k : Nat} (ha : a < M) (hk : k < M) : gridTo M xs M 0 a k = decide (at_ (nearL M xs (a : Int)) (k : Int) < 99999) := by
  simp [gridTo, ha, hk]

theorem zeros_made (n : Nat) (hn : n ≤ 8) : madeCells #[.int .i64 0] n = (List.replicate n (Value.int .i64 0)).toArray := by
  have h : n = 0 ∨ n = 1 ∨ n = 2 ∨ n = 3 ∨ n = 4 ∨ n = 5 ∨ n = 6 ∨ n = 7 ∨ n = 8 := by omega
  rcases h with rfl | rfl | rfl | rfl | rfl | rfl | rfl | rfl | rfl
  all_goals (simp [madeCells, Array.range, List.replicate]; try rfl)

set_option maxRecDepth 100000 in
set_option maxHeartbeats 1000000 in
theorem reachParts1_any (i k : Nat) (z : Int) (bx fb : Nat) (g : Nat → Nat → Bool) (w W : World) (h : GridJ w bx g W) (hc : W.cell? ⟨fb, 0, none⟩ = some (.int .i64 (i : Int))) (hi : i < 8) (hk : k < 8) :
    Calls Try.prog 73 #[.int .i64 (k : Int), .int .i64 z, .pointer (some ⟨bx, 0, none⟩), .pointer (some ⟨fb, 0, none⟩)] W fun e W' => e = .returned (.tuple #[]) ∧ W' = W.setCell ⟨bx, i * 8 + k, none⟩ (.bool true) := by
  have c0 := h.cell i k hi hk
  have f0 := h.free (i * 8 + k)
  have i0 : (0 : Int) ≤ (i : Int) := by omega
  have i1 : (i : Int) < 8 := by omega
  have k0 : (0 : Int) ≤ (k : Int) := by omega
  have k1 : (k : Int) < 8 := by omega
  go_enter Try.func73, Try.ntmps73
  go_wp2
  go_end0
  exact ⟨rfl, rfl⟩

set_option maxRecDepth 100000 in
set_option maxHeartbeats 4000000 in
theorem implReachParts_any (m : Int) (A : Option Addr) (n c : Nat) (xs : List ArcD) (w : World) (hn : n ≤ 1048576) (hnx : xs.length = n) (hx : ArcsAt w A xs) :
    Calls Try.prog 36 #[.agg #[.int .i64 m, .slice A n c]] w (Gives w (kindsI m xs)) := by
  have HX := Lib.hid hnx
  clear hnx
  have hb0 : Past w (w.alloc (.cells #[.int .i64 m, .slice A n c] 30)) := (Past.refl _).alloc _
  go_enter Try.func36, Try.ntmps36
  go_wp2_with fail
  refine (implNetOk_any m A n c xs _ hn HX.out (hx.below hb0)).mono ?_
  rintro e w1 ⟨rfl, hb1⟩
  have b0 := cell_in (p := ⟨w.heap.size, 0, none⟩) (v := .int .i64 m) hb1 (by go_simp)
  have b1 := cell_in (p := ⟨w.heap.size, 1, none⟩) (v := .slice A n c) hb1 (by go_simp)
  have hp1 := hb0.trans hb1
  have hx1 := hx.below hp1
  clear hb0 hb1 hx
  cases hB : netB m xs with
  | false =>
    have HB := Lib.hid hB
    clear hB
    go_wp2
    go_ret
    exact ⟨_, rfl, by rw [kindsI, HB.out]; exact Res.nil _ _, hp1⟩
  | true =>
    obtain ⟨M, rfl, h1, h8⟩ := here_nat hB
    have HB := Lib.hid hB
    clear hB
    have b0a := fun (o : Obj) => cell_in ((Past.refl w1).alloc o) b0
    have hlit : (Value.bool false :: Value.bool false :: Value.bool false :: Value.bool false :: Value.bool false :: Value.bool false :: Value.bool false :: Value.bool false :: Value.bool false :: Value.bool false :: Value.bool false :: Value.bool false :: Value.bool false :: Value.bool false :: Value.bool false :: Value.bool false :: Value.bool false :: Value.bool false :: Value.bool false :: Value.bool false :: Value.bool false :: Value.bool false :: Value.bool false :: Value.bool false :: Value.bool false :: Value.bool false :: Value.bool false :: Value.bool false :: Value.bool false :: Value.bool false :: Value.bool false :: Value.bool false :: Value.bool false :: Value.bool false :: Value.bool false :: Value.bool false :: Value.bool false :: Value.bool false :: Value.bool false :: Value.bool false :: Value.bool false :: Value.bool false :: Value.bool false :: Value.bool false :: Value.bool false :: Value.bool false :: Value.bool false :: Value.bool false :: Value.bool false :: Value.bool false :: Value.bool false :: Value.bool false :: Value.bool false :: Value.bool false :: Value.bool false :: Value.bool false :: Value.bool false :: Value.bool false :: Value.bool false :: Value.bool false :: Value.bool false :: Value.bool false :: Value.bool false :: Value.bool false :: []).toArray = (List.replicate 64 (Value.bool false)).toArray := rfl
    go_upto_region 4 with (fail)
    clear hlit b0a
    obtain ⟨W0, hW0⟩ : ∃ W0, W0 = w1.alloc (.cells (List.replicate 64 (Value.bool false)).toArray 83) := ⟨_, rfl⟩
    have hp0 : Past w1 W0 := by rw [hW0]; exact (Past.refl _).alloc _
    have hG0 : GridJ w1 w1.heap.size (gridTo M xs 0 0) W0 := by
      refine ⟨fun i k h1 h2 => ?_, fun o => ?_, hp0, Nat.le_refl _⟩
      · rw [hW0, cell_of_row _ _ _ _ _ _ (heap_alloc_new w1 _), gridTo_zero]
        rw [List.getElem?_toArray, List.getElem?_replicate, if_pos (by omega)]
      · rw [hW0]; exact RowN.frozen (t := 83) (n := 64) ⟨_, heap_alloc_new w1 _, by simp⟩ o
    rw [← hW0]
    have b0W := cell_in hp0 b0
    clear hW0
    have hmk := makeInt M (by omega)
    go_wp2
    clear b0W
    go_loopw [4, 12] (fun _ i wr => ∃ k : Nat, k ≤ M ∧ i = .int .i64 k ∧ GridJ w1 w1.heap.size (gridTo M xs k 0) wr) (fun _ i _ => M - (intOf i).toNat)
    case atStart => exact ⟨0, by omega, rfl, hG0⟩
    case round =>
      obtain ⟨k, hk, rfl, hJ⟩ := hrel
      have c0 := cell_in hJ.past b0
      have c1 := cell_in hJ.past b1
      by_cases hlt : k < M
      · have i0 : (0 : Int) ≤ (k : Int) := by omega
        have i1 : (k : Int) < (M : Int) := by omega
        have hH : hereB (M : Int) xs (k : Int) = true := (hereB_iff _ _ _).2 ⟨HB.out, i0, i1⟩
        have hds : nearI (M : Int) xs (k : Int) = nearL M xs (k : Int) := by rw [nearI, if_pos hH, Int.toNat_natCast]
        have hdl : (nearL M xs (k : Int)).length = M := nearL_length _ _ _
        have HDS := Lib.hid hds
        have HDL := Lib.hid hdl
        have hlt1 := hJ.lt
        obtain ⟨W4, hW4⟩ : ∃ W4, W4 = wr.alloc (.cells #[.int .i64 (k : Int)] 3) := ⟨_, rfl⟩
        have hp4 : Past wr W4 := by rw [hW4]; exact (Past.refl _).alloc _
        have f0 : W4.cell? ⟨wr.heap.size, 0, none⟩ = some (.int .i64 (k : Int)) := by rw [hW4]; go_simp
        have hs4 : W4.heap.size = wr.heap.size + 1 := by rw [hW4]; simp
        have hJ4 := hJ.later hp4
        have c0A := fun (o : Obj) => cell_in ((Past.refl wr).alloc o) c0
        have c1A := fun (o : Obj) => cell_in ((Past.refl wr).alloc o) c1
        have HW4 := Lib.hid hW4
        clear hH hds hdl hW4
        go_wp2_with fail
        rw [← HW4.out]
        clear HW4 c0A c1A
        refine (traverse_any 73 #[.pointer (some ⟨w1.heap.size, 0, none⟩), .pointer (some ⟨wr.heap.size, 0, none⟩)] (M : Int) A n c xs (k : Int) 99999 _ (enters_of Try.func73 (by kernel_rfl) rfl) hn HX.out ((hx1.below hJ.past).below hp4) (nearL M xs (k : Int)) HDS.out
          (fun _ j W => GridJ w1 w1.heap.size (gridTo M xs k j) W ∧ W.cell? ⟨wr.heap.size, 0, none⟩ = some (.int .i64 (k : Int)))
          (fun W hW => ⟨hJ4.later hW, cell_in hW f0⟩)
          (fun B j W hW hj hno => ⟨hW.1.eq (fun a c _ _ => (gridTo_miss (fun h => (rchB_no _ _).1 hno ⟨h, by omega⟩) a c).symm), hW.2⟩)
          (fun B j W _ _ hj hW hyes => (reachParts1_any k j _ _ _ _ w1 W hW.1 hW.2 (by omega) (by have := HDL.out; omega)).mono (by
            rintro e W' ⟨rfl, rfl⟩
            have hj8 : j < 8 := by have := HDL.out; omega
            refine ⟨rfl, ⟨(hW.1.set (show k < 8 by omega) hj8).eq (fun a c _ _ => gridTo_hit ((rchB_iff _ _).1 hyes).1 a c), (World.cell?_setCell_other _ _ _ _ (by intro e; injection e; omega)).trans hW.2⟩, Mid.set (.inl (by omega))⟩))).mono ?_
        rintro e w4 ⟨rfl, B, _, _, hJ5, _⟩
        rw [HDL.out] at hJ5
        have hJ6 : GridJ w1 w1.heap.size (gridTo M xs (k + 1) 0) w4 := hJ5.eq (fun a c _ _ => gridTo_full M xs k a c)
        clear hJ5 hJ4 hJ
        go_wp2
        go_roundw
        case rel => exact ⟨k + 1, by omega, by go_num, hJ6⟩
        case measure => simp [intOf]; omega
      · obtain rfl : k = M := by omega
        obtain ⟨kL, hkL⟩ : ∃ kL, kL = (List.range k).map fun i => (kindI k xs i : Int) := ⟨_, rfl⟩
        have hkl : kL.length = k := by rw [hkL]; simp
        have hkat : ∀ i, i < k → kL[i]? = some (kindI k xs i : Int) := fun i hi => by rw [hkL]; simp [hi]
        have hki : kindsI (k : Int) xs = kL := by rw [kindsI, if_pos HB.out, Int.toNat_natCast, hkL]
        have hx := arcsIn_net HB.out
        have hgb : ∀ a c, a < k → c < k → (gridTo k xs k 0 a c && gridTo k xs k 0 c a) = bothB k xs a c := fun a c ha hc => by rw [gridTo_all ha hc, gridTo_all hc ha]; rfl
        have hbl := hJ.lt
        obtain ⟨G, hG⟩ : ∃ G, G = wr.heap.size := ⟨_, rfl⟩
        obtain ⟨W7, hW7⟩ : ∃ W7, W7 = wr.alloc (.cells (madeCells #[.int .i64 0] k) 3) := ⟨_, rfl⟩
        have hp7 : Past wr W7 := by rw [hW7]; exact (Past.refl _).alloc _
        have hm7 : MadeI W7 G 3 k kL 0 := by rw [hW7, hG]; exact MadeI.start wr 3 k kL (madeCells #[.int .i64 0] k) (by simp [size_madeCells])
        have hz7 : ∀ j, 0 ≤ j → j < k → W7.cell? ⟨G, j, none⟩ = some (.int .i64 0) := fun j _ hj => by
          rw [hW7, hG, cell_of_row _ _ _ _ _ _ (heap_alloc_new wr _), zeros_made k (by omega), List.getElem?_toArray, List.getElem?_replicate, if_pos hj]
        have hJ7 := hJ.later hp7
        have hG1 : w1.heap.size < G := by rw [hG]; exact hbl
        have HW7 := Lib.hid hW7
        have HG := Lib.hid hG
        have HKL := Lib.hid hkl
        have HKA := Lib.hid hkat
        have HKI := Lib.hid hki
        have HGB := Lib.hid hgb
        have HXX := Lib.hid hx
        clear hkL hkl hkat hki hx hgb hG hW7 hJ hp7
        go_wp2_with fail
        rw [← HW7.out, ← HG.out]
        go_loopw [6, 25] (fun _ i wy => ∃ q : Nat, q ≤ k ∧ i = .int .i64 q ∧ MadeI wy G 3 k kL q ∧ (∀ j, q ≤ j → j < k → wy.cell? ⟨G, j, none⟩ = some (.int .i64 0)) ∧ GridJ w1 w1.heap.size (gridTo k xs k 0) wy) (fun _ i _ => k - (intOf i).toNat)
        case atStart => exact ⟨0, by omega, rfl, hm7, hz7, hJ7⟩
        case round =>
          clear hm7 hz7 hJ7 HW7
          obtain ⟨q, hq, rfl, hm, hz, hJ⟩ := hrel
          by_cases hqk : q < k
          · have hq0 := hz q (Nat.le_refl _) hqk
            have q0 : (0 : Int) ≤ (q : Int) := by omega
            have q1 : (q : Int) < (k : Int) := by omega
            have q8 : (q : Int) < 8 := by omega
            have hkq := kindI_lt (by omega) HXX.out hqk
            go_wp2
            go_loopg [] (kindI k xs q) (fun gh wz => ∃ c : Nat, c + gh = kindI k xs q ∧ MadeI wz G 3 k kL q ∧ (∀ j, q < j → j < k → wz.cell? ⟨G, j, none⟩ = some (.int .i64 0)) ∧ wz.cell? ⟨G, q, none⟩ = some (.int .i64 (c : Int)) ∧ GridJ w1 w1.heap.size (gridTo k xs k 0) wz)
            case atStart => exact ⟨0, by omega, hm, fun j h1 h2 => hz j (by omega) h2, hq0, hJ⟩
            case round =>
              clear hm hz hJ hq0
              obtain ⟨e, hek, hm, hz, hcq, hJ⟩ := hrel
              have he : e < k := by omega
              have e0 : (0 : Int) ≤ (e : Int) := by omega
              have e1 : (e : Int) < 8 := by omega
              have hc1 := hJ.cell q e (by omega) (by omega)
              have hc2 := hJ.cell e q (by omega) (by omega)
              have hb := HGB.out q e hqk he
              obtain ⟨x, hx⟩ : ∃ x, x = gridTo k xs k 0 q e := ⟨_, rfl⟩
              obtain ⟨y, hy⟩ : ∃ y, y = gridTo k xs k 0 e q := ⟨_, rfl⟩
              rw [← hx] at hc1 hb
              rw [← hy] at hc2 hb
              have zq := hm.1.frozen q
              have hM2 := hm.put (.int .i64 ((e : Int) + 1))
              have HM := Lib.hid hm
              have HZ := Lib.hid hz
              have HJ := Lib.hid hJ
              have HB := Lib.hid hb
              have s1 : IntKind.i64.wrap ((e : Int) + 1) = (e : Int) + 1 := IntWalk.i64_in _ (by omega)
              clear hx hy hM2 hm hz hJ hb
              by_cases hxy : x = true ∧ y = true
              · obtain ⟨rfl, rfl⟩ := hxy
                have hke : kindI k xs q = e := by
                  have h1 : kindI k xs q ≤ e := firstB_here he (by rw [← HB.out]; rfl)
                  omega
                have HKE : Hid (kL[q]? = some (e : Int)) := by rw [Hid, HKA.out q hqk, hke]
                clear hke
                go_wp2_with fail
                go_quiet (fail)
                go_wp2
                go_roundw
                case rel => exact ⟨q + 1, by omega, by go_num, (HM.out.one HKE.out hcq).below ((Past.refl _).drewN _), fun j h1 h2 => cell_in ((Past.refl _).drewN _) (HZ.out j (by omega) h2), HJ.out.drewN _⟩
                case measure => simp [intOf]; omega
              · have hne : e ≠ kindI k xs q := fun h => by
                  have h1 := firstB_yes (bothB k xs q) k (by show kindI k xs q < k; omega)
                  rw [show firstB (bothB k xs q) k = e from h.symm, ← HB.out] at h1
                  apply hxy
                  simpa using h1
                obtain ⟨g2, rfl⟩ : ∃ g2, gk = g2 + 1 := ⟨gk - 1, by omega⟩
                cases x with
                | false =>
                  clear hxy hne
                  go_wp2_with fail
                  go_quiet (fail)
                  obtain ⟨W2, hW2⟩ : ∃ W2, W2 = wr.drewN nq := ⟨_, rfl⟩
                  have hcq : W2.cell? ⟨G, q, none⟩ = some (.int .i64 (e : Int)) := by rw [hW2]; exact hcq
                  have zq : W2.frozen? ⟨G, q, none⟩ = false := by rw [hW2]; exact zq
                  have hm2 : MadeI W2 G 3 k kL q := by rw [hW2]; exact HM.out.below ((Past.refl _).drewN _)
                  have hz2 : ∀ j, q < j → j < k → W2.cell? ⟨G, j, none⟩ = some (.int .i64 0) := by rw [hW2]; exact fun j h1 h2 => cell_in ((Past.refl _).drewN _) (HZ.out j h1 h2)
                  have hJ2 : GridJ w1 w1.heap.size (gridTo k xs k 0) W2 := by rw [hW2]; exact HJ.out.drewN _
                  have R1 := Lib.hid (hm2.put (.int .i64 ((e : Int) + 1)))
                  have R2 := Lib.hid (fun j (h1 : q < j) (h2 : j < k) => (World.cell?_setCell_other W2 ⟨G, q, none⟩ ⟨G, j, none⟩ (.int .i64 ((e : Int) + 1)) (by intro e'; injection e'; omega)).trans (hz2 j h1 h2))
                  have R3 := Lib.hid (World.cell?_setCell_same W2 ⟨G, q, none⟩ (.int .i64 ((e : Int) + 1)) hcq)
                  have R4 := Lib.hid (hJ2.far ⟨G, q, none⟩ (.int .i64 ((e : Int) + 1)) (by simp; omega) (by simp; omega))
                  clear hm2 hz2 hJ2
                  go_wp2_with fail
                  rw [← hW2]
                  go_wp2
                  go_roundg g2
                  case measure => omega
                  case rel => exact ⟨e + 1, by omega, R1.out, R2.out, R3.out, R4.out⟩
                | true =>
                  have hyf : y = false := by
                    cases y with
                    | false => rfl
                    | true => exact absurd ⟨rfl, rfl⟩ hxy
                  subst hyf
                  clear hxy hne
                  go_wp2_with fail
                  go_quiet (fail)
                  obtain ⟨W2, hW2⟩ : ∃ W2, W2 = wr.drewN nq := ⟨_, rfl⟩
                  have hcq : W2.cell? ⟨G, q, none⟩ = some (.int .i64 (e : Int)) := by rw [hW2]; exact hcq
                  have zq : W2.frozen? ⟨G, q, none⟩ = false := by rw [hW2]; exact zq
                  have hm2 : MadeI W2 G 3 k kL q := by rw [hW2]; exact HM.out.below ((Past.refl _).drewN _)
                  have hz2 : ∀ j, q < j → j < k → W2.cell? ⟨G, j, none⟩ = some (.int .i64 0) := by rw [hW2]; exact fun j h1 h2 => cell_in ((Past.refl _).drewN _) (HZ.out j h1 h2)
                  have hJ2 : GridJ w1 w1.heap.size (gridTo k xs k 0) W2 := by rw [hW2]; exact HJ.out.drewN _
                  have R1 := Lib.hid (hm2.put (.int .i64 ((e : Int) + 1)))
                  have R2 := Lib.hid (fun j (h1 : q < j) (h2 : j < k) => (World.cell?_setCell_other W2 ⟨G, q, none⟩ ⟨G, j, none⟩ (.int .i64 ((e : Int) + 1)) (by intro e'; injection e'; omega)).trans (hz2 j h1 h2))
                  have R3 := Lib.hid (World.cell?_setCell_same W2 ⟨G, q, none⟩ (.int .i64 ((e : Int) + 1)) hcq)
                  have R4 := Lib.hid (hJ2.far ⟨G, q, none⟩ (.int .i64 ((e : Int) + 1)) (by simp; omega) (by simp; omega))
                  clear hm2 hz2 hJ2
                  go_wp2_with fail
                  rw [← hW2]
                  go_wp2
                  go_roundg g2
                  case measure => omega
                  case rel => exact ⟨e + 1, by omega, R1.out, R2.out, R3.out, R4.out⟩
          · obtain rfl : q = k := by omega
            have hrow := hm.row HKL.out
            have hpf := hp1.trans hJ.past
            go_wp2
            go_ret
            exact ⟨_, rfl, by rw [HKI.out]; exact hrow.res HKL.out (by have := hp1.size; omega) (by omega), hpf⟩

end Go.Proofs.Ytaojognjkiifmac
