/-
  News: the copies, comparisons and marks that the laws make of slices of them. No condition.
-/
import Derived.Test.YtaojognjkiifmabRNews
namespace Go.Proofs.Ytaojognjkiifmab
open Go.RowKit

theorem szNewsS_any (A : Option Addr) (n cap : Nat) (left : Int) (w : World) (h0 : 0 ≤ left) (h1 : left ≤ 1048576) (hn : n ≤ maxLen) :
    Calls Try.prog 73 #[.slice A n cap, .int .i64 left] w fun e w' => e = .returned (.int .i64 (roomLeft left n)) ∧ w = w' := by
  unfold maxLen at hn
  by_cases h : left - n < 0
  · go_enter Try.func73, Try.ntmps73
    go_wp2
    go_ret
    exact ⟨ret_int (by unfold roomLeft; split <;> omega), rfl⟩
  · go_enter Try.func73, Try.ntmps73
    go_wp2
    go_ret
    exact ⟨ret_int (by unfold roomLeft; split <;> omega), rfl⟩

theorem toNews_any (x0 x1 x2 : Int) (w : World) :
    Calls Try.prog 45 #[.agg #[.int .i64 x0, .int .i64 x1, .int .i64 x2]] w fun e w' =>
      e = .returned (.agg #[.int .i64 x0, .int .i64 x1, .int .i64 x2]) ∧ Below w.heap.size w w' := by
  go_enter Try.func45, Try.ntmps45
  go_wp2
  exact bodyPost_ret (v := .agg #[.int .i64 x0, .int .i64 x1, .int .i64 x2]) (by simp [results, Try.results45, go_sem]) rfl ⟨rfl, by repeat (first | exact Below.refl _ _ | refine Below.alloc ?_ (by simp <;> omega) _ | refine Below.setCell ?_ (by simp <;> omega) _)⟩

theorem makeNews (n : Nat) (hn : n ≤ 1048576) (u : World) : (Instr.makeSlice 50 (.int .i64 (n : Int)) (.int .i64 (n : Int))).run Try.prog u =
    .ok (.slice (some ⟨u.heap.size, 0, none⟩) n n) (u.alloc (.cells (madeCells #[.int .i64 0, .int .i64 0, .int .i64 0] (n * 3)) 64)) := by
  obtain ⟨i0, hi, hz0, hz1, hz2⟩ := info_parts infoNews
  have h := run_make (P := Try.prog) u 50 64 i0 _ Try.underlying50 hi hz0 .i64 .i64 (n : Int) (n : Int) (by omega) (Int.le_refl _) (by rw [hz2]; omega) (by omega)
  simpa [hz1, Value.cells] using h

/-- A copy in new memory. -/
def NewNews (w : World) (n : Nat) (xs : List NewsD) (e : Ending) (w' : World) : Prop :=
  ∃ g, e = .returned (.slice (some ⟨g, 0, none⟩) n n) ∧ Below w.heap.size w w' ∧ w.heap.size ≤ g ∧ MadeNews w' g 64 n xs n

set_option maxHeartbeats 1000000 in
theorem toNewsS_any (A : Option Addr) (n cap : Nat) (xs : List NewsD) (w : World) (hn : n ≤ 1048576) (hl : xs.length = n) (hx : NewssAt w A xs) :
    Calls Try.prog 76 #[.slice A n cap] w (NewNews w n xs) := by
  have hmk := makeNews n hn
  go_enter Try.func76, Try.ntmps76
  go_wp2
  go_loopw [4] (fun i wr => ∃ k : Nat, k ≤ n ∧ i = .int .i64 k ∧ Below w.heap.size w wr ∧ MadeNews wr w.heap.size 64 n xs k) (fun i _ => n - (intOf i).toNat)
  case atStart => exact ⟨0, by omega, rfl, (Below.refl _ _).alloc (Nat.le_refl _) _, MadeNews.start _ _ _ _ _ (by simp [size_madeCells])⟩
  case round =>
    obtain ⟨k, hk, rfl, hb, hm⟩ := hrel
    by_cases hlt : k < n
    · obtain ⟨⟨x0, x1, x2⟩, ha⟩ : ∃ a, xs[k]? = some a := ⟨_, List.getElem?_eq_getElem (by omega)⟩
      obtain ⟨g, o, rfl, c0, c1, c2⟩ := (hx.below hb) k _ ha
      have HA := Lib.hid ha
      have HL := Lib.hid hl
      clear ha hl
      go_wp2_with fail
      refine (toNews_any x0 x1 x2 _).mono ?_
      rintro e w1 ⟨rfl, hb1⟩
      have hm1 := hm.below hb1
      obtain ⟨v0, e0⟩ := hm1.1.cell (i := k * 3) (by omega)
      obtain ⟨v1, e1⟩ := hm1.1.cell (i := k * 3 + 1) (by omega)
      obtain ⟨v2, e2⟩ := hm1.1.cell (i := k * 3 + 2) (by omega)
      have z0 := hm1.1.frozen (k * 3)
      have z1 := hm1.1.frozen (k * 3 + 1)
      have z2 := hm1.1.frozen (k * 3 + 2)
      go_wp2
      go_roundw
      case rel => exact ⟨k + 1, by omega, by go_num, ((((hb.trans (hb1.mono hb.size)).setCell (by simp) _).setCell (by simp) _).setCell (by simp) _), hm1.next HA.out hlt⟩
      case measure => simp [intOf]; omega
    · obtain rfl : n = k := by omega
      go_wp2
      go_ret
      exact ⟨_, rfl, hb, Nat.le_refl _, hm⟩

set_option maxRecDepth 100000 in
open Go.ChangeShapes Go.WideShapes Go.ChangeAt Go.Deep Go.Joins in
theorem open_newss {H : Type} {enc : TypeId × Value → H} {W : World} {fuel : Nat} {v : Value} {x : DataW H × List MemPlace} (h : DataW.trod enc Try.prog W 0 (fun _ => true) true fuel 45 [v] = some x) :
    ∃ (A : Option Addr) (n c : Nat) (xs : List NewsD), v = .slice A n c ∧ xs.length = n ∧ n ≤ maxLen ∧ NewssAt W A xs := by
  rcases open_slice Try.underlying45 h with ⟨hcs, _⟩ | ⟨a, len, cap, m, n, D, Pl, hcs, _, hl, hm, hmm, _, hi⟩
  · injection hcs with hcs
    exact ⟨none, 0, 0, [], hcs, rfl, Nat.zero_le _, fun k a hk => by simp at hk⟩
  · injection hcs with hcs
    simp only [if_true] at hmm
    subst hmm
    have hC : Try.prog.cellsOf 68 = 3 := by kernel_rfl
    have hI : Try.prog.cellsOf 3 = 1 := by kernel_rfl
    have spot : 0 < len → ∃ g o, a = ⟨g, o, none⟩ := fun h0 => by
      obtain ⟨cs', hc, _⟩ := hi 0 (by omega)
      rw [hC] at hc
      obtain ⟨_, hcl, hat⟩ := World.cells?_some hc
      have := hat 0 (by omega)
      rw [add_add, List.getElem?_eq_getElem (by omega)] at this
      exact spotless this
    have key : ∀ i, i < len → ∃ b : NewsD, ∃ g o, a = ⟨g, o, none⟩ ∧ NewsRec W g (o + i * 3) b := fun i hlt => by
      obtain ⟨cs', hc, ht⟩ := hi i (by omega)
      rw [hC] at hc
      obtain ⟨_, hcl, hat⟩ := World.cells?_some hc
      obtain ⟨ys, n', _, _, _, _, hf⟩ := DataW.trod_struct Try.underlying68 ht
      match cs', hcl with
      | [v0, v1, v2], _ =>
        have h5 : ys.length = 3 := by assumption
        match ys, h5 with
        | [y0, y1, y2], _ =>
          have f0 : DataW.trod enc Try.prog W 0 (fun _ => true) true n' 3 (([v0, v1, v2].drop 0).take (Try.prog.cellsOf 3)) = some y0 := hf 0 _ rfl
          have f1 : DataW.trod enc Try.prog W 0 (fun _ => true) true n' 3 (([v0, v1, v2].drop 1).take (Try.prog.cellsOf 3)) = some y1 := hf 1 _ rfl
          have f2 : DataW.trod enc Try.prog W 0 (fun _ => true) true n' 3 (([v0, v1, v2].drop 2).take (Try.prog.cellsOf 3)) = some y2 := hf 2 _ rfl
          rw [hI] at f0 f1 f2
          obtain ⟨z0, e0, _⟩ := DataW.trod_int Try.underlying3 f0
          obtain ⟨z1, e1, _⟩ := DataW.trod_int Try.underlying3 f1
          obtain ⟨z2, e2, _⟩ := DataW.trod_int Try.underlying3 f2
          simp at e0 e1 e2
          subst e0 e1 e2
          have c0 := hat 0 (by omega)
          have c1 := hat 1 (by omega)
          have c2 := hat 2 (by omega)
          rw [add_add] at c0 c1 c2
          obtain ⟨g, o, rfl⟩ := spot (by omega)
          simp only [addr_add] at c0 c1 c2
          exact ⟨⟨z0, z1, z2⟩, g, o, rfl, by simpa using c0, by simpa [Nat.add_assoc] using c1, by simpa [Nat.add_assoc] using c2⟩
    obtain ⟨F, hF⟩ := choose_lt (α := NewsD) (p := fun i b => ∃ g o, a = ⟨g, o, none⟩ ∧ NewsRec W g (o + i * 3) b) (fun i hlt => by
      obtain ⟨b, h⟩ := key i hlt
      exact ⟨b, h⟩)
    refine ⟨some a, len, _, (List.range len).map F, hcs, by simp, by omega, fun k b hk => ?_⟩
    have hlt : k < len := by simpa using (List.getElem?_eq_some_iff.1 hk).1
    simp [hlt] at hk
    subst hk
    obtain ⟨g, o, ha, h5⟩ := hF k hlt
    exact ⟨g, o, by rw [ha], h5⟩
open Go.ChangeShapes Go.WideShapes Go.ChangeAt Go.Deep Go.Joins in
set_option maxRecDepth 100000 in
theorem open_News {H : Type} {enc : TypeId × Value → H} {W : World} {r : Reach} {b0 : Nat} {v : Value} {d : DataW H} {p : List MemPlace} (hv : Value.okWide Try.prog W r b0 45 v)
    (h : DataW.Trod enc Try.prog W 0 (fun _ => true) true 45 v d p) : ∃ (A : Option Addr) (n c : Nat) (xs : List NewsD), v = .slice A n c ∧ xs.length = n ∧ n ≤ maxLen ∧ NewssAt W A xs := by
  obtain ⟨a0, len, cap, rfl⟩ := okWide_slice Try.underlying45 hv
  obtain ⟨fuel, hf⟩ := h
  exact open_newss (by simpa [Value.cells] using hf)

theorem eqNews_same (x0 x1 x2 : Int) (w : World) :
    Calls Try.prog 112 #[.agg #[.int .i64 x0, .int .i64 x1, .int .i64 x2], .agg #[.int .i64 x0, .int .i64 x1, .int .i64 x2]] w fun e w' => e = .returned (.bool true) ∧ Below w.heap.size w w' := by
  go_enter Try.func112, Try.ntmps112
  go_wp2
  go_ret
  exact ⟨rfl, ((Below.refl _ _).alloc (Nat.le_refl _) _).alloc (by simp) _⟩

set_option maxRecDepth 100000 in
set_option maxHeartbeats 1000000 in
theorem eqNewsS_same (A B : Option Addr) (n c c' : Nat) (xs : List NewsD) (w : World) (hn : n ≤ 1048576) (hl : xs.length = n) (hx : NewssAt w A xs) (hy : NewssAt w B xs) :
    Calls Try.prog 78 #[.slice A n c, .slice B n c'] w fun e w' => e = .returned (.bool true) ∧ Below w.heap.size w w' := by
  go_enter Try.func78, Try.ntmps78
  go_wp2
  go_loopw [5] (fun i wr => ∃ k : Nat, k ≤ n ∧ i = .int .i64 k ∧ Below w.heap.size w wr) (fun i _ => n - (intOf i).toNat)
  case atStart => exact ⟨0, by omega, rfl, Below.refl _ _⟩
  case round =>
    obtain ⟨k, hk, rfl, hb⟩ := hrel
    by_cases hlt : k < n
    · obtain ⟨⟨x0, x1, x2⟩, ha⟩ : ∃ a, xs[k]? = some a := ⟨_, List.getElem?_eq_getElem (by omega)⟩
      obtain ⟨g, o, rfl, c0, c1, c2⟩ := (hx.below hb) k _ ha
      obtain ⟨g', o', rfl, d0, d1, d2⟩ := (hy.below hb) k _ ha
      have hi : (k : Int) < (n : Int) := by omega
      have h0 : (0 : Int) ≤ (k : Int) := by omega
      clear ha hl
      go_wp2_with fail
      go_still_tail 8, (by kernel_rfl)
      change wpList _ _ _ _ _ wr.drew
      go_wp2_with fail
      refine (eqNews_same x0 x1 x2 _).mono ?_
      rintro e w1 ⟨rfl, hb1⟩
      go_wp2
      go_roundw
      case rel => exact ⟨k + 1, by omega, by go_num, hb.drew.trans (hb1.mono hb.size)⟩
      case measure => simp [intOf]; omega
    · go_wp2
      go_ret
      exact ⟨rfl, hb⟩

def markNewss (k : Nat) (n : Nat) : List NewsD := (List.range n).map fun i => ⟨((k + 3 * i : Nat) : Int), ((k + 3 * i + 1 : Nat) : Int), ((k + 3 * i + 2 : Nat) : Int)⟩
theorem markNewss_length (k n : Nat) : (markNewss k n).length = n := by simp [markNewss]
theorem markNewss_at (k n i : Nat) (h : i < n) : (markNewss k n)[i]? = some ⟨((k + 3 * i : Nat) : Int), ((k + 3 * i + 1 : Nat) : Int), ((k + 3 * i + 2 : Nat) : Int)⟩ := by simp [markNewss, h]
/-- The row and the marks so far. -/
def MarkedToNews (w : World) (g t sz k n j : Nat) : Prop := RowN w g t sz ∧ ∀ i a, i < j → (markNewss k n)[i]? = some a → NewsRec w g (i * 3) a
theorem MarkedToNews.next {w : World} {g t n sz k j : Nat} (h : MarkedToNews w g t sz k n j) (hj : j < n) (hs : n * 3 ≤ sz) :
    MarkedToNews (((w.setCell ⟨g, j * 3, none⟩ (.int .i64 ((k + 3 * j : Nat) : Int))).setCell ⟨g, j * 3 + 1, none⟩ (.int .i64 ((k + 3 * j + 1 : Nat) : Int))).setCell ⟨g, j * 3 + 2, none⟩ (.int .i64 ((k + 3 * j + 2 : Nat) : Int))) g t sz k n (j + 1) := by
  refine ⟨(((h.1.set _ _).set _ _).set _ _), fun i a hi hia => ?_⟩
  rcases Nat.lt_or_ge i j with hlt | hge
  · exact ((((h.2 i a hlt hia).set _ _ (by omega)).set _ _ (by omega)).set _ _ (by omega))
  · obtain rfl : i = j := by omega
    rw [markNewss_at k n i hj] at hia
    injection hia with hia
    subst hia
    exact NewsRec.put h.1 (by omega) _ _ _

set_option maxHeartbeats 1000000 in
theorem markNewsS_any (A : Option Addr) (n c k lo t : Nat) (w : World) (hn : n ≤ 1048576) (ki : Int) (hki : ki = (k : Int)) (hk : k ≤ 100000000) (ho : OwnAt w lo A t 3 n) :
    Calls Try.prog 82 #[.slice A n c, .int .i64 ki] w (Marked w A (k + 3 * n) fun w' => NewssAt w' A (markNewss k n)) := by
  subst hki
  rcases ho with ⟨rfl, rfl⟩ | ⟨g, sz, rfl, hlo, hr, hs⟩
  · go_enter Try.func82, Try.ntmps82
    go_wp2
    go_loop [5, 1] (fun i q => i = .int .i64 0 ∧ q = .int .i64 k) (fun _ _ => 0)
    case atStart => exact ⟨rfl, rfl⟩
    case round =>
      obtain ⟨rfl, rfl⟩ := hrel
      go_wp2
      go_ret
      exact ⟨ret_int (by simp), grown_refl _ _, fun i x h => by simp [markNewss] at h⟩
  · go_enter Try.func82, Try.ntmps82
    go_wp2
    go_loopw [5, 1] (fun i q wr => ∃ j : Nat, j ≤ n ∧ i = .int .i64 j ∧ q = .int .i64 ((k : Int) + 3 * (j : Int)) ∧ w.grownBy wr (some g) ∧ MarkedToNews wr g t sz k n j) (fun i _ _ => n - (intOf i).toNat)
    case atStart => exact ⟨0, by omega, rfl, by simp, grown_refl _ _, hr, fun j x h => absurd h (by omega)⟩
    case round =>
      obtain ⟨j, hj, rfl, rfl, hb, hm⟩ := hrel
      by_cases hlt : j < n
      · skip
        obtain ⟨v0, e0⟩ := hm.1.cell (i := j * 3) (by omega)
        obtain ⟨v1, e1⟩ := hm.1.cell (i := j * 3 + 1) (by omega)
        obtain ⟨v2, e2⟩ := hm.1.cell (i := j * 3 + 2) (by omega)
        have z0 := hm.1.frozen (j * 3)
        have z1 := hm.1.frozen (j * 3 + 1)
        have z2 := hm.1.frozen (j * 3 + 2)
        have hm2 : MarkedToNews (((wr.setCell ⟨g, j * 3, none⟩ (.int .i64 ((k : Int) + 3 * (j : Int)))).setCell ⟨g, j * 3 + 1, none⟩ (.int .i64 ((k : Int) + 3 * (j : Int) + 1))).setCell ⟨g, j * 3 + 2, none⟩ (.int .i64 ((k : Int) + 3 * (j : Int) + 1 + 1))) g t sz k n (j + 1) := by
          have h := hm.next hlt hs
          have q0 : ((k + 3 * j : Nat) : Int) = (k : Int) + 3 * (j : Int) := by omega
          have q1 : ((k + 3 * j + 1 : Nat) : Int) = (k : Int) + 3 * (j : Int) + 1 := by omega
          have q2 : ((k + 3 * j + 2 : Nat) : Int) = (k : Int) + 3 * (j : Int) + 1 + 1 := by omega
          rw [q0, q1, q2] at h
          exact h
        go_wp2
        go_roundw
        case rel => exact ⟨j + 1, by omega, by go_num, by go_num, (grown_set (grown_set (grown_set hb _ _) _ _) _ _), hm2⟩
        case measure => simp [intOf]; omega
      · obtain rfl : n = j := by omega
        go_wp2
        go_ret
        exact ⟨rfl, hb, fun i x h => ⟨g, 0, rfl, by
          have hi : i < n := by have := (List.getElem?_eq_some_iff.1 h).1; simpa [markNewss_length] using this
          rw [Nat.zero_add]; exact hm.2 i x hi h⟩⟩

set_option maxHeartbeats 1000000 in
theorem heldNewsS_any (A : Option Addr) (n c k : Nat) (w : World) (hn : n ≤ 1048576) (ki : Int) (hki : ki = (k : Int)) (hk : k ≤ 100000000) (hx : NewssAt w A (markNewss k n)) :
    Calls Try.prog 92 #[.slice A n c, .int .i64 ki] w fun e w' => e = .returned (.int .i64 (k + 3 * n)) ∧ w = w' := by
  subst hki
  go_enter Try.func92, Try.ntmps92
  go_wp2
  go_loop [5, 1] (fun i q => ∃ j : Nat, j ≤ n ∧ i = .int .i64 j ∧ q = .int .i64 ((k : Int) + 3 * (j : Int))) (fun i _ => n - (intOf i).toNat)
  case atStart => exact ⟨0, by omega, rfl, by simp⟩
  case round =>
    obtain ⟨j, hj, rfl, rfl⟩ := hrel
    by_cases hlt : j < n
    · obtain ⟨g, o, rfl, c0, c1, c2⟩ := hx j _ (markNewss_at k n j hlt)
      have q0 : ((k + 3 * j : Nat) : Int) = (k : Int) + 3 * (j : Int) := by omega
      have q1 : ((k + 3 * j + 1 : Nat) : Int) = (k : Int) + 3 * (j : Int) + 1 := by omega
      have q2 : ((k + 3 * j + 2 : Nat) : Int) = (k : Int) + 3 * (j : Int) + 1 + 1 := by omega
      simp only [q0, q1, q2] at c0 c1 c2
      clear q0 q1 q2
      go_wp2
      go_round
      case rel => exact ⟨j + 1, by omega, by go_num, by go_num⟩
      case measure => simp [intOf]; omega
    · obtain rfl : n = j := by omega
      go_wp2
      go_ret
      exact ⟨rfl, rfl⟩

end Go.Proofs.Ytaojognjkiifmab
