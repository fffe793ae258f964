/-
  Whichever of two stairs comes earlier: slices.Grow of nil, slices.Concat of two slices of steps, spec.StairBest, impl.StairBest.
-/
import Derived.Test.YthopenknfadciaaStairOf
import Derived.Lib.AppendZerosOnto
namespace Go.Proofs.Ythopenknfadciaa
open Go.Shelf Go.RowKit Go.Lib Go.Sort

set_option maxRecDepth 100000 in
set_option maxHeartbeats 1000000 in
theorem growStep_nil (n : Nat) (w : World) (hn : n ≤ 4194304) :
    Calls Try.prog 67 #[.slice none 0 0, .int .i64 (n : Int)] w (GivesStep w []) := by
  obtain ⟨i0, hi, hz0, hz1, hz2⟩ := info_parts infoStep
  by_cases h0 : n = 0
  · subst h0
    go_enter Try.func67, Try.ntmps67
    go_wp2
    go_ret
    exact ⟨_, rfl, ResStep.nil _ _, Below.refl _ _⟩
  have hold : (Builtin.firstCells i0.size 0 (.slice none 0 0)).run Try.prog w.drew = .ok ([] : List Value).toArray w.drew := by simp [Builtin.firstCells]
  have hcap : Builtin.nextslicecap (0 + n) 0 * i0.bytes ≤ 281474976710656 := by
    rw [hz2]
    have : Builtin.nextslicecap (0 + n) 0 = n := by simp [Builtin.nextslicecap]; omega
    rw [this]
    omega
  have hrz : ∀ ty, (Builtin.append_ #[25, 3] ty #[.slice none 0 0, .int .i64 (n : Int)]).run Try.prog w = _ := fun ty => Lib.run_append_grow_zeros w 25 3 ty 42 i0 _ .i64 .i64 Try.underlying25 Try.underlying3 hi hz0 none 0 0 [] hold n (by omega) (by omega) (by omega) (by omega) (by rw [hz2]; omega) hcap
  obtain ⟨G, hG⟩ : ∃ G, G = grownCap w (0 + n) 0 42 := ⟨_, rfl⟩
  have hGn : n ≤ G := by rw [hG]; have := grownCap_ge w (0 + n) 0 42; omega
  have hG63 : G ≤ maxLen := by rw [hG]; exact grownCap_le_maxLen w (0 + n) 0 42 (by unfold maxLen; omega)
  have hrz' : ∀ ty, (Builtin.append_ #[25, 3] ty #[.slice none 0 0, .int .i64 (n : Int)]).run Try.prog w =
      .ok (.slice (some ⟨w.heap.size, 0, none⟩) n G) (w.drew.alloc (.cells (#[] ++ Builtin.zeroCells #[.int .i64 0, .int .i64 0] n ++ Builtin.zeroCells #[.int .i64 0, .int .i64 0] (G - n)) 42)) := fun ty => by
    have := hrz ty
    rw [← hG] at this
    simpa [Value.cells] using this
  obtain ⟨cs, hcs⟩ : ∃ cs, cs = (#[] ++ Builtin.zeroCells #[.int .i64 0, .int .i64 0] n ++ Builtin.zeroCells #[.int .i64 0, .int .i64 0] (G - n) : Array Value) := ⟨_, rfl⟩
  have hsz : cs.size = G * 2 := by rw [hcs]; simp [size_zeroCells]; omega
  rw [← hcs] at hrz'
  have HR := Lib.hid hrz'
  have hG63' : G ≤ maxLen := hG63
  unfold maxLen at hG63
  clear hG hcs hrz hold hcap hrz'
  go_enter Try.func67, Try.ntmps67
  go_wp2_with (at_builtin; refine Lib.wpList_append_run _ rfl _ _ _ _ rfl _ _ rfl rfl _ _ (HR.out _) ?_)
  go_ret
  refine ⟨_, rfl, ?_, ((Past.refl w).alloc (.cells cs 42)).drew⟩
  exact World.ownsRow_made (e := 42) (size := 2) w cs G (Nat.le_refl _) hG63' hsz

/-- What the first k of two lists are together. -/
def joinS (za zb : List StepD) : Nat → List StepD
  | 0 => []
  | 1 => za
  | _ => za ++ zb

theorem steps_cells {w : World} {ad : Addr} {zs : List StepD} (h : StepsAt w (some ad) zs) : ∀ j u, (cellsStep zs)[j]? = some u → w.cell? (ad.add j) = some u := fun j u hu => by
  have hpos : 0 < zs.length := by
    have := (List.getElem?_eq_some_iff.1 hu).1
    rw [cellsStep_length] at this
    omega
  obtain ⟨g, o, e, _⟩ := h 0 _ (List.getElem?_eq_getElem hpos)
  injection e with e
  subst e
  rw [Addr.add_lit]
  refine cells_of_steps zs o (fun k a hk => ?_) j u hu
  obtain ⟨g', o', e, h5⟩ := h k a hk
  injection e with e
  injection e with e1 e2
  subst e1 e2
  exact h5

set_option maxRecDepth 100000 in
set_option maxHeartbeats 1000000 in
theorem concatStep_any (g la ca lb cb : Nat) (aa ab : Addr) (za zb : List StepD) (w : World) (hla : la ≤ 1048576) (hlb : lb ≤ 1048576) (ha : za.length = la) (hb : zb.length = lb)
    (hx : StepsAt w (some aa) za) (hy : StepsAt w (some ab) zb) (h0 : w.cell? ⟨g, 0, none⟩ = some (.slice (some aa) la ca)) (h1 : w.cell? ⟨g, 1, none⟩ = some (.slice (some ab) lb cb)) :
    Calls Try.prog 52 #[.slice (some ⟨g, 0, none⟩) 2 2] w (GivesStep w (za ++ zb)) := by
  have HA := Lib.hid ha
  have HB := Lib.hid hb
  clear ha hb
  obtain ⟨i0, hi, hz0, hz1, hz2⟩ := info_parts infoStep
  go_enter Try.func52, Try.ntmps52
  go_wp2
  go_loop [3, 11] (fun s q => (s = .int .i64 0 ∧ q = .int .i64 0) ∨ (s = .int .i64 (la : Int) ∧ q = .int .i64 1) ∨ (s = .int .i64 ((la : Int) + (lb : Int)) ∧ q = .int .i64 2)) (fun _ q => 2 - (intOf q).toNat)
  case atStart => exact .inl ⟨rfl, rfl⟩
  case round =>
    rcases hrel with ⟨rfl, rfl⟩ | ⟨rfl, rfl⟩ | ⟨rfl, rfl⟩
    · have hp : ¬ ((la : Int) < 0) := by omega
      go_wp2
      go_round
      case rel => exact .inr (.inl ⟨by go_num, by go_num⟩)
      case measure => simp [intOf]
    · have hp : ¬ ((la : Int) + (lb : Int) < 0) := by omega
      go_wp2
      go_round
      case rel => exact .inr (.inr ⟨by go_num, by go_num⟩)
      case measure => simp [intOf]
    · go_wp2_with fail
      have hgr := growStep_nil (la + lb) w (by omega)
      rw [show ((la + lb : Nat) : Int) = (la : Int) + (lb : Int) by omega] at hgr
      refine hgr.mono ?_
      clear hgr
      rintro e w1 ⟨v1, rfl, hv1, hb1⟩
      have hw1 := hb1.size
      go_wp2
      go_loopw [6, 27] (fun v q wr => ∃ k : Nat, k ≤ 2 ∧ q = .int .i64 k ∧ ResStep wr w.heap.size v (joinS za zb k) ∧ Past w wr) (fun _ q _ => 2 - (intOf q).toNat)
      case atStart => exact ⟨0, by omega, rfl, hv1, hb1⟩
      case round =>
        obtain ⟨k, hk, rfl, hv, hb⟩ := hrel
        have h0' := cell_in hb h0
        have h1' := cell_in hb h1
        have hws := hb.size
        unfold ResStep at hv
        match k, hk with
        | 0, _ =>
          simp only [joinS, List.length_nil] at hv
          have HC := Lib.hid (steps_cells (hx.below hb))
          go_wp2_with (first | (at_builtin; refine wpList_append_own _ rfl _ _ 25 rfl w.heap.size 42 i0 _ 2 16 Try.underlying25 hi hz0 hz1 hz2 rfl (by decide) _ _ _ rfl hv aa la ca (cellsStep za) rfl (by rw [cellsStep_length, HA.out]) HC.out (cellsStep_one za) (by unfold maxLen; omega) (by omega) (by omega) ?_; intro v' w3 hown' hgrow3 hnil3))
          go_roundw
          case rel => exact ⟨1, by omega, by go_num, by unfold ResStep; simp only [joinS]; rw [HA.out]; simpa [cellsStep] using hown', Past.grown hb hv hgrow3 (Nat.le_refl _)⟩
          case measure => simp [intOf]
        | 1, _ =>
          simp only [joinS] at hv
          rw [HA.out] at hv
          have HC := Lib.hid (steps_cells (hy.below hb))
          go_wp2_with (first | (at_builtin; refine wpList_append_own _ rfl _ _ 25 rfl w.heap.size 42 i0 _ 2 16 Try.underlying25 hi hz0 hz1 hz2 rfl (by decide) _ _ _ rfl hv ab lb cb (cellsStep zb) rfl (by rw [cellsStep_length, HB.out]) HC.out (cellsStep_one zb) (by unfold maxLen; omega) (by omega) (by omega) ?_; intro v' w3 hown' hgrow3 hnil3))
          go_roundw
          case rel => exact ⟨2, by omega, by go_num, by unfold ResStep; simp only [joinS]; rw [List.length_append, HA.out, HB.out, cellsStep_append]; exact hown', Past.grown hb hv hgrow3 (Nat.le_refl _)⟩
          case measure => simp [intOf]
        | 2, _ =>
          go_wp2
          go_ret
          exact ⟨_, rfl, hv, hb⟩

def bestB (a b : List StepD) : Bool := stairB a && (stairB b && ofB (a ++ b))
def bestL (a b : List StepD) : List StepD := if bestB a b then tidy (a ++ b) else []
theorem bestL_len (a b : List StepD) : (bestL a b).length ≤ 1048576 := by
  unfold bestL
  split
  · have := tidy_len (a ++ b); omega
  · simp
theorem bestL_of {a b : List StepD} (ha : stairB a = true) (hb : stairB b = true) : ofL (a ++ b) = bestL a b ∧ ofB (a ++ b) = bestB a b := by
  unfold ofL bestL bestB
  rw [ha, hb]
  exact ⟨rfl, rfl⟩

set_option maxRecDepth 100000 in
set_option maxHeartbeats 1000000 in
theorem implStairBest_any (aa : Addr) (n c : Nat) (a : List StepD) (ab : Addr) (l cb : Nat) (b : List StepD) (w : World) (hn : n ≤ 1048576) (hna : a.length = n) (ha : StepsAt w (some aa) a) (hl : l ≤ 1048576) (hlb : b.length = l) (hb : StepsAt w (some ab) b) :
    Calls Try.prog 29 #[.slice (some aa) n c, .slice (some ab) l cb] w (GivesStepB w (bestL a b) (bestB a b)) := by
  have HA := Lib.hid hna
  have HB := Lib.hid hlb
  clear hna hlb
  go_enter Try.func29, Try.ntmps29
  go_wp2_with fail
  refine (implStairOk_any _ n c a _ hn HA.out ha).mono ?_
  rintro e w1 ⟨rfl, hb1⟩
  cases hoa : stairB a with
  | false =>
    have HOA := Lib.hid hoa
    clear hoa
    go_wp2
    go_ret2
    rw [bestL, bestB, HOA.out]
    exact ⟨_, rfl, ResStep.nil _ _, hb1⟩
  | true =>
    have HOA := Lib.hid hoa
    clear hoa
    go_wp2_with fail
    refine (implStairOk_any _ l cb b _ hl HB.out (hb.below hb1)).mono ?_
    rintro e w2 ⟨rfl, hb2⟩
    have hb12 := Past.trans hb1 hb2
    cases hob : stairB b with
    | false =>
      have HOB := Lib.hid hob
      clear hob
      go_wp2
      go_ret2
      rw [bestL, bestB, HOA.out, HOB.out]
      exact ⟨_, rfl, ResStep.nil _ _, hb12⟩
    | true =>
      have HE := Lib.hid (bestL_of HOA.out hob)
      have ha12 := stairB_len HOA.out
      have hb12' := stairB_len hob
      rw [HA.out] at ha12
      rw [HB.out] at hb12'
      clear hob
      go_wp2_with fail
      have hW : Past w2 (w2.alloc (.cells #[.slice (some aa) n c, .slice (some ab) l cb] 25)) := (Past.refl _).alloc _
      refine (concatStep_any w2.heap.size n c l cb aa ab a b _ hn hl HA.out HB.out ((ha.below hb12).below hW) ((hb.below hb12).below hW) (by go_simp) (by go_simp)).mono ?_
      rintro e w3 ⟨v3, rfl, hv3, hb3⟩
      obtain ⟨A3, c3, rfl, hx3, _⟩ := hv3.form
      obtain ⟨D, hD⟩ : ∃ D, D = (a ++ b).length := ⟨_, rfl⟩
      have hDl : D ≤ 24 := by rw [hD, List.length_append, HA.out, HB.out]; omega
      rw [← hD] at hv3 ⊢
      have HD := Lib.hid hD
      clear hD
      go_wp2_with fail
      refine (implStairOf_any A3 D c3 (a ++ b) _ (by omega) HD.out.symm hx3).mono ?_
      rintro e w4 ⟨v4, rfl, hv4, hb4⟩
      rw [HE.out.1] at hv4
      have hb13 := hb12.trans (hW.trans hb3)
      go_wp2
      go_ret2
      rw [HE.out.2]
      exact ⟨_, rfl, hv4.lower hb13.size, hb13.trans hb4⟩

set_option maxRecDepth 100000 in
set_option maxHeartbeats 1000000 in
theorem specStairBest_any (aa : Addr) (n c : Nat) (a : List StepD) (ab : Addr) (l cb : Nat) (b : List StepD) (w : World) (hn : n ≤ 1048576) (hna : a.length = n) (ha : StepsAt w (some aa) a) (hl : l ≤ 1048576) (hlb : b.length = l) (hb : StepsAt w (some ab) b) :
    Calls Try.prog 28 #[.slice (some aa) n c, .slice (some ab) l cb] w (GivesStepB w (bestL a b) (bestB a b)) := by
  obtain ⟨i0, hi, hz0, hz1, hz2⟩ := info_parts infoStep
  have HA := Lib.hid hna
  have HB := Lib.hid hlb
  clear hna hlb
  go_enter Try.func28, Try.ntmps28
  go_wp2_with fail
  refine (l5Ok_any _ n c a _ hn HA.out ha).mono ?_
  rintro e w1 ⟨rfl, hb1⟩
  cases hoa : stairB a with
  | false =>
    have HOA := Lib.hid hoa
    clear hoa
    go_wp2
    go_ret2
    rw [bestL, bestB, HOA.out]
    exact ⟨_, rfl, ResStep.nil _ _, hb1⟩
  | true =>
    have HOA := Lib.hid hoa
    clear hoa
    go_wp2_with fail
    refine (l5Ok_any _ l cb b _ hl HB.out (hb.below hb1)).mono ?_
    rintro e w2 ⟨rfl, hb2⟩
    have hb12 := Past.trans hb1 hb2
    cases hob : stairB b with
    | false =>
      have HOB := Lib.hid hob
      clear hob
      go_wp2
      go_ret2
      rw [bestL, bestB, HOA.out, HOB.out]
      exact ⟨_, rfl, ResStep.nil _ _, hb12⟩
    | true =>
      have HE := Lib.hid (bestL_of HOA.out hob)
      have ha12 := stairB_len HOA.out
      have hb12' := stairB_len hob
      rw [HA.out] at ha12
      rw [HB.out] at hb12'
      clear hob
      have hbs := hb12.size
      obtain ⟨W, hW⟩ : ∃ W, W = w2.alloc (.cells #[] 42) := ⟨_, rfl⟩
      have hbW : Past w2 W := by rw [hW]; exact (Past.refl _).alloc _
      have hv0 : W.ownsRow w.heap.size 42 2 (.slice (some ⟨w2.heap.size, 0, none⟩) 0 0) 0 [] := by rw [hW]; exact World.ownsRow_made w2 _ 0 hbs (by unfold maxLen; omega) rfl
      have hb0W := hb12.trans hbW
      have HC := Lib.hid (steps_cells (ha.below hb0W))
      have hWs := hb0W.size
      clear ha
      go_wp2_with (first
        | (at_builtin; refine wpList_append_own _ rfl _ _ 25 rfl w.heap.size 42 i0 _ 2 16 Try.underlying25 hi hz0 hz1 hz2 rfl (by decide) _ _ _ rfl hown1 ab l cb (cellsStep b) rfl (by rw [cellsStep_length, HB.out]) HC2.out (cellsStep_one b) (by unfold maxLen; omega) (by omega) (by omega) ?_; intro v5 w5 hown2 hgrow2 hnil2; have hp2 := Past.grown hp1 hown1 hgrow2 (Nat.le_refl _))
        | (at_builtin; rw [← hW]; refine wpList_append_own _ rfl _ _ 25 rfl w.heap.size 42 i0 _ 2 16 Try.underlying25 hi hz0 hz1 hz2 rfl (by decide) _ _ _ rfl hv0 aa n c (cellsStep a) rfl (by rw [cellsStep_length, HA.out]) HC.out (cellsStep_one a) (by unfold maxLen; omega) (by omega) (by omega) ?_; intro v4 w4 hown1 hgrow1 hnil1; have hp1 := Past.grown hb0W hv0 hgrow1 (Nat.le_refl _); have HC2 := Lib.hid (steps_cells (hb.below hp1)); have hs1 : w.heap.size ≤ w4.heap.size := hp1.size)
        | fail)
      have hv : ResStep w5 w.heap.size v5 (a ++ b) := by
        unfold ResStep
        rw [List.length_append, HA.out, HB.out, cellsStep_append]
        simpa using hown2
      obtain ⟨D, hD⟩ : ∃ D, D = (a ++ b).length := ⟨_, rfl⟩
      have hDl : D ≤ 24 := by rw [hD, List.length_append, HA.out, HB.out]; omega
      obtain ⟨A5, c5, rfl, hx5, _⟩ := hv.form
      rw [← hD] at hv ⊢
      have HD := Lib.hid hD
      clear hD hp1 HC2 HC hgrow1 hgrow2 hown1 hown2 hv0 hb0W hb hnil1 hnil2 hW hbW
      refine (specStairOf_any A5 D c5 (a ++ b) _ (by omega) HD.out.symm hx5).mono ?_
      rintro e w6 ⟨v6, rfl, hv6, hb6⟩
      rw [HE.out.1] at hv6
      go_wp2
      go_ret2
      rw [HE.out.2]
      exact ⟨_, rfl, hv6.lower hp2.size, hp2.trans hb6⟩

end Go.Proofs.Ythopenknfadciaa
