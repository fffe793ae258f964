/-
  Stairs that are drawn of bytes: l30Steps, l30Stair, l30AnyStair, DrawStairAt, DrawStairLast, DrawStairWalk.
-/
import Derived.Test.YthopenknfadciaaDrawF
import Derived.Test.YthopenknfadciaaOpenB
import Derived.Test.YthopenknfadciaaTidyS
namespace Go.Proofs.Ythopenknfadciaa
open Go.Shelf Go.RowKit Go.Lib Go.Sort

theorem ResStep.young {w w' : World} {lo g : Nat} {v : Value} {zs : List StepD} (h : ResStep w lo v zs) (hg : w.grownBy w' (some g)) (hl : g < lo) : ResStep w' lo v zs :=
  World.ownsRow.kept h hg (.inr fun e => own_ne h hl e.symm)

/-- Steps were drawn into new memory; each is ok by itself. -/
def StepsG (w : World) (R lo : Nat) (A : Option Addr) (n c f : Nat) (e : Ending) (w' : World) : Prop :=
  ∃ v zs, e = .returned v ∧ zs.length ≤ 21 ∧ (∀ s ∈ zs, stOk s = true) ∧ ResStep w' w.heap.size v zs ∧ RdF w' R lo A n c f ∧ w.grownBy w' (some R)

theorem RdF.grown {w w' : World} {R lo : Nat} {A : Option Addr} {n c f base e size k : Nat} {v : Value} {zs : List Value} (h : RdF w R lo A n c f) (hg : w.grownBy w' v.ownBlock) (ho : w.ownsRow base e size v k zs) (hR : R < base) : RdF w' R lo A n c f := by
  obtain ⟨p, hp, h⟩ := h
  have hlo := h.lt
  cases hv : v.ownBlock with
  | none => rw [hv] at hg; exact ⟨p, hp, h.below (below_of_grown hg)⟩
  | some g =>
    have := (ho.lt g hv).1
    rw [hv] at hg
    exact ⟨p, hp, h.far hg (by omega) (by omega)⟩
/-- Behind an append to a row of the call's own: the reader's block alone has turned. -/
theorem grown_own {a w w' : World} {R base e size k : Nat} {v : Value} {zs : List Value} (h : a.grownBy w (some R)) (hg : w.grownBy w' v.ownBlock) (ho : w.ownsRow base e size v k zs) (hb : a.heap.size ≤ base) : a.grownBy w' (some R) :=
  ⟨hg.os.trans h.os, hg.tape.trans h.tape, hg.output.trans h.output, Nat.le_trans h.size hg.size, fun i hi hne => (hg.block i (Nat.lt_of_lt_of_le hi h.size) (own_ne ho (by omega))).trans (h.block i hi hne)⟩

set_option maxRecDepth 100000 in
set_option maxHeartbeats 2000000 in
theorem l30Steps_any (R lo : Nat) (A : Option Addr) (n c f : Nat) (mo : Int) (w : World) (h : RdF w R lo A n c (f + 41)) (hm0 : 0 ≤ mo) (hm1 : mo ≤ 20) :
    Calls Try.prog 60 #[.pointer (some ⟨R, 0, none⟩), .int .i64 mo] w (StepsG w R lo A n c f) := by
  have hRw := h.at_
  obtain ⟨i0, hi, hz0, hz1, hz2⟩ := info_parts infoStep
  have hres0 : ResStep (w.alloc (.cells #[] 42)) w.heap.size (.slice (some ⟨w.heap.size, 0, none⟩) 0 0) [] := World.ownsRow_made w _ 0 (Nat.le_refl _) (by unfold maxLen; omega) rfl
  go_enter Try.func60, Try.ntmps60
  go_wp2_with fail
  refine (pickF (f := f + 40) _ (h.alloc _)).mono ?_
  rintro e w1 ⟨k1, rfl, k10, k11, hr1, hg1⟩
  obtain ⟨j1, rfl⟩ : ∃ j : Nat, k1 = j := ⟨k1.toNat, by omega⟩
  have hj1 : j1 ≤ 20 := by omega
  have hgw1 : w.grownBy w1 (some R) := grown_trans (World.grownBy_alloc w _ _) hg1
  have hres1 := hres0.young hg1 hRw
  clear hres0 hg1
  go_wp2
  go_loopw [5, 6] (fun v q wr => ∃ (j : Nat) (zs : List StepD), j + zs.length ≤ 20 ∧ q = .int .i64 j ∧ (∀ s ∈ zs, stOk s = true) ∧ ResStep wr w.heap.size v zs ∧ RdF wr R lo A n c (f + 2 * j) ∧ w.grownBy wr (some R)) (fun _ q _ => (intOf q).toNat)
  case atStart => exact ⟨j1, [], by simp; omega, rfl, by simp, hres1, hr1.less (by omega), hgw1⟩
  case round =>
    obtain ⟨j, zs, hjz, rfl, hok, hv, hrd, hgV⟩ := hrel
    have HOK := Lib.hid hok
    clear hok
    by_cases hj : 0 < j
    · obtain ⟨j', rfl⟩ : ∃ j', j = j' + 1 := ⟨j - 1, by omega⟩
      go_wp2_with fail
      refine (pickF (f := f + 2 * j' + 1) _ (hrd.less (by omega))).mono ?_
      rintro e w2 ⟨x, rfl, x0, x1, hr2, hg2⟩
      have hx59 : x ≤ 59 := by omega
      go_wp2_with fail
      refine (pickF (f := f + 2 * j') _ hr2).mono ?_
      rintro e w3 ⟨y, rfl, y0, y1, hr3, hg3⟩
      have hy39 : y ≤ 39 := by omega
      have hv3 := (hv.young hg2 hRw).young hg3 hRw
      have hgV3 := grown_trans hgV (grown_trans hg2 hg3)
      have hs3 := hgV3.size
      obtain ⟨D, hD⟩ : ∃ D, D = zs.length := ⟨_, rfl⟩
      have hown : w3.ownsRow w.heap.size 42 2 u5 D (cellsStep zs) := by have := hv3; unfold ResStep at this; rw [← hD] at this; exact this
      have HO := Lib.hid hown
      rw [← hD] at hjz
      have HD := Lib.hid hD
      have HST : Hid (stOk ⟨x, x + y⟩ = true) := (stOk_iff _).2 (by simp only; omega)
      clear hown hD hv hv3 x1 y1
      go_wp2_with (first | (at_builtin; refine wpList_append_own _ rfl _ _ 25 rfl w.heap.size 42 i0 _ 2 16 Try.underlying25 hi hz0 hz1 hz2 rfl (by decide) _ D _ rfl (HO.out.alloc _) ⟨w3.heap.size, 0, none⟩ 1 1 [.int .i64 x, .int .i64 (x + y)] rfl rfl (newStep w3 _ _ _) (cellsStep_one [⟨x, x + y⟩]) (by unfold maxLen; omega) (by omega) (by simp; omega) ?_; intro v4 w4 hown' hgrow4 hnil4))
      go_roundw
      case rel =>
        refine ⟨j', zs ++ [⟨x, x + y⟩], by rw [List.length_append, ← HD.out]; simp; omega, by go_num, fun s hs => ?_, ResStep.push (a := ⟨x, x + y⟩) (by rw [← HD.out]; exact hown'), (hr3.alloc _).grown hgrow4 (HO.out.alloc _) hRw, grown_own (grown_trans hgV3 (World.grownBy_alloc w3 _ _)) hgrow4 (HO.out.alloc _) (Nat.le_refl _)⟩
        rcases List.mem_append.1 hs with h | h
        · exact HOK.out s h
        · simp at h; subst h; exact HST.out
      case measure => simp [intOf]
    · obtain rfl : j = 0 := by omega
      go_wp2
      go_ret
      exact ⟨_, zs, rfl, by omega, HOK.out, hv, hrd.less (by omega), hgV⟩

/-- A stair was drawn into new memory. -/
def StairG (w : World) (R lo : Nat) (A : Option Addr) (n c f : Nat) (e : Ending) (w' : World) : Prop :=
  ∃ v zs, e = .returned v ∧ zs.length ≤ 201 ∧ ResStep w' w.heap.size v zs ∧ RdF w' R lo A n c f ∧ w.grownBy w' (some R) ∧ v ≠ .slice none 0 0

set_option maxHeartbeats 1000000 in
theorem l30Stair_any (R lo : Nat) (A : Option Addr) (n c f : Nat) (w : World) (h : RdF w R lo A n c (f + 41)) :
    Calls Try.prog 70 #[.pointer (some ⟨R, 0, none⟩)] w fun e w' => ∃ v zs, e = .returned v ∧ zs.length ≤ 200 ∧ ResStep w' w.heap.size v zs ∧ RdF w' R lo A n c f ∧ w.grownBy w' (some R) ∧ v ≠ .slice none 0 0 := by
  go_enter Try.func70, Try.ntmps70
  go_wp2_with fail
  refine (l30Steps_any R lo A n c f 8 w h (by omega) (by omega)).mono ?_
  rintro e w1 ⟨v, zs, rfl, hzl, hok, hv, hr, hg⟩
  obtain ⟨A1, c1, rfl, hx1, _⟩ := hv.form
  obtain ⟨D, hD⟩ : ∃ D, D = zs.length := ⟨_, rfl⟩
  rw [← hD] at hzl ⊢
  have HD := Lib.hid hD
  have hs := hg.size
  clear hD hv hok
  go_wp2_with fail
  refine (l5Tidy_some A1 D c1 zs _ (by omega) HD.out.symm hx1).mono ?_
  rintro e w2 ⟨v2, rfl, hv2, hb2, hne⟩
  have hl := tidyTo_len zs 200
  have HNE := Lib.hid hne
  clear hne
  go_wp2
  go_ret
  exact ⟨_, _, rfl, hl, hv2.lower hs, hr.below hb2, grown_trans hg (grown_of_below hb2 _), HNE.out⟩

set_option maxRecDepth 100000 in
set_option maxHeartbeats 2000000 in
theorem l30AnyStair_any (R lo : Nat) (A : Option Addr) (n c f : Nat) (w : World) (h : RdF w R lo A n c (f + 44)) :
    Calls Try.prog 57 #[.pointer (some ⟨R, 0, none⟩)] w (StairG w R lo A n c f) := by
  have hRw := h.at_
  obtain ⟨i0, hi, hz0, hz1, hz2⟩ := info_parts infoStep
  go_enter Try.func57, Try.ntmps57
  go_wp2_with fail
  refine (l30Stair_any R lo A n c (f + 3) w (h.less (by omega))).mono ?_
  rintro e w1 ⟨v, zs, rfl, hzl, hv, hr, hg, hne⟩
  have HNE := Lib.hid hne
  clear hne
  go_wp2_with fail
  refine (pickF (f := f + 2) _ hr).mono ?_
  rintro e w2 ⟨k, rfl, k0, k1, hr2, hg2⟩
  have hv2 := hv.young hg2 hRw
  have hgw2 := grown_trans hg hg2
  by_cases hk : k = 0
  · have hk' : (k == 0) = true := by simp [hk]
    have HK := Lib.hid hk
    clear hk
    go_wp2_with fail
    refine (oneF (f := f + 1) [-1, 5, 200] (hr2.alloc _) rfl (by simp) (by simp) (ints_new w2 _ rfl _) (by have := hr2.at_; omega)).mono ?_
    rintro e w3 ⟨x, rfl, hxm, hr3, hg3⟩
    have hgw3 := grown_trans hgw2 (grown_trans (World.grownBy_alloc w2 _ _) hg3)
    have hv3 := (hv2.below ((Past.refl w2).alloc _)).young hg3 hRw
    go_wp2_with fail
    refine (pickF (f := f) _ hr3).mono ?_
    rintro e w4 ⟨y, rfl, y0, y1, hr4, hg4⟩
    have hv4 := hv3.young hg4 hRw
    have hgw4 := grown_trans hgw3 hg4
    have hs4 := hgw4.size
    obtain ⟨D, hD⟩ : ∃ D, D = zs.length := ⟨_, rfl⟩
    have hown : w4.ownsRow w.heap.size 42 2 v D (cellsStep zs) := by have := hv4; unfold ResStep at this; rw [← hD] at this; exact this
    have HO := Lib.hid hown
    rw [← hD] at hzl
    have HD := Lib.hid hD
    clear hown hD hv hv2 hv3 hv4 hxm
    go_wp2_with (first | (at_builtin; refine wpList_append_own _ rfl _ _ 25 rfl w.heap.size 42 i0 _ 2 16 Try.underlying25 hi hz0 hz1 hz2 rfl (by decide) _ D _ rfl (HO.out.alloc _) ⟨w4.heap.size, 0, none⟩ 1 1 [.int .i64 x, .int .i64 y] rfl rfl (newStep w4 _ _ _) (cellsStep_one [⟨x, y⟩]) (by unfold maxLen; omega) (by omega) (by simp; omega) ?_; intro v5 w5 hown' hgrow5 hnil5))
    go_ret
    exact ⟨_, zs ++ [⟨x, y⟩], rfl, by rw [List.length_append, ← HD.out]; simp; omega, ResStep.push (a := ⟨x, y⟩) (by rw [← HD.out]; exact hown'), (hr4.alloc _).grown hgrow5 (HO.out.alloc _) hRw, grown_own (grown_trans hgw4 (World.grownBy_alloc w4 _ _)) hgrow5 (HO.out.alloc _) (Nat.le_refl _), fun e => HNE.out (hnil5.1 e).1⟩
  · have hk' : (k == 0) = false := by simpa using hk
    clear hk
    go_wp2
    go_ret
    exact ⟨_, zs, rfl, by omega, hv2, hr2.less (by omega), hgw2, HNE.out⟩

end Go.Proofs.Ythopenknfadciaa
