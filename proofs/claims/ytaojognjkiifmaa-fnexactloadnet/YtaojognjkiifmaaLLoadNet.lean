/-
  FnExactLoadNet answers true at every input: impl.LoadNet answers as spec.LoadNet, leaves its arguments alone and owns its answer. No condition.
-/
import Derived.Test.YtaojognjkiifmaaSLoad
import Derived.Test.YtaojognjkiifmaaILoad
import Derived.Test.YtaojognjkiifmaaSame
import Derived.Test.YtaojognjkiifmaaMark
import Derived.Test.YtaojognjkiifmaaOpen
import Derived.Test.YtaojognjkiifmaaHeld
import Derived.Test.YtaojognjkiifmaaOpenW
import Derived.Test.YtaojognjkiifmaaMarkB
namespace Go.Proofs.Ytaojognjkiifmaa
open Go.ChangeShapes Go.WideShapes Go.ChangeAt Go.RowKit

set_option maxRecDepth 100000 in
set_option maxHeartbeats 2000000 in
theorem exactLoadNet_walk (m0 : Int) (A0 : Option Addr) (n0 c0 : Nat) (xs0 : List ArcD) (z1 : Int) (w : World) (hn0 : n0 ≤ maxLen) (hl0 : xs0.length = n0) (hx0 : ArcsAt w A0 xs0) :
    Calls Try.prog 10 #[.agg #[.int .i64 m0, .slice A0 n0 c0], .int .i64 z1] w fun e w' => e = .returned (.bool true) ∧ Below w.heap.size w w' := by
  have HX0 := Lib.hid hl0
  clear hl0
  have hP : Past w (w.alloc (.cells #[.int .i64 m0, .slice A0 n0 c0] 24)) := ((Past.refl w).alloc _)
  go_enter Try.func10, Try.ntmps10
  go_wp2_with fail
  refine (szNet_any m0 A0 n0 c0 (1048576) _ (by omega) (by omega) hn0).mono ?_
  rintro e w1 ⟨rfl, hb⟩
  have a0_0 := cell_in (p := ⟨w.heap.size, 0, none⟩) (v := .int .i64 m0) hb (by go_simp)
  have a0_1 := cell_in (p := ⟨w.heap.size, 1, none⟩) (v := .slice A0 n0 c0) hb (by go_simp)
  have hx0 := (hx0.below hP).below hb
  have hP := Past.trans hP hb
  clear hb
  by_cases h20s_0 : (n0 : Int) ≤ 1048576
  rotate_left
  · have hr : roomLeft (1048576) n0 = -1 := by unfold roomLeft; rw [if_pos (by omega)]
    rw [hr]
    go_wp2
    go_ret
    exact ⟨rfl, hP⟩
  have hr : roomLeft (1048576) n0 = 1048576 - n0 := by unfold roomLeft; rw [if_neg (by omega)]
  rw [hr]
  clear hr
  have h20_0 : n0 ≤ 1048576 := by omega
  go_wp2_with fail
  refine (toNet_any m0 A0 n0 c0 xs0 _ h20_0 HX0.out hx0).mono ?_
  rintro e w2 ⟨sg0, rfl, hb, hg, sm0⟩
  have hx0 := hx0.below hb
  have a0_0 := cell_in hb a0_0
  have a0_1 := cell_in hb a0_1
  have hP := Past.trans hP hb
  have s2 := hb.size
  clear hb hg
  go_wp2_with fail
  refine (specLoadNet_any m0 _ n0 n0 xs0 z1 _ h20_0 HX0.out (sm0.arcs HX0.out)).mono ?_
  rintro e w3 ⟨A4, c4, rfl, hz, _, hb⟩
  have hzl := lnetL_lenM m0 xs0 z1
  obtain ⟨zs, hzs⟩ : ∃ zs, zs = lnetL m0 xs0 z1 := ⟨_, rfl⟩
  obtain ⟨mz, hmz⟩ : ∃ mz, mz = lnetN m0 xs0 z1 := ⟨_, rfl⟩
  obtain ⟨N, hN⟩ : ∃ N, N = zs.length := ⟨_, rfl⟩
  rw [← hzs] at hz hzl
  rw [← hzs, ← hmz, ← hN]
  rw [← hN] at hzl
  have HZ := Lib.hid hzs
  have HMZ := Lib.hid hmz
  have HN := Lib.hid hN
  clear hN hzs hmz
  have hx0 := hx0.below hb
  have a0_0 := cell_in hb a0_0
  have a0_1 := cell_in hb a0_1
  have sm0 := sm0.below hb
  have hP := Past.trans hP hb
  have s3 := hb.size
  clear hb
  clear sm0
  have hb : Past w3 (w3.alloc (.cells #[.int .i64 mz, .slice A4 N c4] 32)) := (Past.refl _).alloc _
  obtain ⟨w4, hw6⟩ : ∃ u, u = w3.alloc (.cells #[.int .i64 mz, .slice A4 N c4] 32) := ⟨_, rfl⟩
  have a0_0o := fun (o : Obj) => cell_in ((Past.refl w3).alloc o) a0_0
  have a0_1o := fun (o : Obj) => cell_in ((Past.refl w3).alloc o) a0_1
  go_wp2_with fail
  clear a0_0o a0_1o
  have v_0 : w4.cell? ⟨w3.heap.size, 0, none⟩ = some (.int .i64 mz) := by rw [hw6]; go_simp
  have v_1 : w4.cell? ⟨w3.heap.size, 1, none⟩ = some (.slice A4 N c4) := by rw [hw6]; go_simp
  rw [← hw6] at hb ⊢
  have sxv : w3.heap.size < w4.heap.size := lt_of_cell v_0
  clear hw6
  have hx0 := hx0.below hb
  have a0_0 := cell_in hb a0_0
  have a0_1 := cell_in hb a0_1
  have hz := hz.below hb
  have hP := Past.trans hP hb
  have s4 := hb.size
  clear hb
  have hx0E := hx0
  have hzE := hz
  have sb : w.heap.size < w4.heap.size := lt_of_cell a0_0
  have sP := hP.size
  go_wp2_with fail
  refine (toNet_any m0 A0 n0 c0 xs0 _ h20_0 HX0.out hx0).mono ?_
  rintro e w5 ⟨g0, rfl, hb, hg0, hm0⟩
  have sg0 := hm0.1.lt
  have hx0 := hx0.below hb
  have a0_0 := cell_in hb a0_0
  have a0_1 := cell_in hb a0_1
  have hz := hz.below hb
  have v_0 := cell_in hb v_0
  have v_1 := cell_in hb v_1
  have hP := Past.trans hP hb
  have s5 := hb.size
  clear hb
  have hb : Past w5 (w5.alloc (.cells #[.int .i64 m0, .slice (some ⟨g0, 0, none⟩) n0 n0] 32)) := (Past.refl _).alloc _
  obtain ⟨w6, hw6⟩ : ∃ u, u = w5.alloc (.cells #[.int .i64 m0, .slice (some ⟨g0, 0, none⟩) n0 n0] 32) := ⟨_, rfl⟩
  go_wp2_with fail
  have p0_0 : w6.cell? ⟨w5.heap.size, 0, none⟩ = some (.int .i64 m0) := by rw [hw6]; go_simp
  have p0_1 : w6.cell? ⟨w5.heap.size, 1, none⟩ = some (.slice (some ⟨g0, 0, none⟩) n0 n0) := by rw [hw6]; go_simp
  rw [← hw6] at hb ⊢
  have sx0 : w5.heap.size < w6.heap.size := lt_of_cell p0_0
  clear hw6
  have hx0 := hx0.below hb
  have a0_0 := cell_in hb a0_0
  have a0_1 := cell_in hb a0_1
  have hz := hz.below hb
  have v_0 := cell_in hb v_0
  have v_1 := cell_in hb v_1
  have hm0 := hm0.below hb
  have hP := Past.trans hP hb
  have s6 := hb.size
  clear hb
  refine (implLoadNet_any m0 _ n0 n0 xs0 z1 _ h20_0 HX0.out (hm0.arcs HX0.out)).mono ?_
  rintro e w7 ⟨A7, c7, rfl, hi, ho, hb⟩
  rw [← HZ.out] at hi ho
  rw [← HN.out] at ho
  rw [← HZ.out, ← HMZ.out, ← HN.out]
  have hneA := ho.ne_new
  have hx0 := hx0.below hb
  have a0_0 := cell_in hb a0_0
  have a0_1 := cell_in hb a0_1
  have hz := hz.below hb
  have v_0 := cell_in hb v_0
  have v_1 := cell_in hb v_1
  have hm0 := hm0.below hb
  have p0_0 := cell_in hb p0_0
  have p0_1 := cell_in hb p0_1
  have hP := Past.trans hP hb
  have s7 := hb.size
  clear hb
  have hb : Past w7 (w7.alloc (.cells #[.int .i64 mz, .slice A7 N c7] 32)) := (Past.refl _).alloc _
  obtain ⟨w8, hw6⟩ : ∃ u, u = w7.alloc (.cells #[.int .i64 mz, .slice A7 N c7] 32) := ⟨_, rfl⟩
  have a0_0o := fun (o : Obj) => cell_in ((Past.refl w7).alloc o) a0_0
  have a0_1o := fun (o : Obj) => cell_in ((Past.refl w7).alloc o) a0_1
  have v_0o := fun (o : Obj) => cell_in ((Past.refl w7).alloc o) v_0
  have v_1o := fun (o : Obj) => cell_in ((Past.refl w7).alloc o) v_1
  have p0_0o := fun (o : Obj) => cell_in ((Past.refl w7).alloc o) p0_0
  have p0_1o := fun (o : Obj) => cell_in ((Past.refl w7).alloc o) p0_1
  go_wp2_with fail
  clear a0_0o a0_1o v_0o v_1o p0_0o p0_1o
  have r_0 : w8.cell? ⟨w7.heap.size, 0, none⟩ = some (.int .i64 mz) := by rw [hw6]; go_simp
  have r_1 : w8.cell? ⟨w7.heap.size, 1, none⟩ = some (.slice A7 N c7) := by rw [hw6]; go_simp
  rw [← hw6] at hb ⊢
  have sxr : w7.heap.size < w8.heap.size := lt_of_cell r_0
  clear hw6
  have hx0 := hx0.below hb
  have a0_0 := cell_in hb a0_0
  have a0_1 := cell_in hb a0_1
  have hz := hz.below hb
  have v_0 := cell_in hb v_0
  have v_1 := cell_in hb v_1
  have hm0 := hm0.below hb
  have p0_0 := cell_in hb p0_0
  have p0_1 := cell_in hb p0_1
  have hi := hi.below hb
  have ho := ho.below hb
  have hP := Past.trans hP hb
  have s8 := hb.size
  clear hb
  go_wp2_with fail
  refine (eqNet_same mz A7 A4 N c7 c4 zs _ hzl HN.out.symm hi hz).mono ?_
  rintro e w9 ⟨rfl, hb⟩
  have hx0 := hx0.below hb
  have a0_0 := cell_in hb a0_0
  have a0_1 := cell_in hb a0_1
  have hz := hz.below hb
  have v_0 := cell_in hb v_0
  have v_1 := cell_in hb v_1
  have hm0 := hm0.below hb
  have p0_0 := cell_in hb p0_0
  have p0_1 := cell_in hb p0_1
  have hi := hi.below hb
  have ho := ho.below hb
  have r_0 := cell_in hb r_0
  have r_1 := cell_in hb r_1
  have hP := Past.trans hP hb
  have s9 := hb.size
  clear hb
  have hq := (hm0.arcs HX0.out)
  go_wp2_with fail
  go_region_held3 (fun w' => w'.cell? ⟨w.heap.size, 0, none⟩ = some (.int .i64 m0) ∧ w'.cell? ⟨w.heap.size, 1, none⟩ = some (.slice A0 n0 c0) ∧ w'.cell? ⟨w5.heap.size, 0, none⟩ = some (.int .i64 m0) ∧ w'.cell? ⟨w5.heap.size, 1, none⟩ = some (.slice (some ⟨g0, 0, none⟩) n0 n0)) (go_keep)
    (first
      | (go_at_call 18; refine (toNet_any m0 A0 n0 c0 xs0 _ h20_0 HX0.out hx0.drew).mono ?_; rintro e w10 ⟨g9, rfl, hb9, hg9, hm9⟩; have a0_0 := cell_in hb9 a0_0; have a0_1 := cell_in hb9 a0_1; have p0_0 := cell_in hb9 p0_0; have p0_1 := cell_in hb9 p0_1)
      | (go_at_call 22; refine (eqNet_same m0 _ _ n0 n0 n0 xs0 _ h20_0 HX0.out (hq.drew.below hb9) (hm9.arcs HX0.out)).mono ?_; rintro e w11 ⟨rfl, hb10⟩; have a0_0 := cell_in hb10 a0_0; have a0_1 := cell_in hb10 a0_1; have p0_0 := cell_in hb10 p0_0; have p0_1 := cell_in hb10 p0_1))
  have hb : Past w9 w11 := (Past.refl w9).drew.trans (Past.trans hb9 hb10)
  clear hb9 hb10 hq hm9 hg9
  have hx0 := hx0.below hb
  have hz := hz.below hb
  have v_0 := cell_in hb v_0
  have v_1 := cell_in hb v_1
  have hm0 := hm0.below hb
  have hi := hi.below hb
  have ho := ho.below hb
  have r_0 := cell_in hb r_0
  have r_1 := cell_in hb r_1
  have hP := Past.trans hP hb
  have s11 := hb.size
  clear hb
  clear p0_0 p0_1
  have hr0 := hm0.1
  clear hm0
  go_wp2_with fail
  refine (markNet_any m0 (some ⟨g0, 0, none⟩) n0 n0 (1) g0 52 _ h20_0 _ (by first | rfl | (push_cast; omega)) (by omega) (.inr ⟨g0, n0 * 5, rfl, Nat.le_refl _, hr0, by omega⟩ : OwnAt _ g0 (some ⟨g0, 0, none⟩) 52 5 n0)).mono ?_
  rintro e w12 ⟨rfl, hb, _⟩
  have hb' : w11.grownBy w12 (some g0) := hb
  have hP : Past w w12 := below_marked hP hb (.inr ⟨g0, n0 * 5, rfl, Nat.le_refl _, hr0, by omega⟩ : OwnAt _ g0 (some ⟨g0, 0, none⟩) 52 5 n0) (by omega)
  have hx0 := ArcsAt.old hx0E hx0 hb' (by omega)
  have a0_0 := cell_far hb' a0_0 (by simp only [ne_eq]; omega)
  have a0_1 := cell_far hb' a0_1 (by simp only [ne_eq]; omega)
  have hz := ArcsAt.old hzE hz hb' (by omega)
  have v_0 := cell_far hb' v_0 (by simp only [ne_eq]; omega)
  have v_1 := cell_far hb' v_1 (by simp only [ne_eq]; omega)
  have hi := ArcsAt.young (by rw [← HN.out]; exact ho) hi hb' (by omega)
  have ho := ho.young hb' (by omega)
  have r_0 := cell_far hb' r_0 (by simp only [ne_eq]; omega)
  have r_1 := cell_far hb' r_1 (by simp only [ne_eq]; omega)
  have s12 := hb'.size
  clear hb hb' hr0
  have hkn : ¬ (((1 : Nat) : Int) + 5 * (n0 : Int) < 0) := by omega
  go_wp2_with fail
  refine (eqNet_same mz A7 A4 N c7 c4 zs _ hzl HN.out.symm hi hz).mono ?_
  rintro e w13 ⟨rfl, hb⟩
  have hx0 := hx0.below hb
  have a0_0 := cell_in hb a0_0
  have a0_1 := cell_in hb a0_1
  have hz := hz.below hb
  have v_0 := cell_in hb v_0
  have v_1 := cell_in hb v_1
  have hi := hi.below hb
  have ho := ho.below hb
  have r_0 := cell_in hb r_0
  have r_1 := cell_in hb r_1
  have hP := Past.trans hP hb
  have s13 := hb.size
  clear hb
  go_wp2_with fail
  refine (markNet_any mz A7 N c7 1 w6.heap.size 52 _ hzl _ rfl (by omega) ho).mono ?_
  rintro e w14 ⟨rfl, hb, hk⟩
  have hbl : Below w6.heap.size w13 w14 := below_own hb ho (by omega)
  have hP : Past w w14 := below_marked hP hb ho (by omega)
  clear hi ho
  have hx0 := ArcsAt.under hx0E hx0 hbl (by omega)
  have a0_0 := (hbl.cell (p := ⟨w.heap.size, 0, none⟩) (by simp only; omega)).trans a0_0
  have a0_1 := (hbl.cell (p := ⟨w.heap.size, 1, none⟩) (by simp only; omega)).trans a0_1
  have hz := ArcsAt.under hzE hz hbl (by omega)
  have v_0 := (hbl.cell (p := ⟨w3.heap.size, 0, none⟩) (by simp only; omega)).trans v_0
  have v_1 := (hbl.cell (p := ⟨w3.heap.size, 1, none⟩) (by simp only; omega)).trans v_1
  have r_0 := hb.cell r_0 (fun e => hneA e.symm)
  have r_1 := hb.cell r_1 (fun e => hneA e.symm)
  clear hb hbl
  go_wp2_with fail
  refine (heldNet_any mz A7 N c7 1 _ hzl _ rfl (by omega) hk).mono ?_
  rintro e w15 ⟨rfl, hb⟩
  have hx0 := hx0.below hb
  have a0_0 := cell_in hb a0_0
  have a0_1 := cell_in hb a0_1
  have hz := hz.below hb
  have v_0 := cell_in hb v_0
  have v_1 := cell_in hb v_1
  have r_0 := cell_in hb r_0
  have r_1 := cell_in hb r_1
  have hk := hk.below hb
  have hP := Past.trans hP hb
  have s15 := hb.size
  clear hb
  have hqn : ¬ (((1 : Nat) : Int) + 5 * (N : Int) < 0) := by omega
  go_wp2_with fail
  refine (toNet_any m0 A0 n0 c0 xs0 _ h20_0 HX0.out hx0).mono ?_
  rintro e w16 ⟨tg0, rfl, hb, hg, tm0⟩
  have hx0 := hx0.below hb
  have a0_0 := cell_in hb a0_0
  have a0_1 := cell_in hb a0_1
  have hz := hz.below hb
  have v_0 := cell_in hb v_0
  have v_1 := cell_in hb v_1
  have r_0 := cell_in hb r_0
  have r_1 := cell_in hb r_1
  have hk := hk.below hb
  have hP := Past.trans hP hb
  have s16 := hb.size
  clear hb hg
  go_wp2_with fail
  refine (implLoadNet_any m0 _ n0 n0 xs0 z1 _ h20_0 HX0.out (tm0.arcs HX0.out)).mono ?_
  rintro e w17 ⟨A20, c20, rfl, hi20, _, hb⟩
  rw [← HZ.out] at hi20
  rw [← HZ.out, ← HMZ.out, ← HN.out]
  have hx0 := hx0.below hb
  have a0_0 := cell_in hb a0_0
  have a0_1 := cell_in hb a0_1
  have hz := hz.below hb
  have v_0 := cell_in hb v_0
  have v_1 := cell_in hb v_1
  have r_0 := cell_in hb r_0
  have r_1 := cell_in hb r_1
  have hk := hk.below hb
  have tm0 := tm0.below hb
  have hP := Past.trans hP hb
  have s17 := hb.size
  clear hb
  have hb : Past w17 (w17.alloc (.cells #[.int .i64 mz, .slice A20 N c20] 32)) := (Past.refl _).alloc _
  obtain ⟨w18, hw6⟩ : ∃ u, u = w17.alloc (.cells #[.int .i64 mz, .slice A20 N c20] 32) := ⟨_, rfl⟩
  have a0_0o := fun (o : Obj) => cell_in ((Past.refl w17).alloc o) a0_0
  have a0_1o := fun (o : Obj) => cell_in ((Past.refl w17).alloc o) a0_1
  have v_0o := fun (o : Obj) => cell_in ((Past.refl w17).alloc o) v_0
  have v_1o := fun (o : Obj) => cell_in ((Past.refl w17).alloc o) v_1
  have r_0o := fun (o : Obj) => cell_in ((Past.refl w17).alloc o) r_0
  have r_1o := fun (o : Obj) => cell_in ((Past.refl w17).alloc o) r_1
  go_wp2_with fail
  clear a0_0o a0_1o v_0o v_1o r_0o r_1o
  have h_0 : w18.cell? ⟨w17.heap.size, 0, none⟩ = some (.int .i64 mz) := by rw [hw6]; go_simp
  have h_1 : w18.cell? ⟨w17.heap.size, 1, none⟩ = some (.slice A20 N c20) := by rw [hw6]; go_simp
  rw [← hw6] at hb ⊢
  have sxh : w17.heap.size < w18.heap.size := lt_of_cell h_0
  clear hw6
  have hx0 := hx0.below hb
  have a0_0 := cell_in hb a0_0
  have a0_1 := cell_in hb a0_1
  have hz := hz.below hb
  have v_0 := cell_in hb v_0
  have v_1 := cell_in hb v_1
  have r_0 := cell_in hb r_0
  have r_1 := cell_in hb r_1
  have hk := hk.below hb
  have tm0 := tm0.below hb
  have hi20 := hi20.below hb
  have hP := Past.trans hP hb
  have s18 := hb.size
  clear hb
  go_wp2_with fail
  refine (eqNet_same mz A20 A4 N c20 c4 zs _ hzl HN.out.symm hi20 hz).mono ?_
  rintro e w19 ⟨rfl, hb⟩
  have hx0 := hx0.below hb
  have a0_0 := cell_in hb a0_0
  have a0_1 := cell_in hb a0_1
  have hz := hz.below hb
  have v_0 := cell_in hb v_0
  have v_1 := cell_in hb v_1
  have r_0 := cell_in hb r_0
  have r_1 := cell_in hb r_1
  have hk := hk.below hb
  have tm0 := tm0.below hb
  have hi20 := hi20.below hb
  have h_0 := cell_in hb h_0
  have h_1 := cell_in hb h_1
  have hP := Past.trans hP hb
  have s19 := hb.size
  clear hb
  go_wp2_with fail
  refine (heldNet_any mz A7 N c7 1 _ hzl _ rfl (by omega) hk).mono ?_
  rintro e w20 ⟨rfl, hb⟩
  have hx0 := hx0.below hb
  have a0_0 := cell_in hb a0_0
  have a0_1 := cell_in hb a0_1
  have hz := hz.below hb
  have v_0 := cell_in hb v_0
  have v_1 := cell_in hb v_1
  have r_0 := cell_in hb r_0
  have r_1 := cell_in hb r_1
  have hk := hk.below hb
  have tm0 := tm0.below hb
  have hi20 := hi20.below hb
  have h_0 := cell_in hb h_0
  have h_1 := cell_in hb h_1
  have hP := Past.trans hP hb
  have s20 := hb.size
  clear hb
  go_wp2
  go_ret
  exact ⟨rfl, hP⟩

set_option maxRecDepth 100000 in
theorem exactLoadNet_lifted (os : Os) (started : os.Started) (H : Type) (enc : TypeId × Value → H) :
    ReturnsInHanded {} Try.checked os 10 .any (Rows.fnExactLoadNetSpec.pre6 enc Try.prog Try.f10 Rows.fnExactLoadNetRow.domain false) (Rows.fnExactLoadNetSpec.post enc Try.prog Try.f10 false true false false) := by
  refine returnsInHanded_of_change (C := Try.checked) own started (by kernel_rfl) Try.func10
    (ChangeSpec.witness6 (enc := enc) (C := Try.checked) false ⟨#[], #[.agg #[.int .i64 0, .slice none 0 0], .int .i64 0], []⟩ 8 (by kernel_rfl) (by kernel_rfl) (by kernel_rfl) (by kernel_rfl)) ?_
  intro W base args ds gs before hval0 hW hcnd _
  have hval : ∀ (j : Nat) t v, Try.f10.params[j]? = some t → args[j]? = some v → Value.okWide Try.prog W .any base t v := hval0
  have hW' := hW
  obtain ⟨p, q, hA0, hV, rfl, hfz, hnd⟩ := hW
  have hA : DataW.TrodAll enc Try.prog W 0 (fun _ => true) true Try.f10.params.toList args.toList ds p := hA0
  rw [Try.params10] at hA hval
  obtain ⟨v0, vs0, d0, ds0, p0, q0, hargs, rfl, rfl, h0, r0⟩ := trodAll_cons hA
  obtain ⟨v1, vs1, d1, ds1, p1, q1, rfl, rfl, rfl, h1, r1⟩ := trodAll_cons r0
  obtain ⟨rfl, rfl, rfl⟩ := trodAll_nil r1
  obtain rfl : args = #[v0, v1] := by cases args; simp_all
  obtain ⟨rfl, rfl⟩ := trodVars_none hV
  have k0 := h0
  have lt0 := places_lt k0
  have k1 := h1
  have lt1 := places_lt k1
  obtain ⟨m0, A0, n0, c0, xs0, rfl, hl0, hn0, hx0, _⟩ := open_net (hval 0 24 v0 rfl rfl) h0
  obtain ⟨z1, rfl⟩ := okWide_int Try.underlying3 (hval 1 3 v1 rfl rfl)
  clear hA0 hval0
  refine (exactLoadNet_walk m0 A0 n0 c0 xs0 z1 W hn0 hl0 hx0).mono fun e W' ⟨he, bel⟩ => ?_
  subst he
  exact ⟨_, rfl, _, _, _, [], _, [], hW', trodAll_mk1 (shut_bool Try.underlying4 _), (trodAll_cons_mk (Below.trod laidOut (by kernel_rfl) (of_decide_eq_true (by kernel_rfl)) k0 bel lt0) (trodAll_cons_mk (Below.trod laidOut (by kernel_rfl) (of_decide_eq_true (by kernel_rfl)) k1 bel lt1) trodAll_mk0)), rfl, bel.frame _, fun h => by cases h⟩

/-- The given statement. -/
theorem exactLoadNet_proved : Rows.FnExactLoadNetSaid :=
  OpenClaim.holds_of_wide 10 Try.f10 rfl rfl rfl rfl rfl rfl rfl ⟨rfl, rfl, rfl, rfl, rfl⟩ rfl rfl rfl rfl rfl (by kernel_rfl) Try.func10 (by kernel_rfl)
    (of_decide_eq_true (by kernel_rfl)) (by unfold Func.isWrapper; first | (rw [if_pos (by decide +kernel)]; kernel_rfl) | (rw [if_neg (by decide +kernel)]; exact ⟨rfl, rfl⟩))
    (fun os started H enc _ => exactLoadNet_lifted os started H enc)

end Go.Proofs.Ytaojognjkiifmaa
