/-
  FnExactLiveNow answers true at every input: impl.LiveNow answers as spec.LiveNow, leaves its arguments alone and owns its answer. No condition.
-/
import Derived.Test.YtaojognjkiifmabSLiveN
import Derived.Test.YtaojognjkiifmabILiveN
import Derived.Test.YtaojognjkiifmabRLive
import Derived.Test.YtaojognjkiifmabRLiveM
import Derived.Test.YtaojognjkiifmabSame
import Derived.Test.YtaojognjkiifmabMark
import Derived.Test.YtaojognjkiifmabOpen
import Derived.Test.YtaojognjkiifmabHeld
import Derived.Test.YtaojognjkiifmabOpenW
import Derived.Test.YtaojognjkiifmabMarkB
namespace Go.Proofs.Ytaojognjkiifmab
open Go.ChangeShapes Go.WideShapes Go.ChangeAt Go.RowKit

set_option maxRecDepth 100000 in
set_option maxHeartbeats 2000000 in
theorem exactLiveNow_walk (m0 : Int) (A0 : Option Addr) (n0 c0 : Nat) (xs0 : List ArcD) (B0 : Option Addr) (l0 d0 : Nat) (ns0 : List NewsD) (w : World) (hn0 : n0 ≤ maxLen) (hl0 : xs0.length = n0) (hx0 : ArcsAt w A0 xs0) (hnl0 : l0 ≤ maxLen) (hly0 : ns0.length = l0) (hy0 : NewssAt w B0 ns0) :
    Calls Try.prog 6 #[.agg #[.int .i64 m0, .slice A0 n0 c0, .slice B0 l0 d0]] w fun e w' => e = .returned (.bool true) ∧ Below w.heap.size w w' := by
  have HX0 := Lib.hid hl0
  have HY0 := Lib.hid hly0
  clear hl0 hly0
  have hP : Past w (w.alloc (.cells #[.int .i64 m0, .slice A0 n0 c0, .slice B0 l0 d0] 47)) := ((Past.refl w).alloc _)
  go_enter Try.func6, Try.ntmps6
  go_wp2_with fail
  refine (szLive_any m0 A0 n0 c0 B0 l0 d0 (1048576) _ (by omega) (by omega) hn0 hnl0).mono ?_
  rintro e w1 ⟨rfl, hb⟩
  have a0_0 := cell_in (p := ⟨w.heap.size, 0, none⟩) (v := .int .i64 m0) hb (by go_simp)
  have a0_1 := cell_in (p := ⟨w.heap.size, 1, none⟩) (v := .slice A0 n0 c0) hb (by go_simp)
  have a0_2 := cell_in (p := ⟨w.heap.size, 2, none⟩) (v := .slice B0 l0 d0) hb (by go_simp)
  have hx0 := (hx0.below hP).below hb
  have hy0 := (hy0.below hP).below hb
  have hP := Past.trans hP hb
  clear hb
  have hno : ∀ r : Int, roomLive 1048576 n0 l0 = r → r < 0 ∨ (n0 ≤ 1048576 ∧ l0 ≤ 1048576 ∧ r = 1048576 - n0 - l0) := by
    intro r hr
    unfold roomLive roomLeft at hr
    split at hr
    · split at hr
      · left; omega
      · right; exact ⟨by omega, by omega, by omega⟩
    · left; omega
  obtain ⟨r, hr⟩ : ∃ r, roomLive 1048576 n0 l0 = r := ⟨_, rfl⟩
  have hno := hno r hr
  rw [hr]
  clear hr
  by_cases hr0 : r < 0
  · clear hno
    go_wp2
    go_ret
    exact ⟨rfl, hP⟩
  have h20_0 : n0 ≤ 1048576 := by omega
  have k20_0 : l0 ≤ 1048576 := by omega
  clear hno
  go_wp2_with fail
  refine (toLive_any m0 A0 n0 c0 xs0 B0 l0 d0 ns0 _ h20_0 HX0.out hx0 k20_0 HY0.out hy0).mono ?_
  rintro e w2 ⟨sg0, sgb0, rfl, hb, hg, sm0, hgs, sw0⟩
  have hx0 := hx0.below hb
  have hy0 := hy0.below hb
  have a0_0 := cell_in hb a0_0
  have a0_1 := cell_in hb a0_1
  have a0_2 := cell_in hb a0_2
  have hP := Past.trans hP hb
  have s2 := hb.size
  clear hb hg
  go_wp2_with fail
  refine (specLiveNow_any m0 _ n0 n0 xs0 _ l0 l0 ns0 _ h20_0 HX0.out (sm0.arcs HX0.out) k20_0 HY0.out (sw0.at_ HY0.out)).mono ?_
  rintro e w3 ⟨A4, c4, rfl, hz, _, hb⟩
  have hzl := lnowL_lenM m0 xs0 ns0
  obtain ⟨zs, hzs⟩ : ∃ zs, zs = lnowL m0 xs0 ns0 := ⟨_, rfl⟩
  obtain ⟨mz, hmz⟩ : ∃ mz, mz = lnowN m0 xs0 ns0 := ⟨_, rfl⟩
  obtain ⟨N, hN⟩ : ∃ N, N = zs.length := ⟨_, rfl⟩
  rw [← hzs] at hz hzl
  rw [← hzs, ← hmz, ← hN]
  rw [← hN] at hzl
  have HZ := Lib.hid hzs
  have HMZ := Lib.hid hmz
  have HN := Lib.hid hN
  clear hN hzs hmz
  have hx0 := hx0.below hb
  have hy0 := hy0.below hb
  have a0_0 := cell_in hb a0_0
  have a0_1 := cell_in hb a0_1
  have a0_2 := cell_in hb a0_2
  have sm0 := sm0.below hb
  have sw0 := sw0.below hb
  have hP := Past.trans hP hb
  have s3 := hb.size
  clear hb
  clear sm0 sw0
  have hb : Past w3 (w3.alloc (.cells #[.int .i64 mz, .slice A4 N c4] 25)) := (Past.refl _).alloc _
  obtain ⟨w4, hw6⟩ : ∃ u, u = w3.alloc (.cells #[.int .i64 mz, .slice A4 N c4] 25) := ⟨_, rfl⟩
  have a0_0o := fun (o : Obj) => cell_in ((Past.refl w3).alloc o) a0_0
  have a0_1o := fun (o : Obj) => cell_in ((Past.refl w3).alloc o) a0_1
  have a0_2o := fun (o : Obj) => cell_in ((Past.refl w3).alloc o) a0_2
  go_wp2_with fail
  clear a0_0o a0_1o a0_2o
  have v_0 : w4.cell? ⟨w3.heap.size, 0, none⟩ = some (.int .i64 mz) := by rw [hw6]; go_simp
  have v_1 : w4.cell? ⟨w3.heap.size, 1, none⟩ = some (.slice A4 N c4) := by rw [hw6]; go_simp
  rw [← hw6] at hb ⊢
  have sxv : w3.heap.size < w4.heap.size := lt_of_cell v_0
  clear hw6
  have hx0 := hx0.below hb
  have hy0 := hy0.below hb
  have a0_0 := cell_in hb a0_0
  have a0_1 := cell_in hb a0_1
  have a0_2 := cell_in hb a0_2
  have hz := hz.below hb
  have hP := Past.trans hP hb
  have s4 := hb.size
  clear hb
  have hx0E := hx0
  have hy0E := hy0
  have hzE := hz
  have sb : w.heap.size < w4.heap.size := lt_of_cell a0_0
  have sP := hP.size
  go_wp2_with fail
  refine (toLive_any m0 A0 n0 c0 xs0 B0 l0 d0 ns0 _ h20_0 HX0.out hx0 k20_0 HY0.out hy0).mono ?_
  rintro e w5 ⟨g0, gb0, rfl, hb, hg0, hm0, hgh0, hw0⟩
  have sg0 := hm0.1.lt
  have sgb0 := hw0.1.lt
  have hx0 := hx0.below hb
  have hy0 := hy0.below hb
  have a0_0 := cell_in hb a0_0
  have a0_1 := cell_in hb a0_1
  have a0_2 := cell_in hb a0_2
  have hz := hz.below hb
  have v_0 := cell_in hb v_0
  have v_1 := cell_in hb v_1
  have hP := Past.trans hP hb
  have s5 := hb.size
  clear hb
  have hb : Past w5 (w5.alloc (.cells #[.int .i64 m0, .slice (some ⟨g0, 0, none⟩) n0 n0, .slice (some ⟨gb0, 0, none⟩) l0 l0] 52)) := (Past.refl _).alloc _
  obtain ⟨w6, hw6⟩ : ∃ u, u = w5.alloc (.cells #[.int .i64 m0, .slice (some ⟨g0, 0, none⟩) n0 n0, .slice (some ⟨gb0, 0, none⟩) l0 l0] 52) := ⟨_, rfl⟩
  go_wp2_with fail
  have p0_0 : w6.cell? ⟨w5.heap.size, 0, none⟩ = some (.int .i64 m0) := by rw [hw6]; go_simp
  have p0_1 : w6.cell? ⟨w5.heap.size, 1, none⟩ = some (.slice (some ⟨g0, 0, none⟩) n0 n0) := by rw [hw6]; go_simp
  have p0_2 : w6.cell? ⟨w5.heap.size, 2, none⟩ = some (.slice (some ⟨gb0, 0, none⟩) l0 l0) := by rw [hw6]; go_simp
  rw [← hw6] at hb ⊢
  have sx0 : w5.heap.size < w6.heap.size := lt_of_cell p0_0
  clear hw6
  have hx0 := hx0.below hb
  have hy0 := hy0.below hb
  have a0_0 := cell_in hb a0_0
  have a0_1 := cell_in hb a0_1
  have a0_2 := cell_in hb a0_2
  have hz := hz.below hb
  have v_0 := cell_in hb v_0
  have v_1 := cell_in hb v_1
  have hm0 := hm0.below hb
  have hw0 := hw0.below hb
  have hP := Past.trans hP hb
  have s6 := hb.size
  clear hb
  refine (implLiveNow_any m0 _ n0 n0 xs0 _ l0 l0 ns0 _ h20_0 HX0.out (hm0.arcs HX0.out) k20_0 HY0.out (hw0.at_ HY0.out)).mono ?_
  rintro e w7 ⟨A7, c7, rfl, hi, ho, hb⟩
  rw [← HZ.out] at hi ho
  rw [← HN.out] at ho
  rw [← HZ.out, ← HMZ.out, ← HN.out]
  have hneA := ho.ne_new
  have hx0 := hx0.below hb
  have hy0 := hy0.below hb
  have a0_0 := cell_in hb a0_0
  have a0_1 := cell_in hb a0_1
  have a0_2 := cell_in hb a0_2
  have hz := hz.below hb
  have v_0 := cell_in hb v_0
  have v_1 := cell_in hb v_1
  have hm0 := hm0.below hb
  have hw0 := hw0.below hb
  have p0_0 := cell_in hb p0_0
  have p0_1 := cell_in hb p0_1
  have p0_2 := cell_in hb p0_2
  have hP := Past.trans hP hb
  have s7 := hb.size
  clear hb
  have hb : Past w7 (w7.alloc (.cells #[.int .i64 mz, .slice A7 N c7] 25)) := (Past.refl _).alloc _
  obtain ⟨w8, hw6⟩ : ∃ u, u = w7.alloc (.cells #[.int .i64 mz, .slice A7 N c7] 25) := ⟨_, rfl⟩
  have a0_0o := fun (o : Obj) => cell_in ((Past.refl w7).alloc o) a0_0
  have a0_1o := fun (o : Obj) => cell_in ((Past.refl w7).alloc o) a0_1
  have a0_2o := fun (o : Obj) => cell_in ((Past.refl w7).alloc o) a0_2
  have v_0o := fun (o : Obj) => cell_in ((Past.refl w7).alloc o) v_0
  have v_1o := fun (o : Obj) => cell_in ((Past.refl w7).alloc o) v_1
  have p0_0o := fun (o : Obj) => cell_in ((Past.refl w7).alloc o) p0_0
  have p0_1o := fun (o : Obj) => cell_in ((Past.refl w7).alloc o) p0_1
  have p0_2o := fun (o : Obj) => cell_in ((Past.refl w7).alloc o) p0_2
  go_wp2_with fail
  clear a0_0o a0_1o a0_2o v_0o v_1o p0_0o p0_1o p0_2o
  have r_0 : w8.cell? ⟨w7.heap.size, 0, none⟩ = some (.int .i64 mz) := by rw [hw6]; go_simp
  have r_1 : w8.cell? ⟨w7.heap.size, 1, none⟩ = some (.slice A7 N c7) := by rw [hw6]; go_simp
  rw [← hw6] at hb ⊢
  have sxr : w7.heap.size < w8.heap.size := lt_of_cell r_0
  clear hw6
  have hx0 := hx0.below hb
  have hy0 := hy0.below hb
  have a0_0 := cell_in hb a0_0
  have a0_1 := cell_in hb a0_1
  have a0_2 := cell_in hb a0_2
  have hz := hz.below hb
  have v_0 := cell_in hb v_0
  have v_1 := cell_in hb v_1
  have hm0 := hm0.below hb
  have hw0 := hw0.below hb
  have p0_0 := cell_in hb p0_0
  have p0_1 := cell_in hb p0_1
  have p0_2 := cell_in hb p0_2
  have hi := hi.below hb
  have ho := ho.below hb
  have hP := Past.trans hP hb
  have s8 := hb.size
  clear hb
  go_wp2_with fail
  refine (eqNet_same mz A7 A4 N c7 c4 zs _ hzl HN.out.symm hi hz).mono ?_
  rintro e w9 ⟨rfl, hb⟩
  have hx0 := hx0.below hb
  have hy0 := hy0.below hb
  have a0_0 := cell_in hb a0_0
  have a0_1 := cell_in hb a0_1
  have a0_2 := cell_in hb a0_2
  have hz := hz.below hb
  have v_0 := cell_in hb v_0
  have v_1 := cell_in hb v_1
  have hm0 := hm0.below hb
  have hw0 := hw0.below hb
  have p0_0 := cell_in hb p0_0
  have p0_1 := cell_in hb p0_1
  have p0_2 := cell_in hb p0_2
  have hi := hi.below hb
  have ho := ho.below hb
  have r_0 := cell_in hb r_0
  have r_1 := cell_in hb r_1
  have hP := Past.trans hP hb
  have s9 := hb.size
  clear hb
  have hq := (hm0.arcs HX0.out)
  have hqn := (hw0.at_ HY0.out)
  go_wp2_with fail
  go_region_held3 (fun w' => w'.cell? ⟨w.heap.size, 0, none⟩ = some (.int .i64 m0) ∧ w'.cell? ⟨w.heap.size, 1, none⟩ = some (.slice A0 n0 c0) ∧ w'.cell? ⟨w.heap.size, 2, none⟩ = some (.slice B0 l0 d0) ∧ w'.cell? ⟨w5.heap.size, 0, none⟩ = some (.int .i64 m0) ∧ w'.cell? ⟨w5.heap.size, 1, none⟩ = some (.slice (some ⟨g0, 0, none⟩) n0 n0) ∧ w'.cell? ⟨w5.heap.size, 2, none⟩ = some (.slice (some ⟨gb0, 0, none⟩) l0 l0)) (go_keep)
    (first
      | (go_at_call 29; refine (toLive_any m0 A0 n0 c0 xs0 B0 l0 d0 ns0 _ h20_0 HX0.out hx0.drew k20_0 HY0.out hy0.drew).mono ?_; rintro e w10 ⟨g9, h9, rfl, hb9, hg9, hm9, hgh9, hw9⟩; have a0_0 := cell_in hb9 a0_0; have a0_1 := cell_in hb9 a0_1; have a0_2 := cell_in hb9 a0_2; have p0_0 := cell_in hb9 p0_0; have p0_1 := cell_in hb9 p0_1; have p0_2 := cell_in hb9 p0_2)
      | (go_at_call 31; refine (eqLive_same m0 _ _ n0 n0 n0 xs0 _ _ l0 l0 l0 ns0 _ h20_0 HX0.out (hq.drew.below hb9) (hm9.arcs HX0.out) k20_0 HY0.out (hqn.drew.below hb9) (hw9.at_ HY0.out)).mono ?_; rintro e w11 ⟨rfl, hb10⟩; have a0_0 := cell_in hb10 a0_0; have a0_1 := cell_in hb10 a0_1; have a0_2 := cell_in hb10 a0_2; have p0_0 := cell_in hb10 p0_0; have p0_1 := cell_in hb10 p0_1; have p0_2 := cell_in hb10 p0_2))
  have hb : Past w9 w11 := (Past.refl w9).drew.trans (Past.trans hb9 hb10)
  clear hb9 hb10 hq hqn hm9 hg9 hw9 hgh9
  have hx0 := hx0.below hb
  have hy0 := hy0.below hb
  have hz := hz.below hb
  have v_0 := cell_in hb v_0
  have v_1 := cell_in hb v_1
  have hm0 := hm0.below hb
  have hw0 := hw0.below hb
  have hi := hi.below hb
  have ho := ho.below hb
  have r_0 := cell_in hb r_0
  have r_1 := cell_in hb r_1
  have hP := Past.trans hP hb
  have s11 := hb.size
  clear hb
  clear p0_0 p0_1 p0_2
  have hr0 := hm0.1
  have hs0 := hw0.1
  clear hm0 hw0
  go_wp2_with fail
  refine (markLive_any m0 g0 n0 gb0 l0 1 _ h20_0 k20_0 _ rfl (by omega) hr0 hs0 hgh0).mono ?_
  rintro e w12 ⟨rfl, w12m, hb1, hb2⟩
  have hb' : w11.grownBy w12m (some g0) := hb1
  have hP : Past w w12m := below_marked (A := some ⟨g0, 0, none⟩) hP hb' (.inr ⟨g0, n0 * 5, rfl, Nat.le_refl _, hr0, by omega⟩ : OwnAt _ g0 (some ⟨g0, 0, none⟩) 34 5 n0) (by omega)
  have hx0 := ArcsAt.old hx0E hx0 hb' (by omega)
  have hy0 := NewssAt.old hy0E hy0 hb' (by omega)
  have a0_0 := cell_far hb' a0_0 (by simp only [ne_eq]; omega)
  have a0_1 := cell_far hb' a0_1 (by simp only [ne_eq]; omega)
  have a0_2 := cell_far hb' a0_2 (by simp only [ne_eq]; omega)
  have hz := ArcsAt.old hzE hz hb' (by omega)
  have v_0 := cell_far hb' v_0 (by simp only [ne_eq]; omega)
  have v_1 := cell_far hb' v_1 (by simp only [ne_eq]; omega)
  have hi := ArcsAt.young (by rw [← HN.out]; exact ho) hi hb' (by omega)
  have ho := ho.young hb' (by omega)
  have r_0 := cell_far hb' r_0 (by simp only [ne_eq]; omega)
  have r_1 := cell_far hb' r_1 (by simp only [ne_eq]; omega)
  have hs0 := hs0.young hb' (by omega)
  have s12m := hb'.size
  clear hb1 hb' hr0
  have hb' : w12m.grownBy w12 (some gb0) := hb2
  have hP : Past w w12 := below_marked (A := some ⟨gb0, 0, none⟩) hP hb' (.inr ⟨gb0, l0 * 3, rfl, Nat.le_refl _, hs0, by omega⟩ : OwnAt _ gb0 (some ⟨gb0, 0, none⟩) 64 3 l0) (by omega)
  have hx0 := ArcsAt.old hx0E hx0 hb' (by omega)
  have hy0 := NewssAt.old hy0E hy0 hb' (by omega)
  have a0_0 := cell_far hb' a0_0 (by simp only [ne_eq]; omega)
  have a0_1 := cell_far hb' a0_1 (by simp only [ne_eq]; omega)
  have a0_2 := cell_far hb' a0_2 (by simp only [ne_eq]; omega)
  have hz := ArcsAt.old hzE hz hb' (by omega)
  have v_0 := cell_far hb' v_0 (by simp only [ne_eq]; omega)
  have v_1 := cell_far hb' v_1 (by simp only [ne_eq]; omega)
  have hi := ArcsAt.young (by rw [← HN.out]; exact ho) hi hb' (by omega)
  have ho := ho.young hb' (by omega)
  have r_0 := cell_far hb' r_0 (by simp only [ne_eq]; omega)
  have r_1 := cell_far hb' r_1 (by simp only [ne_eq]; omega)
  have s12 := hb'.size
  clear hb2 hb' hs0
  have hkn : ¬ (((1 : Nat) : Int) + 5 * (n0 : Int) + 3 * (l0 : Int) < 0) := by omega
  go_wp2_with fail
  refine (eqNet_same mz A7 A4 N c7 c4 zs _ hzl HN.out.symm hi hz).mono ?_
  rintro e w13 ⟨rfl, hb⟩
  have hx0 := hx0.below hb
  have hy0 := hy0.below hb
  have a0_0 := cell_in hb a0_0
  have a0_1 := cell_in hb a0_1
  have a0_2 := cell_in hb a0_2
  have hz := hz.below hb
  have v_0 := cell_in hb v_0
  have v_1 := cell_in hb v_1
  have hi := hi.below hb
  have ho := ho.below hb
  have r_0 := cell_in hb r_0
  have r_1 := cell_in hb r_1
  have hP := Past.trans hP hb
  have s13 := hb.size
  clear hb
  go_wp2_with fail
  refine (markNet_any mz A7 N c7 1 w6.heap.size 34 _ hzl _ rfl (by omega) ho).mono ?_
  rintro e w14 ⟨rfl, hb, hk⟩
  have hbl : Below w6.heap.size w13 w14 := below_own hb ho (by omega)
  have hP : Past w w14 := below_marked hP hb ho (by omega)
  clear hi ho
  have hx0 := ArcsAt.under hx0E hx0 hbl (by omega)
  have hy0 := NewssAt.under hy0E hy0 hbl (by omega)
  have a0_0 := (hbl.cell (p := ⟨w.heap.size, 0, none⟩) (by simp only; omega)).trans a0_0
  have a0_1 := (hbl.cell (p := ⟨w.heap.size, 1, none⟩) (by simp only; omega)).trans a0_1
  have a0_2 := (hbl.cell (p := ⟨w.heap.size, 2, none⟩) (by simp only; omega)).trans a0_2
  have hz := ArcsAt.under hzE hz hbl (by omega)
  have v_0 := (hbl.cell (p := ⟨w3.heap.size, 0, none⟩) (by simp only; omega)).trans v_0
  have v_1 := (hbl.cell (p := ⟨w3.heap.size, 1, none⟩) (by simp only; omega)).trans v_1
  have r_0 := hb.cell r_0 (fun e => hneA e.symm)
  have r_1 := hb.cell r_1 (fun e => hneA e.symm)
  clear hb hbl
  go_wp2_with fail
  refine (heldNet_any mz A7 N c7 1 _ hzl _ rfl (by omega) hk).mono ?_
  rintro e w15 ⟨rfl, hb⟩
  have hx0 := hx0.below hb
  have hy0 := hy0.below hb
  have a0_0 := cell_in hb a0_0
  have a0_1 := cell_in hb a0_1
  have a0_2 := cell_in hb a0_2
  have hz := hz.below hb
  have v_0 := cell_in hb v_0
  have v_1 := cell_in hb v_1
  have r_0 := cell_in hb r_0
  have r_1 := cell_in hb r_1
  have hk := hk.below hb
  have hP := Past.trans hP hb
  have s15 := hb.size
  clear hb
  have hqn : ¬ (((1 : Nat) : Int) + 5 * (N : Int) < 0) := by omega
  go_wp2_with fail
  refine (toLive_any m0 A0 n0 c0 xs0 B0 l0 d0 ns0 _ h20_0 HX0.out hx0 k20_0 HY0.out hy0).mono ?_
  rintro e w16 ⟨tg0, tgb0, rfl, hb, hg, tm0, hgt, tw0⟩
  have hx0 := hx0.below hb
  have hy0 := hy0.below hb
  have a0_0 := cell_in hb a0_0
  have a0_1 := cell_in hb a0_1
  have a0_2 := cell_in hb a0_2
  have hz := hz.below hb
  have v_0 := cell_in hb v_0
  have v_1 := cell_in hb v_1
  have r_0 := cell_in hb r_0
  have r_1 := cell_in hb r_1
  have hk := hk.below hb
  have hP := Past.trans hP hb
  have s16 := hb.size
  clear hb hg
  go_wp2_with fail
  refine (implLiveNow_any m0 _ n0 n0 xs0 _ l0 l0 ns0 _ h20_0 HX0.out (tm0.arcs HX0.out) k20_0 HY0.out (tw0.at_ HY0.out)).mono ?_
  rintro e w17 ⟨A20, c20, rfl, hi20, _, hb⟩
  rw [← HZ.out] at hi20
  rw [← HZ.out, ← HMZ.out, ← HN.out]
  have hx0 := hx0.below hb
  have hy0 := hy0.below hb
  have a0_0 := cell_in hb a0_0
  have a0_1 := cell_in hb a0_1
  have a0_2 := cell_in hb a0_2
  have hz := hz.below hb
  have v_0 := cell_in hb v_0
  have v_1 := cell_in hb v_1
  have r_0 := cell_in hb r_0
  have r_1 := cell_in hb r_1
  have hk := hk.below hb
  have tm0 := tm0.below hb
  have tw0 := tw0.below hb
  have hP := Past.trans hP hb
  have s17 := hb.size
  clear hb
  have hb : Past w17 (w17.alloc (.cells #[.int .i64 mz, .slice A20 N c20] 25)) := (Past.refl _).alloc _
  obtain ⟨w18, hw6⟩ : ∃ u, u = w17.alloc (.cells #[.int .i64 mz, .slice A20 N c20] 25) := ⟨_, rfl⟩
  have a0_0o := fun (o : Obj) => cell_in ((Past.refl w17).alloc o) a0_0
  have a0_1o := fun (o : Obj) => cell_in ((Past.refl w17).alloc o) a0_1
  have a0_2o := fun (o : Obj) => cell_in ((Past.refl w17).alloc o) a0_2
  have v_0o := fun (o : Obj) => cell_in ((Past.refl w17).alloc o) v_0
  have v_1o := fun (o : Obj) => cell_in ((Past.refl w17).alloc o) v_1
  have r_0o := fun (o : Obj) => cell_in ((Past.refl w17).alloc o) r_0
  have r_1o := fun (o : Obj) => cell_in ((Past.refl w17).alloc o) r_1
  go_wp2_with fail
  clear a0_0o a0_1o a0_2o v_0o v_1o r_0o r_1o
  have h_0 : w18.cell? ⟨w17.heap.size, 0, none⟩ = some (.int .i64 mz) := by rw [hw6]; go_simp
  have h_1 : w18.cell? ⟨w17.heap.size, 1, none⟩ = some (.slice A20 N c20) := by rw [hw6]; go_simp
  rw [← hw6] at hb ⊢
  have sxh : w17.heap.size < w18.heap.size := lt_of_cell h_0
  clear hw6
  have hx0 := hx0.below hb
  have hy0 := hy0.below hb
  have a0_0 := cell_in hb a0_0
  have a0_1 := cell_in hb a0_1
  have a0_2 := cell_in hb a0_2
  have hz := hz.below hb
  have v_0 := cell_in hb v_0
  have v_1 := cell_in hb v_1
  have r_0 := cell_in hb r_0
  have r_1 := cell_in hb r_1
  have hk := hk.below hb
  have tm0 := tm0.below hb
  have tw0 := tw0.below hb
  have hi20 := hi20.below hb
  have hP := Past.trans hP hb
  have s18 := hb.size
  clear hb
  go_wp2_with fail
  refine (eqNet_same mz A20 A4 N c20 c4 zs _ hzl HN.out.symm hi20 hz).mono ?_
  rintro e w19 ⟨rfl, hb⟩
  have hx0 := hx0.below hb
  have hy0 := hy0.below hb
  have a0_0 := cell_in hb a0_0
  have a0_1 := cell_in hb a0_1
  have a0_2 := cell_in hb a0_2
  have hz := hz.below hb
  have v_0 := cell_in hb v_0
  have v_1 := cell_in hb v_1
  have r_0 := cell_in hb r_0
  have r_1 := cell_in hb r_1
  have hk := hk.below hb
  have tm0 := tm0.below hb
  have tw0 := tw0.below hb
  have hi20 := hi20.below hb
  have h_0 := cell_in hb h_0
  have h_1 := cell_in hb h_1
  have hP := Past.trans hP hb
  have s19 := hb.size
  clear hb
  go_wp2_with fail
  refine (heldNet_any mz A7 N c7 1 _ hzl _ rfl (by omega) hk).mono ?_
  rintro e w20 ⟨rfl, hb⟩
  have hx0 := hx0.below hb
  have hy0 := hy0.below hb
  have a0_0 := cell_in hb a0_0
  have a0_1 := cell_in hb a0_1
  have a0_2 := cell_in hb a0_2
  have hz := hz.below hb
  have v_0 := cell_in hb v_0
  have v_1 := cell_in hb v_1
  have r_0 := cell_in hb r_0
  have r_1 := cell_in hb r_1
  have hk := hk.below hb
  have tm0 := tm0.below hb
  have tw0 := tw0.below hb
  have hi20 := hi20.below hb
  have h_0 := cell_in hb h_0
  have h_1 := cell_in hb h_1
  have hP := Past.trans hP hb
  have s20 := hb.size
  clear hb
  go_wp2
  go_ret
  exact ⟨rfl, hP⟩

set_option maxRecDepth 100000 in
theorem exactLiveNow_lifted (os : Os) (started : os.Started) (H : Type) (enc : TypeId × Value → H) :
    ReturnsInHanded {} Try.checked os 6 .any (Rows.fnExactLiveNowSpec.pre6 enc Try.prog Try.f6 Rows.fnExactLiveNowRow.domain false) (Rows.fnExactLiveNowSpec.post enc Try.prog Try.f6 false true false false) := by
  refine returnsInHanded_of_change (C := Try.checked) own started (by kernel_rfl) Try.func6
    (ChangeSpec.witness6 (enc := enc) (C := Try.checked) false ⟨#[], #[.agg #[.int .i64 0, .slice none 0 0, .slice none 0 0]], []⟩ 8 (by kernel_rfl) (by kernel_rfl) (by kernel_rfl) (by kernel_rfl)) ?_
  intro W base args ds gs before hval0 hW hcnd _
  have hval : ∀ (j : Nat) t v, Try.f6.params[j]? = some t → args[j]? = some v → Value.okWide Try.prog W .any base t v := hval0
  have hW' := hW
  obtain ⟨p, q, hA0, hV, rfl, hfz, hnd⟩ := hW
  have hA : DataW.TrodAll enc Try.prog W 0 (fun _ => true) true Try.f6.params.toList args.toList ds p := hA0
  rw [Try.params6] at hA hval
  obtain ⟨v0, vs0, d0, ds0, p0, q0, hargs, rfl, rfl, h0, r0⟩ := trodAll_cons hA
  obtain ⟨rfl, rfl, rfl⟩ := trodAll_nil r0
  obtain rfl : args = #[v0] := by cases args; simp_all
  obtain ⟨rfl, rfl⟩ := trodVars_none hV
  have k0 := h0
  have lt0 := places_lt k0
  obtain ⟨m0, A0, n0, c0, xs0, B0, l0, e0, ns0, rfl, ⟨hl0, hn0, hx0⟩, hly0, hnl0, hy0⟩ := open_live (hval 0 47 v0 rfl rfl) h0
  clear hA0 hval0
  refine (exactLiveNow_walk m0 A0 n0 c0 xs0 B0 l0 e0 ns0 W hn0 hl0 hx0 hnl0 hly0 hy0).mono fun e W' ⟨he, bel⟩ => ?_
  subst he
  exact ⟨_, rfl, _, _, _, [], _, [], hW', trodAll_mk1 (shut_bool Try.underlying4 _), (trodAll_cons_mk (Below.trod laidOut (by kernel_rfl) (of_decide_eq_true (by kernel_rfl)) k0 bel lt0) trodAll_mk0), rfl, bel.frame _, fun h => by cases h⟩

/-- The given statement. -/
theorem exactLiveNow_proved : Rows.FnExactLiveNowSaid :=
  OpenClaim.holds_of_wide 6 Try.f6 rfl rfl rfl rfl rfl rfl rfl ⟨rfl, rfl, rfl, rfl, rfl⟩ rfl rfl rfl rfl rfl (by kernel_rfl) Try.func6 (by kernel_rfl)
    (of_decide_eq_true (by kernel_rfl)) (by unfold Func.isWrapper; first | (rw [if_pos (by decide +kernel)]; kernel_rfl) | (rw [if_neg (by decide +kernel)]; exact ⟨rfl, rfl⟩))
    (fun os started H enc _ => exactLiveNow_lifted os started H enc)

end Go.Proofs.Ytaojognjkiifmab
