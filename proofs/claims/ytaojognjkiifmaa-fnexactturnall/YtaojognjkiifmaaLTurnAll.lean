/-
  FnExactTurnAll answers true at every input: impl.TurnAll answers as spec.TurnAll, leaves its arguments alone and owns its answer. No condition.
-/
import Derived.Test.YtaojognjkiifmaaTAllS
import Derived.Test.YtaojognjkiifmaaTAllW
import Derived.Test.YtaojognjkiifmaaSame
import Derived.Test.YtaojognjkiifmaaMark
import Derived.Test.YtaojognjkiifmaaOpen
import Derived.Test.YtaojognjkiifmaaSameI
import Derived.Test.YtaojognjkiifmaaMarkI
import Derived.Test.YtaojognjkiifmaaResI
import Derived.Test.YtaojognjkiifmaaOpenW
import Derived.Test.YtaojognjkiifmaaMarkB
import Derived.Test.YtaojognjkiifmaaRTurnL
namespace Go.Proofs.Ytaojognjkiifmaa
open Go.ChangeShapes Go.WideShapes Go.ChangeAt Go.RowKit

set_option maxRecDepth 100000 in
set_option maxHeartbeats 2000000 in
theorem exactTurnAll_walk (m0 : Int) (A0 : Option Addr) (n0 c0 : Nat) (xs0 : List ArcD) (A1 : Option Addr) (n1 c1 : Nat) (xs1 : List TurnD) (z2 : Int) (w : World) (hn0 : n0 ≤ maxLen) (hl0 : xs0.length = n0) (hx0 : ArcsAt w A0 xs0) (hn1 : n1 ≤ maxLen) (hl1 : xs1.length = n1) (hx1 : TurnsAt w A1 xs1) :
    Calls Try.prog 3 #[.agg #[.int .i64 m0, .slice A0 n0 c0], .slice A1 n1 c1, .int .i64 z2] w fun e w' => e = .returned (.bool true) ∧ Below w.heap.size w w' := by
  have HX0 := Lib.hid hl0
  have HX1 := Lib.hid hl1
  clear hl0 hl1
  have hP : Past w (w.alloc (.cells #[.int .i64 m0, .slice A0 n0 c0] 24)) := ((Past.refl w).alloc _)
  go_enter Try.func3, Try.ntmps3
  go_wp2_with fail
  refine (szNet_any m0 A0 n0 c0 (1048576) _ (by omega) (by omega) hn0).mono ?_
  rintro e w1 ⟨rfl, hb⟩
  have a0_0 := cell_in (p := ⟨w.heap.size, 0, none⟩) (v := .int .i64 m0) hb (by go_simp)
  have a0_1 := cell_in (p := ⟨w.heap.size, 1, none⟩) (v := .slice A0 n0 c0) hb (by go_simp)
  have hx0 := (hx0.below hP).below hb
  have hx1 := (hx1.below hP).below hb
  have hP := Past.trans hP hb
  clear hb
  by_cases h20s_0 : (n0 : Int) ≤ 1048576
  rotate_left
  · have hr : roomLeft (1048576) n0 = -1 := by unfold roomLeft; rw [if_pos (by omega)]
    rw [hr]
    go_wp2
    go_ret
    exact ⟨rfl, hP⟩
  have hr : roomLeft (1048576) n0 = 1048576 - n0 := by unfold roomLeft; rw [if_neg (by omega)]
  rw [hr]
  clear hr
  have h20_0 : n0 ≤ 1048576 := by omega
  go_wp2_with fail
  refine (szTurnS_any A1 n1 c1 (1048576 - n0) _ (by omega) (by omega) hn1).mono ?_
  rintro e w_ ⟨rfl, rfl⟩
  by_cases h20s_1 : (n1 : Int) ≤ 1048576 - n0
  rotate_left
  · have hr : roomLeft (1048576 - n0) n1 = -1 := by unfold roomLeft; rw [if_pos (by omega)]
    rw [hr]
    go_wp2
    go_ret
    exact ⟨rfl, hP⟩
  have hr : roomLeft (1048576 - n0) n1 = 1048576 - n0 - n1 := by unfold roomLeft; rw [if_neg (by omega)]
  rw [hr]
  clear hr
  have h20_1 : n1 ≤ 1048576 := by omega
  go_wp2_with fail
  refine (toNet_any m0 A0 n0 c0 xs0 _ h20_0 HX0.out hx0).mono ?_
  rintro e w2 ⟨sg0, rfl, hb, hg, sm0⟩
  have hx0 := hx0.below hb
  have hx1 := hx1.below hb
  have a0_0 := cell_in hb a0_0
  have a0_1 := cell_in hb a0_1
  have hP := Past.trans hP hb
  have s2 := hb.size
  clear hb hg
  go_wp2_with fail
  refine (toTurnS_any A1 n1 c1 xs1 _ h20_1 HX1.out hx1).mono ?_
  rintro e w3 ⟨sg1, rfl, hb, hg, sm1⟩
  have hx0 := hx0.below hb
  have hx1 := hx1.below hb
  have a0_0 := cell_in hb a0_0
  have a0_1 := cell_in hb a0_1
  have sm0 := sm0.below hb
  have hP := Past.trans hP hb
  have s3 := hb.size
  clear hb hg
  go_wp2_with fail
  refine (specTurnAll_any m0 _ n0 n0 xs0 _ n1 n1 xs1 z2 _ h20_0 HX0.out (sm0.arcs HX0.out) h20_1 HX1.out (sm1.at_ HX1.out)).mono ?_
  rintro e w4 ⟨v4, rfl, hv4, hb⟩
  have hzl := tallI_len m0 xs0 xs1 z2
  obtain ⟨zs, hzs⟩ : ∃ zs, zs = tallI m0 xs0 xs1 z2 := ⟨_, rfl⟩
  rw [← hzs] at hv4 hzl
  obtain ⟨N, hN⟩ : ∃ N, N = zs.length := ⟨_, rfl⟩
  obtain ⟨A4, c4, rfl, hz, ho4⟩ := hv4.form
  rw [← hN] at hzl
  have HZ := Lib.hid hzs
  have HN := Lib.hid hN
  rw [← hN]
  clear hN hzs hv4 ho4
  have hx0 := hx0.below hb
  have hx1 := hx1.below hb
  have a0_0 := cell_in hb a0_0
  have a0_1 := cell_in hb a0_1
  have sm0 := sm0.below hb
  have sm1 := sm1.below hb
  have hP := Past.trans hP hb
  have s4 := hb.size
  clear hb
  clear sm0 sm1
  have hx0E := hx0
  have hx1E := hx1
  have hzE := hz
  have sb : w.heap.size < w4.heap.size := lt_of_cell a0_0
  have sP := hP.size
  go_wp2_with fail
  refine (toNet_any m0 A0 n0 c0 xs0 _ h20_0 HX0.out hx0).mono ?_
  rintro e w5 ⟨g0, rfl, hb, hg0, hm0⟩
  have sg0 := hm0.1.lt
  have hx0 := hx0.below hb
  have hx1 := hx1.below hb
  have a0_0 := cell_in hb a0_0
  have a0_1 := cell_in hb a0_1
  have hz := hz.below hb
  have hP := Past.trans hP hb
  have s5 := hb.size
  clear hb
  have hb : Past w5 (w5.alloc (.cells #[.int .i64 m0, .slice (some ⟨g0, 0, none⟩) n0 n0] 32)) := (Past.refl _).alloc _
  obtain ⟨w6, hw6⟩ : ∃ u, u = w5.alloc (.cells #[.int .i64 m0, .slice (some ⟨g0, 0, none⟩) n0 n0] 32) := ⟨_, rfl⟩
  go_wp2_with fail
  have p0_0 : w6.cell? ⟨w5.heap.size, 0, none⟩ = some (.int .i64 m0) := by rw [hw6]; go_simp
  have p0_1 : w6.cell? ⟨w5.heap.size, 1, none⟩ = some (.slice (some ⟨g0, 0, none⟩) n0 n0) := by rw [hw6]; go_simp
  rw [← hw6] at hb ⊢
  have sx0 : w5.heap.size < w6.heap.size := lt_of_cell p0_0
  clear hw6
  have hx0 := hx0.below hb
  have hx1 := hx1.below hb
  have a0_0 := cell_in hb a0_0
  have a0_1 := cell_in hb a0_1
  have hz := hz.below hb
  have hm0 := hm0.below hb
  have hP := Past.trans hP hb
  have s6 := hb.size
  clear hb
  go_wp2_with fail
  refine (toTurnS_any A1 n1 c1 xs1 _ h20_1 HX1.out hx1).mono ?_
  rintro e w7 ⟨g1, rfl, hb, hg1, hm1⟩
  have sg1 := hm1.1.lt
  have hx0 := hx0.below hb
  have hx1 := hx1.below hb
  have a0_0 := cell_in hb a0_0
  have a0_1 := cell_in hb a0_1
  have hz := hz.below hb
  have hm0 := hm0.below hb
  have p0_0 := cell_in hb p0_0
  have p0_1 := cell_in hb p0_1
  have hP := Past.trans hP hb
  have s7 := hb.size
  clear hb
  go_wp2_with fail
  refine (implTurnAll_any m0 _ n0 n0 xs0 _ n1 n1 xs1 z2 _ h20_0 HX0.out (hm0.arcs HX0.out) h20_1 HX1.out (hm1.at_ HX1.out)).mono ?_
  rintro e w8 ⟨v7, rfl, hv7, hb⟩
  rw [← HZ.out] at hv7
  obtain ⟨A7, c7, rfl, hi, ho⟩ := hv7.form
  rw [← HN.out] at ho
  rw [← HN.out]
  clear hv7
  have hx0 := hx0.below hb
  have hx1 := hx1.below hb
  have a0_0 := cell_in hb a0_0
  have a0_1 := cell_in hb a0_1
  have hz := hz.below hb
  have hm0 := hm0.below hb
  have p0_0 := cell_in hb p0_0
  have p0_1 := cell_in hb p0_1
  have hm1 := hm1.below hb
  have hP := Past.trans hP hb
  have s8 := hb.size
  clear hb
  go_wp2_with fail
  refine (eqIntS_same A7 A4 N c7 c4 zs _ hzl HN.out.symm hi hz).mono ?_
  rintro e w9 ⟨rfl, hb⟩
  have hx0 := hx0.below hb
  have hx1 := hx1.below hb
  have a0_0 := cell_in hb a0_0
  have a0_1 := cell_in hb a0_1
  have hz := hz.below hb
  have hm0 := hm0.below hb
  have p0_0 := cell_in hb p0_0
  have p0_1 := cell_in hb p0_1
  have hm1 := hm1.below hb
  have hi := hi.below hb
  have ho := ho.below hb
  have hP := Past.trans hP hb
  have s9 := hb.size
  clear hb
  have hq := (hm0.arcs HX0.out)
  go_wp2_with fail
  go_region_held3 (fun w' => w'.cell? ⟨w.heap.size, 0, none⟩ = some (.int .i64 m0) ∧ w'.cell? ⟨w.heap.size, 1, none⟩ = some (.slice A0 n0 c0) ∧ w'.cell? ⟨w5.heap.size, 0, none⟩ = some (.int .i64 m0) ∧ w'.cell? ⟨w5.heap.size, 1, none⟩ = some (.slice (some ⟨g0, 0, none⟩) n0 n0)) (go_keep)
    (first
      | (go_at_call 18; refine (toNet_any m0 A0 n0 c0 xs0 _ h20_0 HX0.out hx0.drew).mono ?_; rintro e w10 ⟨g9, rfl, hb9, hg9, hm9⟩; have a0_0 := cell_in hb9 a0_0; have a0_1 := cell_in hb9 a0_1; have p0_0 := cell_in hb9 p0_0; have p0_1 := cell_in hb9 p0_1)
      | (go_at_call 22; refine (eqNet_same m0 _ _ n0 n0 n0 xs0 _ h20_0 HX0.out (hq.drew.below hb9) (hm9.arcs HX0.out)).mono ?_; rintro e w11 ⟨rfl, hb10⟩; have a0_0 := cell_in hb10 a0_0; have a0_1 := cell_in hb10 a0_1; have p0_0 := cell_in hb10 p0_0; have p0_1 := cell_in hb10 p0_1))
  have hb : Past w9 w11 := (Past.refl w9).drew.trans (Past.trans hb9 hb10)
  clear hb9 hb10 hq hm9 hg9
  have hx0 := hx0.below hb
  have hx1 := hx1.below hb
  have hz := hz.below hb
  have hm0 := hm0.below hb
  have hm1 := hm1.below hb
  have hi := hi.below hb
  have ho := ho.below hb
  have hP := Past.trans hP hb
  have s11 := hb.size
  clear hb
  go_wp2_with fail
  refine (toTurnS_any A1 n1 c1 xs1 _ h20_1 HX1.out hx1).mono ?_
  rintro e w12 ⟨gq, rfl, hb, hgq, hmq⟩
  have hx0 := hx0.below hb
  have hx1 := hx1.below hb
  have a0_0 := cell_in hb a0_0
  have a0_1 := cell_in hb a0_1
  have hz := hz.below hb
  have hm0 := hm0.below hb
  have p0_0 := cell_in hb p0_0
  have p0_1 := cell_in hb p0_1
  have hm1 := hm1.below hb
  have hi := hi.below hb
  have ho := ho.below hb
  have hP := Past.trans hP hb
  have s12 := hb.size
  clear hb hgq
  go_wp2_with fail
  refine (eqTurnS_same _ _ n1 n1 n1 xs1 _ h20_1 HX1.out (hm1.at_ HX1.out) (hmq.at_ HX1.out)).mono ?_
  rintro e w13 ⟨rfl, hb⟩
  have hx0 := hx0.below hb
  have hx1 := hx1.below hb
  have a0_0 := cell_in hb a0_0
  have a0_1 := cell_in hb a0_1
  have hz := hz.below hb
  have hm0 := hm0.below hb
  have p0_0 := cell_in hb p0_0
  have p0_1 := cell_in hb p0_1
  have hm1 := hm1.below hb
  have hi := hi.below hb
  have ho := ho.below hb
  have hP := Past.trans hP hb
  have s13 := hb.size
  clear hb hmq
  have hr0 := hm0.1
  have hr1 := hm1.1
  clear hm0 hm1
  go_wp2_with fail
  clear p0_0 p0_1
  refine (markNet_any m0 (some ⟨g0, 0, none⟩) n0 n0 (1) g0 52 _ h20_0 _ (by first | rfl | (push_cast; omega)) (by omega) (.inr ⟨g0, n0 * 5, rfl, Nat.le_refl _, hr0, by omega⟩ : OwnAt _ g0 (some ⟨g0, 0, none⟩) 52 5 n0)).mono ?_
  rintro e w14 ⟨rfl, hb, _⟩
  have hb' : w13.grownBy w14 (some g0) := hb
  have hP : Past w w14 := below_marked hP hb (.inr ⟨g0, n0 * 5, rfl, Nat.le_refl _, hr0, by omega⟩ : OwnAt _ g0 (some ⟨g0, 0, none⟩) 52 5 n0) (by omega)
  have hx0 := ArcsAt.old hx0E hx0 hb' (by omega)
  have hx1 := TurnsAt.old hx1E hx1 hb' (by omega)
  have a0_0 := cell_far hb' a0_0 (by simp only [ne_eq]; omega)
  have a0_1 := cell_far hb' a0_1 (by simp only [ne_eq]; omega)
  have hz := IntsAt.old hzE hz hb' (by omega)
  have hi := IntsAt.young (by rw [← HN.out]; exact ho) hi hb' (by omega)
  have ho := ho.young hb' (by omega)
  have hr1 := hr1.young hb' (by omega)
  have s14 := hb'.size
  clear hb hb' hr0
  go_wp2_with fail
  refine (markTurnS_any (some ⟨g1, 0, none⟩) n1 n1 (1 + 5 * n0) g1 54 _ h20_1 _ (by first | rfl | (push_cast; omega)) (by omega) (.inr ⟨g1, n1 * 3, rfl, Nat.le_refl _, hr1, by omega⟩ : OwnAt _ g1 (some ⟨g1, 0, none⟩) 54 3 n1)).mono ?_
  rintro e w15 ⟨rfl, hb, _⟩
  have hb' : w14.grownBy w15 (some g1) := hb
  have hP : Past w w15 := below_marked hP hb (.inr ⟨g1, n1 * 3, rfl, Nat.le_refl _, hr1, by omega⟩ : OwnAt _ g1 (some ⟨g1, 0, none⟩) 54 3 n1) (by omega)
  have hx0 := ArcsAt.old hx0E hx0 hb' (by omega)
  have hx1 := TurnsAt.old hx1E hx1 hb' (by omega)
  have a0_0 := cell_far hb' a0_0 (by simp only [ne_eq]; omega)
  have a0_1 := cell_far hb' a0_1 (by simp only [ne_eq]; omega)
  have hz := IntsAt.old hzE hz hb' (by omega)
  have hi := IntsAt.young (by rw [← HN.out]; exact ho) hi hb' (by omega)
  have ho := ho.young hb' (by omega)
  have s15 := hb'.size
  clear hb hb' hr1
  have hkn : ¬ (((1 + 5 * n0 : Nat) : Int) + 3 * (n1 : Int) < 0) := by omega
  go_wp2_with fail
  refine (eqIntS_same A7 A4 N c7 c4 zs _ hzl HN.out.symm hi hz).mono ?_
  rintro e w16 ⟨rfl, hb⟩
  have hx0 := hx0.below hb
  have hx1 := hx1.below hb
  have a0_0 := cell_in hb a0_0
  have a0_1 := cell_in hb a0_1
  have hz := hz.below hb
  have hi := hi.below hb
  have ho := ho.below hb
  have hP := Past.trans hP hb
  have s16 := hb.size
  clear hb
  go_wp2_with fail
  refine (markIntS_any A7 N c7 1 w7.heap.size 3 _ hzl _ rfl (by omega) ho).mono ?_
  rintro e w17 ⟨rfl, hb, hk⟩
  have hbl : Below w7.heap.size w16 w17 := below_own hb ho (by omega)
  have hP : Past w w17 := below_marked hP hb ho (by omega)
  clear hi ho
  have hx0 := ArcsAt.under hx0E hx0 hbl (by omega)
  have hx1 := TurnsAt.under hx1E hx1 hbl (by omega)
  have a0_0 := (hbl.cell (p := ⟨w.heap.size, 0, none⟩) (by simp only; omega)).trans a0_0
  have a0_1 := (hbl.cell (p := ⟨w.heap.size, 1, none⟩) (by simp only; omega)).trans a0_1
  have hz := IntsAt.under hzE hz hbl (by omega)
  clear hb hbl
  go_wp2_with fail
  refine (heldIntS_any A7 N c7 1 _ hzl _ rfl (by omega) hk).mono ?_
  rintro e w_ ⟨rfl, rfl⟩
  have hqn : ¬ (((1 : Nat) : Int) + (N : Int) < 0) := by omega
  go_wp2_with fail
  refine (toNet_any m0 A0 n0 c0 xs0 _ h20_0 HX0.out hx0).mono ?_
  rintro e w18 ⟨tg0, rfl, hb, hg, tm0⟩
  have hx0 := hx0.below hb
  have hx1 := hx1.below hb
  have a0_0 := cell_in hb a0_0
  have a0_1 := cell_in hb a0_1
  have hz := hz.below hb
  have hk := hk.below hb
  have hP := Past.trans hP hb
  have s18 := hb.size
  clear hb hg
  go_wp2_with fail
  refine (toTurnS_any A1 n1 c1 xs1 _ h20_1 HX1.out hx1).mono ?_
  rintro e w19 ⟨tg1, rfl, hb, hg, tm1⟩
  have hx0 := hx0.below hb
  have hx1 := hx1.below hb
  have a0_0 := cell_in hb a0_0
  have a0_1 := cell_in hb a0_1
  have hz := hz.below hb
  have hk := hk.below hb
  have tm0 := tm0.below hb
  have hP := Past.trans hP hb
  have s19 := hb.size
  clear hb hg
  go_wp2_with fail
  refine (implTurnAll_any m0 _ n0 n0 xs0 _ n1 n1 xs1 z2 _ h20_0 HX0.out (tm0.arcs HX0.out) h20_1 HX1.out (tm1.at_ HX1.out)).mono ?_
  rintro e w20 ⟨v20, rfl, hv20, hb⟩
  rw [← HZ.out] at hv20
  obtain ⟨A20, c20, rfl, hi20, ho20⟩ := hv20.form
  rw [← HN.out]
  clear hv20 ho20
  have hx0 := hx0.below hb
  have hx1 := hx1.below hb
  have a0_0 := cell_in hb a0_0
  have a0_1 := cell_in hb a0_1
  have hz := hz.below hb
  have hk := hk.below hb
  have tm0 := tm0.below hb
  have tm1 := tm1.below hb
  have hP := Past.trans hP hb
  have s20 := hb.size
  clear hb
  go_wp2_with fail
  refine (eqIntS_same A20 A4 N c20 c4 zs _ hzl HN.out.symm hi20 hz).mono ?_
  rintro e w21 ⟨rfl, hb⟩
  have hx0 := hx0.below hb
  have hx1 := hx1.below hb
  have a0_0 := cell_in hb a0_0
  have a0_1 := cell_in hb a0_1
  have hz := hz.below hb
  have hk := hk.below hb
  have tm0 := tm0.below hb
  have tm1 := tm1.below hb
  have hP := Past.trans hP hb
  have s21 := hb.size
  clear hb
  go_wp2_with fail
  refine (heldIntS_any A7 N c7 1 _ hzl _ rfl (by omega) hk).mono ?_
  rintro e w_ ⟨rfl, rfl⟩
  go_wp2
  go_ret
  exact ⟨rfl, hP⟩

set_option maxRecDepth 100000 in
theorem exactTurnAll_lifted (os : Os) (started : os.Started) (H : Type) (enc : TypeId × Value → H) :
    ReturnsInHanded {} Try.checked os 3 .any (Rows.fnExactTurnAllSpec.pre6 enc Try.prog Try.f3 Rows.fnExactTurnAllRow.domain false) (Rows.fnExactTurnAllSpec.post enc Try.prog Try.f3 false true false false) := by
  refine returnsInHanded_of_change (C := Try.checked) own started (by kernel_rfl) Try.func3
    (ChangeSpec.witness6 (enc := enc) (C := Try.checked) false ⟨#[], #[.agg #[.int .i64 0, .slice none 0 0], .slice none 0 0, .int .i64 0], []⟩ 8 (by kernel_rfl) (by kernel_rfl) (by kernel_rfl) (by kernel_rfl)) ?_
  intro W base args ds gs before hval0 hW hcnd _
  have hval : ∀ (j : Nat) t v, Try.f3.params[j]? = some t → args[j]? = some v → Value.okWide Try.prog W .any base t v := hval0
  have hW' := hW
  obtain ⟨p, q, hA0, hV, rfl, hfz, hnd⟩ := hW
  have hA : DataW.TrodAll enc Try.prog W 0 (fun _ => true) true Try.f3.params.toList args.toList ds p := hA0
  rw [Try.params3] at hA hval
  obtain ⟨v0, vs0, d0, ds0, p0, q0, hargs, rfl, rfl, h0, r0⟩ := trodAll_cons hA
  obtain ⟨v1, vs1, d1, ds1, p1, q1, rfl, rfl, rfl, h1, r1⟩ := trodAll_cons r0
  obtain ⟨v2, vs2, d2, ds2, p2, q2, rfl, rfl, rfl, h2, r2⟩ := trodAll_cons r1
  obtain ⟨rfl, rfl, rfl⟩ := trodAll_nil r2
  obtain rfl : args = #[v0, v1, v2] := by cases args; simp_all
  obtain ⟨rfl, rfl⟩ := trodVars_none hV
  have k0 := h0
  have lt0 := places_lt k0
  have k1 := h1
  have lt1 := places_lt k1
  have k2 := h2
  have lt2 := places_lt k2
  obtain ⟨m0, A0, n0, c0, xs0, rfl, hl0, hn0, hx0, _⟩ := open_net (hval 0 24 v0 rfl rfl) h0
  obtain ⟨A1, n1, c1, xs1, rfl, hl1, hn1, hx1⟩ := open_Turn (hval 1 25 v1 rfl rfl) h1
  obtain ⟨z2, rfl⟩ := okWide_int Try.underlying3 (hval 2 3 v2 rfl rfl)
  clear hA0 hval0
  refine (exactTurnAll_walk m0 A0 n0 c0 xs0 A1 n1 c1 xs1 z2 W hn0 hl0 hx0 hn1 hl1 hx1).mono fun e W' ⟨he, bel⟩ => ?_
  subst he
  exact ⟨_, rfl, _, _, _, [], _, [], hW', trodAll_mk1 (shut_bool Try.underlying4 _), (trodAll_cons_mk (Below.trod laidOut (by kernel_rfl) (of_decide_eq_true (by kernel_rfl)) k0 bel lt0) (trodAll_cons_mk (Below.trod laidOut (by kernel_rfl) (of_decide_eq_true (by kernel_rfl)) k1 bel lt1) (trodAll_cons_mk (Below.trod laidOut (by kernel_rfl) (of_decide_eq_true (by kernel_rfl)) k2 bel lt2) trodAll_mk0))), rfl, bel.frame _, fun h => by cases h⟩

/-- The given statement. -/
theorem exactTurnAll_proved : Rows.FnExactTurnAllSaid :=
  OpenClaim.holds_of_wide 3 Try.f3 rfl rfl rfl rfl rfl rfl rfl ⟨rfl, rfl, rfl, rfl, rfl⟩ rfl rfl rfl rfl rfl (by kernel_rfl) Try.func3 (by kernel_rfl)
    (of_decide_eq_true (by kernel_rfl)) (by unfold Func.isWrapper; first | (rw [if_pos (by decide +kernel)]; kernel_rfl) | (rw [if_neg (by decide +kernel)]; exact ⟨rfl, rfl⟩))
    (fun os started H enc _ => exactTurnAll_lifted os started H enc)

end Go.Proofs.Ytaojognjkiifmaa
