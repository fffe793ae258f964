/-
  FnCostLift answers true at every input: with heights taken off and put on the best ways stay the best. No condition.
-/
import Derived.Test.YteemckhfkgmolaaDraw4
import Derived.Test.YteemckhfkgmolaaPWay
import Derived.Test.YteemckhfkgmolaaBack
import Derived.Test.YteemckhfkgmolaaNear
import Derived.Test.YteemckhfkgmolaaMark
import Derived.Test.YteemckhfkgmolaaResI
import Derived.Test.YteemckhfkgmolaaOpenW
import Derived.Test.YteemckhfkgmolaaDraw
import Derived.Test.YteemckhfkgmolaaCMet
import Derived.Test.YteemckhfkgmolaaNCosts
import Derived.Test.YteemckhfkgmolaaPCost
import Derived.Test.YteemckhfkgmolaaPCnet
import Derived.Deep.DeepCutAuto
import Derived.Test.YteemckhfkgmolaaIn
import Derived.Test.YteemckhfkgmolaaNAll
namespace Go.Proofs.Yteemckhfkgmolaa
open Go.RowKit

/-- A net was drawn; it has at most nine nodes. -/
def AnyM (w : World) (R lo : Nat) (A : Option Addr) (n c f : Nat) (e : Ending) (w' : World) : Prop :=
  ∃ (m : Int) (B : Option Addr) (k cap : Nat) (xs : List ArcD), e = .returned (.agg #[.int .i64 m, .slice B k cap]) ∧ xs.length = k ∧ k ≤ 13 ∧ (0 ≤ m ∧ m ≤ 9) ∧ ArcsAt w' B xs ∧ OwnAt w' w.heap.size B 68 5 k ∧ RdF w' R lo A n c f ∧ w.grownBy w' (some R)
theorem BentAt.doneM {w X : World} {R lo n c f NB k cap : Nat} {A B : Option Addr} {m : Int} {xs : List ArcD} (h : BentAt w X R lo A n c f NB m B k cap xs) (hk : k ≤ 13) (h0 : 0 ≤ m) (h9 : m ≤ 9) :
    AnyM w R lo A n c f (.returned (.agg #[.int .i64 m, .slice B k cap])) ((X.setCell ⟨w.heap.size, 0, none⟩ (.int .i64 m)).setCell ⟨w.heap.size, 1, none⟩ (.slice B k cap)) := by
  have hne := h.own.ne_blk (g := w.heap.size) (by omega)
  have h2 := h.ltR
  have hlo : lo ≤ R := by obtain ⟨p, _, hh⟩ := h.rd; exact hh.lt
  exact ⟨m, B, k, cap, xs, rfl, h.len, hk, ⟨h0, h9⟩, (h.arcs.far _ _ hne).far _ _ hne, ((h.own.lower (by omega)).far _ _).far _ _, (h.rd.far (grown_set (grown_refl _ _) _ _) (by omega) (by omega)).far (grown_set (grown_refl _ _) _ _) (by omega) (by omega), grown_far (grown_far h.gr (by simp) _) (by simp) _⟩

set_option maxRecDepth 100000 in
set_option maxHeartbeats 4000000 in
theorem l30AnyNet_m (R lo : Nat) (A : Option Addr) (n c f : Nat) (w : World) (h : RdF w R lo A n c (f + 83)) :
    Calls Try.prog 37 #[.pointer (some ⟨R, 0, none⟩)] w (AnyM w R lo A n c f) := by
  have hRw := h.at_
  have hloR : lo ≤ R := by obtain ⟨p, _, hh⟩ := h; exact hh.lt
  go_enter Try.func37, Try.ntmps37
  go_wp2_with fail
  refine (l30Net_any R lo A n c (f + 3) _ (h.alloc _)).mono ?_
  rintro e w1 ⟨m, B, k, cap, xs, rfl, hxk, hk13, hm2, hm6, hxB, hoB, hr1, hg1⟩
  have hs1 : w.heap.size + 1 ≤ w1.heap.size := by have := hg1.size; simpa using this
  have hBent : BentAt w (w1.alloc (.cells #[.int .i64 m, .slice B k cap] 25)) R lo A n c (f + 3) w1.heap.size m B k cap xs := by
    have hp : Past w1 (w1.alloc (.cells #[.int .i64 m, .slice B k cap] 25)) := (Past.refl w1).alloc _
    have r0 : RowN w1 w.heap.size 25 2 := RowN.young ⟨_, heap_alloc_new w _, rfl⟩ hg1 (by omega)
    refine ⟨by go_simp, by go_simp, ⟨_, heap_alloc_new w1 _, rfl⟩, r0.keep (hp.block _ r0.lt), hxk, hxB.below hp, ?_, hr1.below hp, grown_trans (grown_trans (World.grownBy_alloc w _ _) hg1) (grown_of_below hp _), hoB.ne_new, by omega, hRw⟩
    have := hoB.keep (grown_of_below hp none) (fun b e => by cases e)
    simpa using this
  clear hxB hoB hr1 hg1 h
  obtain ⟨W, hW⟩ : ∃ W, W = w1.alloc (.cells #[.int .i64 m, .slice B k cap] 25) := ⟨_, rfl⟩
  rw [← hW] at hBent
  go_upto_region 2 with (fail)
  rw [← hW]
  clear hW
  have o0 := hBent.nodes
  have o1 := hBent.slice
  by_cases hk0 : k = 0
  · have hk0' : ¬ (0 : Int) < (k : Int) := by omega
    clear hk0
    obtain ⟨q0, c0⟩ := hBent.out.cell (i := 0) (by omega)
    obtain ⟨q1, c1⟩ := hBent.out.cell (i := 1) (by omega)
    have z0 := hBent.out.frozen 0
    have z1 := hBent.out.frozen 1
    have HB := Lib.hid (BentAt.doneM (hBent.step (grown_refl _ _) (hBent.rd.less (f' := f) (by omega))) hk13 (by omega) (by omega))
    go_wp2
    exact bodyPost_ret (v := .agg #[.int .i64 m, .slice B k cap]) (by simp [results, Try.results37, go_sem, c0, c1]) rfl HB.out
  have hk0' : (0 : Int) < (k : Int) := by omega
  go_wp2_with fail
  refine (pickF (f := f + 2) _ hBent.rd).mono ?_
  rintro e w3 ⟨k4, rfl, k40, k41, hr3, hg3⟩
  obtain ⟨j4, rfl⟩ : ∃ j : Nat, k4 = j := ⟨k4.toNat, by omega⟩
  have hj4 : j4 < k := by omega
  have hB3 := hBent.step hg3 hr3
  clear hBent hr3 hg3 o0 o1
  go_wp2_with fail
  refine (pickF (f := f + 1) _ hB3.rd).mono ?_
  rintro e w4 ⟨k5, rfl, k50, k51, hr4, hg4⟩
  have hB4 := hB3.step hg4 hr4
  clear hB3 hr4 hg4
  have o0 := hB4.nodes
  have o1 := hB4.slice
  obtain ⟨⟨fa, ta, ca, la, da⟩, ha⟩ : ∃ a, xs[j4]? = some a := ⟨_, List.getElem?_eq_getElem (by omega)⟩
  obtain ⟨g, sz, rfl, hgl, hrg, hsz⟩ : ∃ g sz, B = some ⟨g, 0, none⟩ ∧ w.heap.size + 1 ≤ g ∧ RowN w4 g 68 sz ∧ k * 5 ≤ sz := by
    rcases hB4.own with ⟨_, h0⟩ | h
    · omega
    · exact h
  have hgR : g ≠ R := by omega
  have hgN : g ≠ w1.heap.size := fun e => hB4.far (by simp [blk, e])
  have hNR : w1.heap.size ≠ R := by have := hB4.ltN; omega
  have hinv : Inv w4 R lo A n c w1.heap.size (.int .i64 m) (f + 1) w4 [] [] := Inv.start hB4.rd o0 hNR
  have ha5 := hB4.arcs.at0 ha
  have e0 : w4.cell? ⟨g, j4 * 5, none⟩ = some (.int .i64 fa) := ha5.1
  have i0 : (0 : Int) ≤ (j4 : Int) := by omega
  have i1 : (j4 : Int) < (k : Int) := by omega
  by_cases h0 : k5 = 0
  · subst h0
    go_upto_region 6 with (fail)
    have hq1 : ∀ (u : World) (x : Value), (u.setCell ⟨g, j4 * 5 + 1, none⟩ x).cell? ⟨g, j4 * 5, none⟩ = u.cell? ⟨g, j4 * 5, none⟩ := fun u x => World.cell?_setCell_other _ _ _ _ (by simp)
    have hq2 : ∀ (u : World) (x : Value), (u.setCell ⟨g, j4 * 5 + 1, none⟩ x).cell? ⟨w1.heap.size, 1, none⟩ = u.cell? ⟨w1.heap.size, 1, none⟩ := fun u x => World.cell?_setCell_other _ _ _ _ (by intro e; injection e; omega)
    go_region_held3 (fun w' => w'.cell? ⟨w1.heap.size, 1, none⟩ = some (.slice (some ⟨g, 0, none⟩) k cap) ∧ w'.cell? ⟨g, j4 * 5, none⟩ = some (.int .i64 fa))
      (first
        | go_keep
        | (simp only [hq1, hq2]; assumption)
        | (simp only [hq1, hq2]; exact ⟨o1, e0⟩)
        | (rw [hq1, hq2]; exact ⟨o1, e0⟩)
        | (simp only [hq1, hq2, o1, e0, and_self]))
      (first
        | (go_at_call 69; (first | with_reducible refine (oneI3 (hinv.drew.allocI3 _ _ _) List.mem_cons_self).mono ?_ | with_reducible refine (oneI3 (hinv.allocI3 _ _ _).drew List.mem_cons_self).mono ?_ | with_reducible refine (oneI3 (hinv.allocI3 _ _ _) List.mem_cons_self).mono ?_); rintro e w5 ⟨z, rfl, hz, hinv5⟩; have hB5 := hB4.step hinv5.gr hinv5.rd; have o1 := hB5.slice; have h55 := hB5.arcs.at0 ha; have e0 : w5.cell? ⟨g, j4 * 5, none⟩ = some (.int .i64 fa) := h55.1; have e1 : w5.cell? ⟨g, j4 * 5 + 1, none⟩ = some (.int .i64 ta) := h55.2.1; have zz := (hrg.young hinv5.gr hgR).frozen (j4 * 5 + 1)))
    go_upto_region 11 with (fail)
    have hB6 := hB5.turn hgl ha (i := 1) (by omega) (h55.to z)
    clear hB5 hinv5 hB4 hinv o1 e0 e1 zz
    obtain ⟨X, hX⟩ : ∃ X, X = w5.setCell ⟨g, j4 * 5 + 1, none⟩ (.int .i64 z) := ⟨_, rfl⟩
    rw [← hX] at hB6 ⊢
    clear hX
    have o0 := hB6.nodes
    have o1 := hB6.slice
    obtain ⟨q0, y0⟩ := hB6.out.cell (i := 0) (by omega)
    obtain ⟨q1, y1⟩ := hB6.out.cell (i := 1) (by omega)
    have z0 := hB6.out.frozen 0
    have z1 := hB6.out.frozen 1
    have HB := Lib.hid (BentAt.doneM hB6 hk13 (by omega) (by omega))
    clear hB6
    go_wp2
    exact bodyPost_ret (v := .agg #[.int .i64 m, .slice (some ⟨g, 0, none⟩) k cap]) (by simp [results, Try.results37, go_sem, y0, y1]) rfl HB.out
  by_cases h1 : k5 = 1
  · subst h1
    go_upto_region 8 with (fail)
    go_region_held3 (fun w' => w'.cell? ⟨w1.heap.size, 1, none⟩ = some (.slice (some ⟨g, 0, none⟩) k cap))
      (first
        | go_keep
        | exact (World.cell?_setCell_other _ _ _ _ (by intro e; injection e; omega)).trans o1)
      (first
        | (go_at_call 69; (first | with_reducible refine (oneI2 (hinv.drew.allocI2 _ _) List.mem_cons_self).mono ?_ | with_reducible refine (oneI2 (hinv.allocI2 _ _).drew List.mem_cons_self).mono ?_ | with_reducible refine (oneI2 (hinv.allocI2 _ _) List.mem_cons_self).mono ?_); rintro e w5 ⟨z, rfl, hz, hinv5⟩; have hB5 := hB4.step hinv5.gr hinv5.rd; have o1 := hB5.slice; have h55 := hB5.arcs.at0 ha; have e1 : w5.cell? ⟨g, j4 * 5 + 2, none⟩ = some (.int .i64 ca) := h55.2.2.1; have zz := (hrg.young hinv5.gr hgR).frozen (j4 * 5 + 2)))
    go_upto_region 11 with (fail)
    have hB6 := hB5.turn hgl ha (i := 2) (by omega) (h55.cost z)
    clear hB5 hinv5 hB4 hinv o1 e1 zz
    obtain ⟨X, hX⟩ : ∃ X, X = w5.setCell ⟨g, j4 * 5 + 2, none⟩ (.int .i64 z) := ⟨_, rfl⟩
    rw [← hX] at hB6 ⊢
    clear hX
    have o0 := hB6.nodes
    have o1 := hB6.slice
    obtain ⟨q0, y0⟩ := hB6.out.cell (i := 0) (by omega)
    obtain ⟨q1, y1⟩ := hB6.out.cell (i := 1) (by omega)
    have z0 := hB6.out.frozen 0
    have z1 := hB6.out.frozen 1
    have HB := Lib.hid (BentAt.doneM hB6 hk13 (by omega) (by omega))
    clear hB6
    go_wp2
    exact bodyPost_ret (v := .agg #[.int .i64 m, .slice (some ⟨g, 0, none⟩) k cap]) (by simp [results, Try.results37, go_sem, y0, y1]) rfl HB.out
  by_cases h2 : k5 = 2
  · subst h2
    go_wp2_with fail
    refine (oneI4 (hinv.allocI4 _ _ _ _) List.mem_cons_self).mono ?_
    rintro e w5 ⟨z, rfl, hz, hinv5⟩
    have hz : 0 ≤ z ∧ z ≤ 9 := by simp at hz; omega
    have hB5 := hB4.step hinv5.gr hinv5.rd
    have o0 := hB5.nodes
    have zz := hB5.row.frozen 0
    go_upto_region 11 with (fail)
    have hB6 := hB5.node (z := z)
    clear hB5 hinv5 hB4 hinv o0 zz
    obtain ⟨X, hX⟩ : ∃ X, X = w5.setCell ⟨w1.heap.size, 0, none⟩ (.int .i64 z) := ⟨_, rfl⟩
    rw [← hX] at hB6 ⊢
    clear hX
    have o0 := hB6.nodes
    have o1 := hB6.slice
    obtain ⟨q0, y0⟩ := hB6.out.cell (i := 0) (by omega)
    obtain ⟨q1, y1⟩ := hB6.out.cell (i := 1) (by omega)
    have z0 := hB6.out.frozen 0
    have z1 := hB6.out.frozen 1
    have HB := Lib.hid (BentAt.doneM hB6 hk13 hz.1 hz.2)
    clear hB6
    go_wp2
    exact bodyPost_ret (v := .agg #[.int .i64 z, .slice (some ⟨g, 0, none⟩) k cap]) (by simp [results, Try.results37, go_sem, y0, y1]) rfl HB.out
  have b0 : (k5 == 0) = false := by simpa using h0
  have b1 : (k5 == 1) = false := by simpa using h1
  have b2 : (k5 == 2) = false := by simpa using h2
  obtain ⟨q0, y0⟩ := hB4.out.cell (i := 0) (by omega)
  obtain ⟨q1, y1⟩ := hB4.out.cell (i := 1) (by omega)
  have z0 := hB4.out.frozen 0
  have z1 := hB4.out.frozen 1
  have HB := Lib.hid (BentAt.doneM (hB4.step (grown_refl _ _) (hB4.rd.less (f' := f) (by omega))) hk13 (by omega) (by omega))
  clear hB4 hinv
  go_wp2
  exact bodyPost_ret (v := .agg #[.int .i64 m, .slice (some ⟨g, 0, none⟩) k cap]) (by simp [results, Try.results37, go_sem, y0, y1]) rfl HB.out

end Go.Proofs.Yteemckhfkgmolaa

namespace Go.Proofs.Yteemckhfkgmolaa

theorem Way.one {xs : List ArcD} {a : ArcD} (ha : a ∈ xs) : Way xs a.f a.t a.c [a.f] := by
  have := Way.snoc (.nil : Way xs a.f a.f 0 []) ha rfl
  rw [Int.zero_add] at this
  exact this
theorem Way.back {xs : List ArcD} {s v c : Int} {l : List Int} (h : Way xs s v c l) : ∃ l', Way (xs.map flip) v s c l' := by
  induction h with
  | nil => exact ⟨_, .nil⟩
  | @snoc u c l a _ ha e ih =>
    obtain ⟨l', h'⟩ := ih
    subst e
    have h1 : Way (xs.map flip) a.t a.f a.c [a.t] := Way.one (a := flip a) (List.mem_map.2 ⟨a, ha, rfl⟩)
    obtain ⟨l2, h2⟩ := h1.join h'
    exact ⟨l2, by rw [Int.add_comm]; exact h2⟩
theorem flips_id (xs : List ArcD) : (xs.map flip).map flip = xs := by rw [List.map_map]; exact (List.map_congr_left fun _ _ => rfl).trans (List.map_id _)
theorem arcsIn_back {m : Int} {xs : List ArcD} (h : ArcsIn m xs) : ArcsIn m (xs.map flip) := fun a ha => by
  obtain ⟨b, hb, rfl⟩ := List.mem_map.1 ha
  have := h b hb
  simp only [flip]
  omega
theorem near_back {m : Nat} {xs : List ArcD} {s v : Int} (hm : m ≤ 8) (hx : ArcsIn m xs) (hs : 0 ≤ s ∧ s < m) (hv : 0 ≤ v ∧ v < m) : at_ (nearL m xs s) v = at_ (nearL m (xs.map flip) v) s := by
  have hy := arcsIn_back hx
  obtain ⟨a1, a2⟩ := (nearL_sound hx hs).2 v hv.1 hv.2
  obtain ⟨b1, b2⟩ := (nearL_sound hy hv).2 s hs.1 hs.2
  rcases a2 with a2 | ⟨l, a2⟩
  · rcases b2 with b2 | ⟨l', b2⟩
    · omega
    · obtain ⟨l2, h2⟩ := b2.back
      rw [flips_id] at h2
      have := nearL_le hm hx hs h2
      omega
  · obtain ⟨l2, h2⟩ := a2.back
    have h3 := nearL_le hm hy hv h2
    rcases b2 with b2 | ⟨l', b2⟩
    · omega
    · obtain ⟨l4, h4⟩ := b2.back
      rw [flips_id] at h4
      have := nearL_le hm hx hs h4
      omega

end Go.Proofs.Yteemckhfkgmolaa

namespace Go.Proofs.Yteemckhfkgmolaa
open Go.RowKit

theorem Res.youngN {w w' : World} {lo g : Nat} {v : Value} {zs : List Int} (h : Res w lo v zs) (hg : w.grownBy w' (some g)) (hl : g < lo) : Res w' lo v zs :=
  World.ownsRow.kept h hg (.inr fun e => own_ne h hl e.symm)
theorem IntsAt.farL {w : World} {A : Option Addr} {zs : List Int} (h : IntsAt w A zs) (p : Addr) (u : Value) (hne : blk A ≠ some p.block) : IntsAt (w.setCell p u) A zs := fun k a hk => by
  obtain ⟨g, o, rfl, h5⟩ := h k a hk
  exact ⟨g, o, rfl, (World.cell?_setCell_other _ _ _ _ (by intro e; apply hne; rw [e]; rfl)).trans h5⟩
theorem IntsAt.setI {w : World} {g sz i : Nat} {ds : List Int} (h : IntsAt w (some ⟨g, 0, none⟩) ds) (hr : RowN w g 3 sz) (hi : i < ds.length) (hs : ds.length ≤ sz) (x : Int) : IntsAt (w.setCell ⟨g, i, none⟩ (.int .i64 x)) (some ⟨g, 0, none⟩) (ds.set i x) := fun k a hk => by
  refine ⟨g, 0, rfl, ?_⟩
  rw [Nat.zero_add]
  rw [List.getElem?_set] at hk
  by_cases e : i = k
  · subst e
    rw [if_pos rfl, if_pos hi] at hk
    injection hk with hk
    subst hk
    obtain ⟨v, hv⟩ := hr.cell (i := i) (by omega)
    exact World.cell?_setCell_same _ _ _ hv
  · rw [if_neg e] at hk
    obtain ⟨g', o', e', h5⟩ := h k a hk
    injection e' with e'
    injection e' with e1 e2
    subst e1 e2
    rw [Nat.zero_add] at h5
    exact (World.cell?_setCell_other _ _ _ _ (by intro e3; injection e3; omega)).trans h5
theorem ownForm' {w : World} {lo t size n : Nat} {A : Option Addr} (h : OwnAt w lo A t size n) : (A = none ∧ n = 0) ∨ ∃ g o, A = some ⟨g, o, none⟩ := by
  rcases h with h | ⟨g, _, rfl, _⟩
  · exact .inl h
  · exact .inr ⟨g, 0, rfl⟩

/-- A net and heights were drawn. -/
def DrawHighG (w : World) (e : Ending) (w' : World) : Prop :=
  ∃ (m : Int) (B : Option Addr) (k cap : Nat) (xs : List ArcD) (D : Option Addr) (l cd : Nat) (zs : List Int), e = .returned (.tuple #[.agg #[.int .i64 m, .slice B k cap], .slice D l cd]) ∧ xs.length = k ∧ k ≤ 13 ∧ ArcsAt w' B xs ∧ ((B = none ∧ k = 0) ∨ ∃ g o, B = some ⟨g, o, none⟩) ∧ zs.length = l ∧ l ≤ 9 ∧ IntsAt w' D zs ∧ Below w.heap.size w w'

/-- What is known between the draws: the reader, the net's box, the result's cell, the arcs. -/
structure LiI (w0 : World) (R lo : Nat) (A : Option Addr) (n c f rb nb : Nat) (m : Int) (B : Option Addr) (k cap : Nat) (xs : List ArcD) (u : World) : Prop where
  rd : RdF u R lo A n c f
  n0 : u.cell? ⟨nb, 0, none⟩ = some (.int .i64 m)
  n1 : u.cell? ⟨nb, 1, none⟩ = some (.slice B k cap)
  row : RowN u rb 25 2
  arcs : ArcsAt u B xs
  gr : w0.grownBy u (some R)

section
variable {w0 u u' : World} {R lo n c f f' rb nb k cap : Nat} {A B : Option Addr} {m : Int} {xs : List ArcD}
theorem LiI.below (h : LiI w0 R lo A n c f rb nb m B k cap xs u) (hb : Past u u') : LiI w0 R lo A n c f rb nb m B k cap xs u' :=
  ⟨h.rd.below hb, cell_in hb h.n0, cell_in hb h.n1, h.row.keep (hb.block _ h.row.lt), h.arcs.below hb, grown_trans h.gr (grown_of_below hb _)⟩
theorem LiI.alloc (h : LiI w0 R lo A n c f rb nb m B k cap xs u) (o : Obj) : LiI w0 R lo A n c f rb nb m B k cap xs (u.alloc o) := h.below ((Past.refl u).alloc o)
theorem LiI.drew (h : LiI w0 R lo A n c f rb nb m B k cap xs u) : LiI w0 R lo A n c f rb nb m B k cap xs u.drew := h.below (Past.refl u).drew
theorem LiI.less (h : LiI w0 R lo A n c f rb nb m B k cap xs u) (hf : f' ≤ f) : LiI w0 R lo A n c f' rb nb m B k cap xs u := ⟨h.rd.less hf, h.n0, h.n1, h.row, h.arcs, h.gr⟩
theorem LiI.step (h : LiI w0 R lo A n c f rb nb m B k cap xs u) (hr : RdF u' R lo A n c f') (hg : u.grownBy u' (some R)) (h1 : nb ≠ R) (h2 : rb ≠ R) (h3 : blk B ≠ some R) : LiI w0 R lo A n c f' rb nb m B k cap xs u' :=
  ⟨hr, cell_far hg h.n0 h1, cell_far hg h.n1 h1, h.row.young hg h2, h.arcs.grown hg (fun b e => by injection e with e; rw [← e]; exact h3), grown_trans h.gr hg⟩
end

/-- Behind an append to a row of the call's own. -/
theorem LiI.own {w0 u u' wE : World} {R lo n c f rb nb k cap base e size j : Nat} {A B : Option Addr} {m : Int} {xs : List ArcD} {v : Value} {zs : List Value} (h : LiI w0 R lo A n c f rb nb m B k cap xs u) (hg : u.grownBy u' v.ownBlock) (ho : u.ownsRow base e size v j zs) (h1 : nb < base) (h2 : R < base) (h3 : rb < base) (h4 : w0.heap.size ≤ base) (hx : ArcsAt wE B xs) (hE : wE.heap.size ≤ base := by omega) : LiI w0 R lo A n c f rb nb m B k cap xs u' := by
  refine ⟨h.rd.own hg ho h2, hg.cell h.n0 (own_ne ho h1), hg.cell h.n1 (own_ne ho h1), h.row.keep (hg.block _ h.row.lt (own_ne ho h3)), ?_, grown_next h.gr hg (fun g e => Nat.le_trans h4 (ho.lt g e).1)⟩
  cases hb : v.ownBlock with
  | none => rw [hb] at hg; exact h.arcs.below (below_of_grown hg)
  | some g =>
    rw [hb] at hg
    exact ArcsAt.old hx h.arcs hg (Nat.le_trans hE (ho.lt g hb).1)

set_option maxRecDepth 100000 in
set_option maxHeartbeats 4000000 in
theorem drawCostLift_any (A : Option Addr) (n c : Nat) (w : World) (hn : n ≤ c) (hc : c ≤ maxLen) (hb : BytesAt w A n) :
    Calls Try.prog 9 #[.slice A n c] w (DrawHighG w) := by
  obtain ⟨i0, hi, hz0, hz1, hz2⟩ := info_parts infoInt
  have hpV : Past w (w.alloc (.cells #[.int .i64 0, .slice none 0 0] 25)) := (Past.refl w).alloc _
  go_enter Try.func9, Try.ntmps9
  go_wp2_with fail
  refine (open_any A n c _ hn hc (hb.below hpV)).mono ?_
  rintro e w1 ⟨R, n', c', rfl, hR, hrd, hb1⟩
  rw [World.size_alloc] at hR
  have hF : RdF w1 R _ A n' c' (20 + 83) := ⟨0, by omega, hrd⟩
  have r0 : RowN w1 w.heap.size 25 2 := by
    have r : RowN (w.alloc (.cells #[.int .i64 0, .slice none 0 0] 25)) w.heap.size 25 2 := ⟨_, heap_alloc_new w _, rfl⟩
    exact r.keep (hb1.block _ r.lt)
  have hp1 := hpV.trans hb1
  have hR1 := hF.at_
  clear hrd hb1 hpV
  go_wp2_with fail
  refine (l30AnyNet_m R _ A n' c' 20 w1 hF).mono ?_
  rintro e w2 ⟨m, B, k, cap, xs, rfl, hxk, hk, ⟨hm0, hm9⟩, hxB, hoB, hr2, hg2⟩
  have hp2 : Past w w2 := Below.grown hp1 hg2 hp1.size (fun k e => by injection e with e; omega)
  have r2 := r0.young hg2 (by omega)
  have hBR : blk B ≠ some R := hoB.ne_blk hR1
  have hform := ownForm' hoB
  have hneB : blk B ≠ some w.heap.size := hoB.ne_blk (by omega)
  have s12 := hg2.size
  have hs2 : w.heap.size < w2.heap.size := r2.lt
  have hNR : w2.heap.size ≠ R := by omega
  have hwR : w.heap.size ≠ R := by omega
  have HX := Lib.hid hxk
  obtain ⟨W, hW⟩ : ∃ W, W = w2.alloc (.cells #[.int .i64 m, .slice B k cap] 25) := ⟨_, rfl⟩
  have hpW : Past w2 W := by rw [hW]; exact (Past.refl w2).alloc _
  obtain ⟨lo, hI⟩ : ∃ lo, LiI W R lo A n' c' 20 w.heap.size w2.heap.size m B k cap xs W := by
    rw [hW]
    exact ⟨_, hr2.alloc _, by go_simp, by go_simp, r2.keep (Below.heap_alloc _ _ _ r2.lt), hxB.below ((Past.refl w2).alloc _), grown_refl _ _⟩
  have hp3 := hp2.trans hpW
  have hRW : R < W.heap.size := hI.rd.at_
  have hsW : w2.heap.size < W.heap.size := lt_of_cell hI.n0
  have hxE := hI.arcs
  have HW := Lib.hid hW
  have b0 := hI.n0
  have b1 := hI.n1
  clear hW hoB hr2 hg2 hxB r0 r2 hF hpW hxk
  go_wp2_with fail
  rw [← HW.out]
  clear HW
  refine (l1Ok_any m B k cap xs _ (by omega) HX.out hI.arcs).mono ?_
  rintro e w3 ⟨rfl, hb3⟩
  have hI := hI.below hb3
  have b0 := hI.n0
  have b1 := hI.n1
  clear hb3
  cases hN : netB m xs with
  | false =>
    clear hN
    obtain ⟨Wo, hWo⟩ : ∃ Wo, Wo = w3.alloc (.cells #[] 3) := ⟨_, rfl⟩
    have hpo : Past w3 Wo := by rw [hWo]; exact (Past.refl _).alloc _
    have hIo := hI.below hpo
    have hres0 : Res Wo w3.heap.size (.slice (some ⟨w3.heap.size, 0, none⟩) 0 0) [] := by
      rw [hWo]
      exact ⟨rfl, .inr ⟨w3.heap.size, 0, #[], rfl, Nat.le_refl _, heap_alloc_new w3 _, Nat.le_refl _, by unfold maxLen; omega, rfl, rfl⟩⟩
    have hszo : w3.heap.size < Wo.heap.size := by rw [hWo]; simp
    have HWo := Lib.hid hWo
    have hsE : w2.heap.size < w3.heap.size := lt_of_cell hI.n0
    have hRE : R < w3.heap.size := hI.rd.at_
    have hWsz := hI.gr.size
    have hsR : w.heap.size < w3.heap.size := hI.row.lt
    have hxo := hI.arcs
    clear hWo hpo
    go_wp2
    rw [← HWo.out]
    clear HWo
    go_loopw [8, 9] (fun v q wr => ∃ (j : Nat) (zs : List Int), (j : Int) ≤ m ∧ zs.length = j ∧ q = .int .i64 j ∧ Res wr w3.heap.size v zs ∧ w3.heap.size < wr.heap.size ∧ LiI W R lo A n' c' (9 - j) w.heap.size w2.heap.size m B k cap xs wr) (fun _ q _ => m.toNat - (intOf q).toNat)
    case atStart => exact ⟨0, [], by omega, rfl, rfl, hres0, hszo, hIo.less (by omega)⟩
    case round =>
      clear hres0 hIo hI b0 b1
      obtain ⟨j, zs, hj, hjz, rfl, hv, hWr, hI⟩ := hrel
      have b0 := hI.n0
      have b1 := hI.n1
      have hgz := hI.gr.size
      by_cases hlt : (j : Int) < m
      · go_wp2_with fail
        refine (pickF (f := 9 - (j + 1)) 6 (hI.rd.less (by omega))).mono ?_
        rintro e w8 ⟨z, rfl, _, _, hr8, hg8⟩
        have hJ := hI.step hr8 hg8 hNR hwR hBR
        have hv8 := hv.youngN hg8 hRE
        have hs8 := hJ.gr.size
        have hz8 : w3.heap.size < w8.heap.size := Nat.lt_of_lt_of_le hWr hg8.size
        unfold Res at hv8
        rw [hjz] at hv8
        have HD := Lib.hid hjz
        have HO := Lib.hid (hv8.alloc (.cells #[.int .i64 z] 3))
        have HJ := Lib.hid (hJ.alloc (.cells #[.int .i64 z] 3))
        clear hjz hv hv8 hI hJ hr8 hg8 b0 b1
        go_wp2_with (first | (at_builtin; refine wpList_append_own _ rfl _ _ 26 rfl w3.heap.size 3 i0 (.int .i64 0) 1 8 Try.underlying26 hi hz0 hz1 hz2 rfl (by decide) _ j _ rfl HO.out ⟨w8.heap.size, 0, none⟩ 1 1 [.int .i64 z] rfl rfl (cell_one_new _ _ _) (one_cell z) (by unfold maxLen; omega) (by omega) (by simp; omega) ?_; intro v9 w9 hown' hgrow9 hnil9))
        go_roundw
        case rel => exact ⟨j + 1, zs ++ [z], by omega, by rw [List.length_append, HD.out]; rfl, by go_num, Res.push (by rw [HD.out]; exact hown'), by have h := hgrow9.size; rw [World.size_alloc] at h; omega, HJ.out.own hgrow9 HO.out hsE hRE hsR hWsz hxo⟩
        case measure => simp [intOf]; omega
      · obtain ⟨D, cd, rfl, hd9, ho9⟩ := hv.form
        obtain ⟨y0, e0⟩ := hI.row.cell (i := 0) (by omega)
        obtain ⟨y1, e1⟩ := hI.row.cell (i := 1) (by omega)
        have z0 := hI.row.frozen 0
        have z1 := hI.row.frozen 1
        have hp9 : Past w wr := Below.grown hp3 hI.gr hp3.size (fun k e => by injection e with e; omega)
        have hneD : blk D ≠ some w.heap.size := ho9.ne_blk (by omega)
        have hx9 := (hI.arcs.far ⟨w.heap.size, 0, none⟩ (.int .i64 m) hneB).far ⟨w.heap.size, 1, none⟩ (.slice B k cap) hneB
        have hd10 := (hd9.farL ⟨w.heap.size, 0, none⟩ (.int .i64 m) hneD).farL ⟨w.heap.size, 1, none⟩ (.slice B k cap) hneD
        have hbel := Below.setCell (Below.setCell hp9 (p := ⟨w.heap.size, 0, none⟩) (by simp) (.int .i64 m)) (p := ⟨w.heap.size, 1, none⟩) (by simp) (.slice B k cap)
        rw [hjz]
        have HJZ := Lib.hid hjz
        clear hjz hv ho9
        go_wp2
        exact bodyPost_ret (v := .tuple #[.agg #[.int .i64 m, .slice B k cap], .slice D j cd]) (by simp [results, Try.results9, go_sem, e0, e1]) rfl ⟨m, B, k, cap, xs, D, j, cd, zs, rfl, HX.out, hk, hx9, hform, HJZ.out, by omega, hd10, hbel⟩
  | true =>
    obtain ⟨M, rfl, hM1, hM8⟩ := here_nat hN
    have HN := Lib.hid hN
    clear hN
    go_wp2_with fail
    refine (pickF (f := 19) 3 hI.rd).mono ?_
    rintro e w4 ⟨z, rfl, z00, _, hr4, hg4⟩
    have hI := hI.step hr4 hg4 hNR hwR hBR
    have b0 := hI.n0
    have b1 := hI.n1
    clear hr4 hg4
    by_cases hz : 0 < z
    rotate_left
    · clear z00
      obtain ⟨Wo, hWo⟩ : ∃ Wo, Wo = w4.alloc (.cells #[] 3) := ⟨_, rfl⟩
      have hpo : Past w4 Wo := by rw [hWo]; exact (Past.refl _).alloc _
      have hIo := hI.below hpo
      have hres0 : Res Wo w4.heap.size (.slice (some ⟨w4.heap.size, 0, none⟩) 0 0) [] := by
        rw [hWo]
        exact ⟨rfl, .inr ⟨w4.heap.size, 0, #[], rfl, Nat.le_refl _, heap_alloc_new w4 _, Nat.le_refl _, by unfold maxLen; omega, rfl, rfl⟩⟩
      have hszo : w4.heap.size < Wo.heap.size := by rw [hWo]; simp
      have HWo := Lib.hid hWo
      have hsE : w2.heap.size < w4.heap.size := lt_of_cell hI.n0
      have hRE : R < w4.heap.size := hI.rd.at_
      have hWsz := hI.gr.size
      have hsR : w.heap.size < w4.heap.size := hI.row.lt
      have hxo := hI.arcs
      clear hWo hpo
      go_wp2
      rw [← HWo.out]
      clear HWo
      go_loopw [8, 9] (fun v q wr => ∃ (j : Nat) (zs : List Int), (j : Int) ≤ (M : Int) ∧ zs.length = j ∧ q = .int .i64 j ∧ Res wr w4.heap.size v zs ∧ w4.heap.size < wr.heap.size ∧ LiI W R lo A n' c' (9 - j) w.heap.size w2.heap.size (M : Int) B k cap xs wr) (fun _ q _ => M - (intOf q).toNat)
      case atStart => exact ⟨0, [], by omega, rfl, rfl, hres0, hszo, hIo.less (by omega)⟩
      case round =>
        clear hres0 hIo hI b0 b1
        obtain ⟨j, zs, hj, hjz, rfl, hv, hWr, hI⟩ := hrel
        have b0 := hI.n0
        have b1 := hI.n1
        have hgz := hI.gr.size
        by_cases hlt : (j : Int) < (M : Int)
        · go_wp2_with fail
          refine (pickF (f := 9 - (j + 1)) 6 (hI.rd.less (by omega))).mono ?_
          rintro e w8 ⟨z, rfl, _, _, hr8, hg8⟩
          have hJ := hI.step hr8 hg8 hNR hwR hBR
          have hv8 := hv.youngN hg8 hRE
          have hs8 := hJ.gr.size
          have hz8 : w4.heap.size < w8.heap.size := Nat.lt_of_lt_of_le hWr hg8.size
          unfold Res at hv8
          rw [hjz] at hv8
          have HD := Lib.hid hjz
          have HO := Lib.hid (hv8.alloc (.cells #[.int .i64 z] 3))
          have HJ := Lib.hid (hJ.alloc (.cells #[.int .i64 z] 3))
          clear hjz hv hv8 hI hJ hr8 hg8 b0 b1
          go_wp2_with (first | (at_builtin; refine wpList_append_own _ rfl _ _ 26 rfl w4.heap.size 3 i0 (.int .i64 0) 1 8 Try.underlying26 hi hz0 hz1 hz2 rfl (by decide) _ j _ rfl HO.out ⟨w8.heap.size, 0, none⟩ 1 1 [.int .i64 z] rfl rfl (cell_one_new _ _ _) (one_cell z) (by unfold maxLen; omega) (by omega) (by simp; omega) ?_; intro v9 w9 hown' hgrow9 hnil9))
          go_roundw
          case rel => exact ⟨j + 1, zs ++ [z], by omega, by rw [List.length_append, HD.out]; rfl, by go_num, Res.push (by rw [HD.out]; exact hown'), by have h := hgrow9.size; rw [World.size_alloc] at h; omega, HJ.out.own hgrow9 HO.out hsE hRE hsR hWsz hxo⟩
          case measure => simp [intOf]; omega
        · obtain ⟨D, cd, rfl, hd9, ho9⟩ := hv.form
          obtain ⟨y0, e0⟩ := hI.row.cell (i := 0) (by omega)
          obtain ⟨y1, e1⟩ := hI.row.cell (i := 1) (by omega)
          have z0 := hI.row.frozen 0
          have z1 := hI.row.frozen 1
          have hp9 : Past w wr := Below.grown hp3 hI.gr hp3.size (fun k e => by injection e with e; omega)
          have hneD : blk D ≠ some w.heap.size := ho9.ne_blk (by omega)
          have hx9 := (hI.arcs.far ⟨w.heap.size, 0, none⟩ (.int .i64 (M : Int)) hneB).far ⟨w.heap.size, 1, none⟩ (.slice B k cap) hneB
          have hd10 := (hd9.farL ⟨w.heap.size, 0, none⟩ (.int .i64 (M : Int)) hneD).farL ⟨w.heap.size, 1, none⟩ (.slice B k cap) hneD
          have hbel := Below.setCell (Below.setCell hp9 (p := ⟨w.heap.size, 0, none⟩) (by simp) (.int .i64 (M : Int))) (p := ⟨w.heap.size, 1, none⟩) (by simp) (.slice B k cap)
          rw [hjz]
          have HJZ := Lib.hid hjz
          clear hjz hv ho9
          go_wp2
          exact bodyPost_ret (v := .tuple #[.agg #[.int .i64 (M : Int), .slice B k cap], .slice D j cd]) (by simp [results, Try.results9, go_sem, e0, e1]) rfl ⟨(M : Int), B, k, cap, xs, D, j, cd, zs, rfl, HX.out, hk, hx9, hform, HJZ.out, by omega, hd10, hbel⟩
    have hs4 : w2.heap.size < w4.heap.size := lt_of_cell b0
    have hR4 : R < w4.heap.size := hI.rd.at_
    have hI0 := hI
    have hI := hI.drew
    go_upto_region 4 with (fail)
    go_region_held3 (fun w' => w'.cell? ⟨w2.heap.size, 0, none⟩ = some (.int .i64 (M : Int)) ∧ w'.cell? ⟨w2.heap.size, 1, none⟩ = some (.slice B k cap))
      (go_keep)
      (first
        | (go_at_call 41; refine (l1Back_any (M : Int) B k cap xs _ (by omega) HX.out hI.arcs).mono ?_; rintro e w5 ⟨A5, c5, rfl, hx5, ho5, hb5⟩; have hA5 : blk A5 ≠ some R := ho5.ne_blk hR4; have hI := hI.below hb5; have b0 := hI.n0; have b1 := hI.n1; have hl5 : (xs.map flip).length = k := (by rw [List.length_map, HX.out]); rw [hl5]; have hs5 := hb5.size)
        | (go_at_call 39; refine (pickF (f := 18) (M : Int) hI.rd).mono ?_; rintro e w6 ⟨s, rfl, s0, s1, hr6, hg6⟩; have hI := hI.step hr6 hg6 hNR hwR hBR; have hx6 := hx5.grown hg6 (fun b e => by injection e with e; rw [← e]; exact hA5); have b0 := hI.n0; have b1 := hI.n1; have hs6 := hg6.size)
        | (go_at_call 40; refine (l3All_any M s A5 k c5 (xs.map flip) _ hM8 hl5 (by omega) hx6 (arcsIn_back (arcsIn_net HN.out)) ⟨s0, by omega⟩).mono ?_; rintro e w7 ⟨v7, rfl, hv7, hb7⟩; have hI := hI.below hb7; have b0 := hI.n0; have b1 := hI.n1))
    have hE6 : w4.heap.size ≤ w6.heap.size := Nat.le_trans hs5 hs6
    have hv7 := hv7.lower hE6
    obtain ⟨D, cd, rfl, hd7, ho7⟩ := hv7.form
    rw [nearL_length] at ho7 ⊢
    obtain ⟨ds, hds⟩ : ∃ ds, ds = nearL M (xs.map flip) s := ⟨_, rfl⟩
    have hdl : ds.length = M := by rw [hds, nearL_length]
    rw [← hds] at hd7
    obtain ⟨g, sz, rfl, hg7, hr7, hsz⟩ : ∃ g sz, D = some ⟨g, 0, none⟩ ∧ w4.heap.size ≤ g ∧ RowN w7 g 3 sz ∧ M ≤ sz := by
      rcases ho7 with ⟨_, h⟩ | ⟨g, sz, h1, h2, h3, h4⟩
      · omega
      · exact ⟨g, sz, h1, h2, h3, by omega⟩
    have hW4 := hI0.gr.size
    have hr0 : w.heap.size < w4.heap.size := hI0.row.lt
    clear hds hv7 ho7 hx5 hx6 hb5 hg6 hb7 hr6 ho5
    go_wp2
    go_loopw [7] (fun q wr => ∃ (j : Nat) (es : List Int), j ≤ M ∧ es.length = M ∧ q = .int .i64 j ∧ IntsAt wr (some ⟨g, 0, none⟩) es ∧ RowN wr g 3 sz ∧ w7.grownBy wr (some g)) (fun q _ => M - (intOf q).toNat)
    case atStart => exact ⟨0, ds, by omega, hdl, rfl, hd7, hr7, grown_refl _ _⟩
    case round =>
      obtain ⟨j, es, hj, hel, rfl, he, hrr, hg⟩ := hrel
      have b0r := cell_far hg b0 (by simp only [ne_eq]; omega)
      have b1r := cell_far hg b1 (by simp only [ne_eq]; omega)
      by_cases hlt : j < M
      · obtain ⟨y, hy⟩ : ∃ a, es[j]? = some a := ⟨_, List.getElem?_eq_getElem (by omega)⟩
        obtain ⟨g', o', eg, c0⟩ := he j _ hy
        injection eg with eg
        injection eg with eg1 eg2
        subst eg1 eg2
        rw [Nat.zero_add] at c0
        have zf := hrr.frozen j
        have HS := Lib.hid (he.setI hrr (i := j) (by omega) (by omega) 99)
        have j0 : (0 : Int) ≤ (j : Int) := by omega
        have j1 : (j : Int) < (M : Int) := by omega
        have HEL := Lib.hid hel
        clear hy hel
        by_cases hy9 : 99 < y
        · go_wp2
          go_roundw
          case rel => exact ⟨j + 1, es.set j 99, by omega, by rw [List.length_set]; exact HEL.out, by go_num, HS.out, hrr.set _ _, grown_set hg _ _⟩
          case measure => simp [intOf]; omega
        · go_wp2
          go_roundw
          case rel => exact ⟨j + 1, es, by omega, HEL.out, by go_num, he, hrr, hg⟩
          case measure => simp [intOf]; omega
      · obtain rfl : M = j := by omega
        have hrow := hI.row.young hg (by omega)
        obtain ⟨y0, e0⟩ := hrow.cell (i := 0) (by omega)
        obtain ⟨y1, e1⟩ := hrow.cell (i := 1) (by omega)
        have z0 := hrow.frozen 0
        have z1 := hrow.frozen 1
        have hxr := ArcsAt.old hI0.arcs hI.arcs hg hg7
        have hp7 : Past w w7 := Below.grown hp3 hI.gr hp3.size (fun k e => by injection e with e; omega)
        have hp9 : Past w wr := Below.grown hp7 hg hp7.size (fun k e => by injection e with e; omega)
        have hneD : blk (some (⟨g, 0, none⟩ : Addr)) ≠ some w.heap.size := by simp [blk]; omega
        have hx9 := (hxr.far ⟨w.heap.size, 0, none⟩ (.int .i64 (M : Int)) hneB).far ⟨w.heap.size, 1, none⟩ (.slice B k cap) hneB
        have hd10 := (he.farL ⟨w.heap.size, 0, none⟩ (.int .i64 (M : Int)) hneD).farL ⟨w.heap.size, 1, none⟩ (.slice B k cap) hneD
        have hbel := Below.setCell (Below.setCell hp9 (p := ⟨w.heap.size, 0, none⟩) (by simp) (.int .i64 (M : Int))) (p := ⟨w.heap.size, 1, none⟩) (by simp) (.slice B k cap)
        have HEL := Lib.hid hel
        clear hel
        go_wp2
        exact bodyPost_ret (v := .tuple #[.agg #[.int .i64 (M : Int), .slice B k cap], .slice (some ⟨g, 0, none⟩) M cd]) (by simp [results, Try.results9, go_sem, e0, e1]) rfl ⟨(M : Int), B, k, cap, xs, _, M, cd, es, rfl, HX.out, hk, hx9, hform, HEL.out, by omega, hd10, hbel⟩

end Go.Proofs.Yteemckhfkgmolaa

namespace Go.Proofs.Yteemckhfkgmolaa
open Go.ChangeShapes Go.WideShapes Go.ChangeAt Go.RowKit Go.Deep Go.Joins

set_option maxRecDepth 100000 in
theorem open_bytes {H : Type} {enc : TypeId × Value → H} {W : World} {r : Reach} {b0 : Nat} {v : Value} {d : DataW H} {p : List MemPlace} (hv : Value.okWide Try.prog W r b0 22 v)
    (h : DataW.Trod enc Try.prog W 0 (fun _ => true) true 22 v d p) : ∃ (A : Option Addr) (n c : Nat), v = .slice A n c ∧ n ≤ c ∧ c ≤ maxLen ∧ BytesAt W A n := by
  obtain ⟨a0, len, cap, rfl⟩ := okWide_slice Try.underlying22 hv
  obtain ⟨fuel, hf⟩ := h
  rcases open_ints Try.underlying22 Try.underlying5 (by kernel_rfl) (show DataW.trod enc Try.prog W 0 (fun _ => true) true fuel 22 [.slice a0 len cap] = some _ by simpa [Value.cells] using hf) with ⟨hcs, _⟩ | ⟨a, len', cap', zs, hcs, _, hl, hm, hz, _, hcell, hwf⟩
  · injection hcs with hcs
    injection hcs with e1 e2 e3
    subst e1 e2 e3
    exact ⟨none, 0, 0, rfl, Nat.le_refl _, Nat.zero_le _, fun k hk => absurd hk (by omega)⟩
  · injection hcs with hcs
    injection hcs with e1 e2 e3
    subst e1 e2 e3
    simp only [if_true] at hz
    refine ⟨some a, _, _, rfl, hl, hm, fun k hk => ?_⟩
    have hc := hcell k (by omega)
    obtain ⟨g, o, rfl⟩ := spotless (hcell 0 (by omega))
    rw [addr_add] at hc
    have hw := hwf (zs.getD k 0) (by rw [List.getD_eq_getElem?_getD, List.getElem?_eq_getElem (by omega)]; simp)
    refine ⟨g, o, _, rfl, hc, ?_⟩
    simp only [Lit.wf, Bool.and_eq_true, decide_eq_true_eq] at hw
    rw [show IntKind.u8.min = 0 by decide, show IntKind.u8.max = 255 by decide] at hw
    exact hw

end Go.Proofs.Yteemckhfkgmolaa

namespace Go.Proofs.Yteemckhfkgmolaa
open Go.RowKit

set_option maxRecDepth 100000 in
set_option maxHeartbeats 1000000 in
theorem costLift1_any (f t c' l' d x y : Int) (P : Nat) (B : Option Addr) (l cb : Nat) (hs : List Int) (w : World) (hp : w.cell? ⟨P, 0, none⟩ = some (.slice B l cb)) (hy : IntsAt w B hs) (hf : 0 ≤ f ∧ f < (l : Int)) (ht : 0 ≤ t ∧ t < (l : Int)) (q1 : hs[f.toNat]? = some x) (q2 : hs[t.toNat]? = some y) (hc : 0 ≤ c' ∧ c' ≤ 99) (hx : 0 ≤ x ∧ x ≤ 99) (hy' : 0 ≤ y ∧ y ≤ 99) :
    Calls Try.prog 45 #[.agg #[.int .i64 f, .int .i64 t, .int .i64 c', .int .i64 l', .int .i64 d], .pointer (some ⟨P, 0, none⟩)] w fun e w' => e = .returned (.int .i64 (c' - x + y)) ∧ Below w.heap.size w w' := by
  have hb0 : Past w (w.alloc (.cells #[.int .i64 f, .int .i64 t, .int .i64 c', .int .i64 l', .int .i64 d] 68)) := (Past.refl _).alloc _
  have hp := cell_in hb0 hp
  obtain ⟨g, o, rfl, c0⟩ := (hy.below hb0) _ _ q1
  obtain ⟨g1, o1, eg, c1⟩ := (hy.below hb0) _ _ q2
  injection eg with eg
  injection eg with eg1 eg2
  subst eg1 eg2
  have t1 : IntKind.i64.wrap (c' - x) = c' - x := IntWalk.i64_in _ (by omega)
  have t2 : IntKind.i64.wrap (c' - x + y) = c' - x + y := IntWalk.i64_in _ (by omega)
  have f0 := hf.1
  have f1 := hf.2
  have u0 := ht.1
  have u1 := ht.2
  clear q1 q2
  go_enter Try.func45, Try.ntmps45
  go_wp2_with fail
  go_quiet (fail)
  go_wp2
  go_ret
  exact ⟨rfl, hb0.drewN _⟩

set_option maxRecDepth 100000 in
set_option maxHeartbeats 1000000 in
theorem costsByLift_any (m : Int) (A : Option Addr) (n c : Nat) (xs : List ArcD) (B : Option Addr) (l cb : Nat) (hs : List Int) (P : Nat) (w : World) (hnx : xs.length = n) (hx : ArcsAt w A xs) (hly : hs.length = l) (hy : IntsAt w B hs) (hp : w.cell? ⟨P, 0, none⟩ = some (.slice B l cb)) (hO : highB m xs hs = true) :
    Calls Try.prog 44 #[.agg #[.int .i64 m, .slice A n c], .func (.func 45) #[] #[.pointer (some ⟨P, 0, none⟩)]] w (Gives w (liftsOf hs xs)) := by
  obtain ⟨hB, hlm, _⟩ := (highB_iff _ _ _).1 hO
  rw [hly] at hlm
  have h16 := net_num hB
  rw [hnx] at h16
  have HO := Lib.hid hO
  have HX := Lib.hid hnx
  have hmk := makeInt n (by omega)
  clear hnx hO hB
  obtain ⟨w1, hw1⟩ : ∃ w1, w1 = w.alloc (.cells #[.int .i64 m, .slice A n c] 25) := ⟨_, rfl⟩
  have hb0 : Past w w1 := by rw [hw1]; exact (Past.refl _).alloc _
  have hsz : w1.heap.size = w.heap.size + 1 := by rw [hw1]; simp
  have HS := Lib.hid hsz
  have hx1 := hx.below hb0
  have hy1 := hy.below hb0
  have hp := cell_in hb0 hp
  have b1 : w1.cell? ⟨w.heap.size, 1, none⟩ = some (.slice A n c) := by rw [hw1]; go_simp
  obtain ⟨cs, hcs⟩ : ∃ cs, cs = liftsOf hs xs := ⟨_, rfl⟩
  have HCC := Lib.hid hcs
  have hlc : cs.length = n := by rw [hcs, liftsOf, List.length_map, HX.out]
  have HLC := Lib.hid hlc
  have HW := Lib.hid hw1
  clear hcs hlc hw1 hx hsz
  go_enter Try.func44, Try.ntmps44
  go_wp2
  rw [← HW.out]
  clear HW
  go_loopw [15] (fun i wr => ∃ k : Nat, k ≤ n ∧ i = .int .i64 k ∧ Past w1 wr ∧ MadeI wr (w.heap.size + 1) 3 n cs k) (fun i _ => n - (intOf i).toNat)
  case atStart => exact ⟨0, by omega, rfl, (Past.refl w1).alloc _, by have := MadeI.start w1 3 n cs (madeCells #[.int .i64 0] n) (by simp [size_madeCells]); rw [HS.out] at this; exact this⟩
  case round =>
    obtain ⟨k, hk, rfl, hb, hm⟩ := hrel
    by_cases hlt : k < n
    · obtain ⟨⟨f, t, c', l', d⟩, ha⟩ : ∃ a, xs[k]? = some a := ⟨_, List.getElem?_eq_getElem (by have := HX.out; omega)⟩
      obtain ⟨g, o, rfl, d0, d1, d2, d3, d4⟩ := (hx1.below hb) k _ ha
      obtain ⟨x, y, q1, q2, bx, by_, bc, bf, bt, eo⟩ := lift_way HO.out ha
      simp only at q1 q2 bc bf bt eo
      have HA : Hid (cs[k]? = some (c' - x + y)) := by rw [Hid, HCC.out, liftsOf, List.getElem?_map, ha, ← eo]; rfl
      clear ha eo
      have i0 : (0 : Int) ≤ (k : Int) := by omega
      have i1 : (k : Int) < (n : Int) := by omega
      go_wp2_with fail
      refine (costLift1_any f t c' l' d x y P B l cb hs _ (cell_in ((Past.refl _).alloc _) (cell_in hb hp)) ((hy1.below hb).below ((Past.refl _).alloc _)) (by omega) (by omega) q1 q2 bc bx by_).mono ?_
      rintro e w2 ⟨rfl, hb2⟩
      have hb2 : Past wr w2 := ((Past.refl wr).alloc _).trans hb2
      have hm := hm.below hb2
      have hb := hb.trans hb2
      clear hb2 d0 d1 d2 d3 d4
      obtain ⟨z, hz⟩ : ∃ z, z = c' - x + y := ⟨_, rfl⟩
      rw [← hz] at HA ⊢
      clear hz
      obtain ⟨v0, e0⟩ := hm.1.cell (i := k) hlt
      have z0 := hm.1.frozen k
      have hnx := hm.next HA.out hlt
      go_wp2
      go_roundw
      case rel => exact ⟨k + 1, by omega, by go_num, Below.setCell hb (p := ⟨w.heap.size + 1, k, none⟩) (by rw [HS.out]; simp) _, hnx⟩
      case measure => simp [intOf]; omega
    · obtain rfl : n = k := by omega
      go_wp2
      go_ret
      exact ⟨_, rfl, by rw [← HCC.out]; exact (hm.row HLC.out).res HLC.out (by omega) (by omega), hb0.trans hb⟩

theorem lift_bad {m : Int} {xs : List ArcD} {hs : List Int} (h : highB m xs hs = false) : liftB m xs hs = false ∧ liftI m xs hs = [] := by
  have : liftB m xs hs = false := by rw [liftB, h, Bool.false_and]
  exact ⟨this, by rw [liftI, this]; rfl⟩

set_option maxRecDepth 100000 in
set_option maxHeartbeats 1000000 in
theorem implCostLift_any (m : Int) (A : Option Addr) (n c : Nat) (xs : List ArcD) (B : Option Addr) (l cb : Nat) (ys : List Int) (w : World) (hn : n ≤ 1048576) (hnx : xs.length = n) (hx : ArcsAt w A xs) (hl : l ≤ 1048576) (hly : ys.length = l) (hy : IntsAt w B ys) :
    Calls Try.prog 10 #[.agg #[.int .i64 m, .slice A n c], .slice B l cb] w (GivesB w (liftI m xs ys) (liftB m xs ys)) := by
  have HX := Lib.hid hnx
  have HY := Lib.hid hly
  clear hnx hly
  obtain ⟨W, hW⟩ : ∃ W, W = (w.alloc (.cells #[.int .i64 m, .slice A n c] 25)).alloc (.cells #[.slice B l cb] 26) := ⟨_, rfl⟩
  have hb0 : Past w W := by rw [hW]; exact ((Past.refl _).alloc _).alloc _
  have b0 : W.cell? ⟨w.heap.size, 0, none⟩ = some (.int .i64 m) := by rw [hW]; go_simp
  have b1 : W.cell? ⟨w.heap.size, 1, none⟩ = some (.slice A n c) := by rw [hW]; go_simp
  have b2 : W.cell? ⟨w.heap.size + 1, 0, none⟩ = some (.slice B l cb) := by rw [hW]; go_simp
  have HW := Lib.hid hW
  have hx0 := hx.below hb0
  have hy0 := hy.below hb0
  clear hW hx hy
  go_enter Try.func10, Try.ntmps10
  go_wp2_with fail
  rw [← HW.out]
  clear HW
  refine (implNetOk_any m A n c xs _ hn HX.out hx0).mono ?_
  rintro e w1 ⟨rfl, hb1⟩
  have b0 := cell_in hb1 b0
  have b1 := cell_in hb1 b1
  have b2 := cell_in hb1 b2
  have hx1 := hx0.below hb1
  have hy1 := hy0.below hb1
  have hb1 := hb0.trans hb1
  clear hb0 hx0 hy0
  cases hB : netB m xs with
  | false =>
    have HB := Lib.hid (lift_bad (m := m) (xs := xs) (hs := ys) (by rw [highB, hB]; rfl))
    clear hB
    go_wp2
    go_ret2
    exact ⟨_, by rw [HB.out.1]; rfl, by rw [HB.out.2]; exact Res.nil _ _, hb1⟩
  | true =>
    have HB := Lib.hid hB
    clear hB
    go_wp2_with fail
    refine (eachWithin_any B l cb ys m _ hl HY.out hy1).mono ?_
    rintro e w2 ⟨rfl, hb2⟩
    have hH : (decide ((ys.length : Int) = m) && allB ys) = highB m xs ys := by rw [highB, HB.out, Bool.true_and]
    rw [hH]
    have b0 := cell_in hb2 b0
    have b1 := cell_in hb2 b1
    have b2 := cell_in hb2 b2
    have hx2 := hx1.below hb2
    have hy2 := hy1.below hb2
    have hb2 := hb1.trans hb2
    clear hH hb1 hx1 hy1
    cases hC : highB m xs ys with
    | false =>
      have HC := Lib.hid (lift_bad hC)
      clear hC
      go_wp2
      go_ret2
      exact ⟨_, by rw [HC.out.1]; rfl, by rw [HC.out.2]; exact Res.nil _ _, hb2⟩
    | true =>
      have HC := Lib.hid hC
      clear hC
      go_wp2_with fail
      refine (costsByLift_any m A n c xs B l cb ys _ _ HX.out hx2 HY.out hy2 b2 HC.out).mono ?_
      rintro e w3 ⟨v, rfl, hv, hb3⟩
      have hcl : (liftsOf ys xs).length = n := by rw [liftsOf, List.length_map, HX.out]
      obtain ⟨D, cd, rfl, hd3, _⟩ := hv.form
      obtain ⟨cs, hcs⟩ : ∃ cs, cs = liftsOf ys xs := ⟨_, rfl⟩
      rw [← hcs] at hcl hv hd3 ⊢
      rw [hcl] at hv ⊢
      have HCL := Lib.hid hcl
      have HCS := Lib.hid hcs
      have b0 := cell_in hb3 b0
      have b1 := cell_in hb3 b1
      have hx3 := hx2.below hb3
      have hs2 := hb2.size
      have hb3 := hb2.trans hb3
      clear hcl hcs b2 hx2 hy2 hb2
      go_wp2_with fail
      refine (metricOk_any m A n c xs D n cd cs _ hn HX.out hx3 hn HCL.out hd3).mono ?_
      rintro e w4 ⟨rfl, hb4⟩
      have hM : metricB m xs cs = liftB m xs ys := by rw [metricB, HB.out, liftB, HC.out, HCL.out, HX.out, HCS.out]; simp
      rw [hM]
      have hv4 := (hv.below hb4).lower hs2
      have hb4 := hb3.trans hb4
      clear hM hv hb3
      cases hL : liftB m xs ys with
      | false =>
        have HL := Lib.hid hL
        clear hL
        go_wp2
        go_ret2
        exact ⟨_, by rw [HL.out]; rfl, by rw [liftI, HL.out]; exact Res.nil _ _, hb4⟩
      | true =>
        have HL := Lib.hid hL
        clear hL
        go_wp2
        go_ret2
        exact ⟨_, by rw [HL.out]; rfl, by rw [liftI, HL.out, if_pos rfl, ← HCS.out]; exact hv4, hb4⟩

end Go.Proofs.Yteemckhfkgmolaa

namespace Go.Proofs.Yteemckhfkgmolaa
open Go.RowKit

theorem res_none (w : World) (t : Nat) (cs : Array Value) : Res ((w.alloc (.cells cs t)).alloc (.cells #[] 3)) (w.heap.size + 1) (.slice (some ⟨w.heap.size + 1, 0, none⟩) 0 0) [] := by
  refine ⟨rfl, .inr ⟨w.heap.size + 1, 0, #[], rfl, Nat.le_refl _, ?_, Nat.le_refl _, by unfold maxLen; omega, rfl, rfl⟩⟩
  have := heap_alloc_new (w.alloc (.cells cs t)) (.cells #[] 3)
  simpa using this

set_option maxRecDepth 100000 in
set_option maxHeartbeats 2000000 in
theorem specCostOf_any (m : Int) (A : Option Addr) (n c : Nat) (xs : List ArcD) (p q : Int) (w : World) (hn : n ≤ 1048576) (hnx : xs.length = n) (hx : ArcsAt w A xs) :
    Calls Try.prog 29 #[.agg #[.int .i64 m, .slice A n c], .int .i64 p, .int .i64 q] w (Gives w (costOfI m xs p q)) := by
  have HX := Lib.hid hnx
  clear hnx
  obtain ⟨i0, hi, hz0, hz1, hz2⟩ := info_parts infoInt
  obtain ⟨Wb, hWb⟩ : ∃ Wb, Wb = w.alloc (.cells #[.int .i64 m, .slice A n c] 25) := ⟨_, rfl⟩
  obtain ⟨W, hW⟩ : ∃ W, W = Wb.alloc (.cells #[] 3) := ⟨_, rfl⟩
  have hb0 : Past w Wb := by rw [hWb]; exact (Past.refl _).alloc _
  have hbW : Past Wb W := by rw [hW]; exact (Past.refl _).alloc _
  have hsz : Wb.heap.size = w.heap.size + 1 := by rw [hWb]; simp
  have hres : Res W (w.heap.size + 1) (.slice (some ⟨w.heap.size + 1, 0, none⟩) 0 0) [] := by rw [hW, hWb]; exact res_none _ _ _
  have b0 : Wb.cell? ⟨w.heap.size, 0, none⟩ = some (.int .i64 m) := by rw [hWb]; go_simp
  have b1 : Wb.cell? ⟨w.heap.size, 1, none⟩ = some (.slice A n c) := by rw [hWb]; go_simp
  have b0 := cell_in hbW b0
  have b1 := cell_in hbW b1
  have HE := Lib.hid (hWb ▸ hW)
  have hx0 := hx.below hb0
  clear hW hWb
  go_enter Try.func29, Try.ntmps29
  go_wp2_with fail
  rw [← HE.out]
  clear HE
  refine (l1Ok_any m A n c xs _ hn HX.out (hx0.below hbW)).mono ?_
  rintro e w1 ⟨rfl, hb1⟩
  have b0 := cell_in hb1 b0
  have b1 := cell_in hb1 b1
  have hres := hres.below hb1
  have hb1 := hbW.trans hb1
  clear hbW
  cases hB : netB m xs with
  | false =>
    have HB := Lib.hid hB
    clear hB
    go_wp2
    go_ret
    exact ⟨_, rfl, by simp only [costOfI, ofOkB, HB.out, Bool.false_and, Bool.false_eq_true, if_false]; exact Res.nil _ _, hb0.trans hb1⟩
  | true =>
    have h16 := net_num hB
    rw [HX.out] at h16
    have HB := Lib.hid hB
    clear hB
    go_wp2_with fail
    refine (l1In_any p 0 100 _).mono ?_
    rintro e w2 ⟨rfl, rfl⟩
    cases hP : inB p 0 100 with
    | false =>
      have HP := Lib.hid hP
      clear hP
      go_wp2
      go_ret
      exact ⟨_, rfl, by simp only [costOfI, ofOkB, HP.out, Bool.false_and, Bool.and_false, Bool.false_eq_true, if_false]; exact Res.nil _ _, hb0.trans hb1⟩
    | true =>
      have hpb := (inB_iff _ _ _).1 hP
      have HP := Lib.hid hP
      clear hP
      go_wp2_with fail
      refine (l1In_any q 0 100 _).mono ?_
      rintro e w2 ⟨rfl, rfl⟩
      cases hQ : inB q 0 100 with
      | false =>
        have HQ := Lib.hid hQ
        clear hQ
        go_wp2
        go_ret
        exact ⟨_, rfl, by simp only [costOfI, ofOkB, HQ.out, Bool.and_false, Bool.false_eq_true, if_false]; exact Res.nil _ _, hb0.trans hb1⟩
      | true =>
        have hqb := (inB_iff _ _ _).1 hQ
        have HO : Hid (ofOkB m xs p q = true) := (ofOkB_iff _ _ _ _).2 ⟨HB.out, HP.out, hQ⟩
        clear hQ
        have hr0 : Res w1 (w.heap.size + 1) (.slice (some ⟨w.heap.size + 1, 0, none⟩) 0 0) (costsOf p q (xs.take 0)) := by simpa [costsOf] using hres
        clear hres
        go_wp2
        go_loopw [7, 8] (fun v i wr => ∃ k : Nat, k ≤ n ∧ i = .int .i64 k ∧ Res wr (w.heap.size + 1) v (costsOf p q (xs.take k)) ∧ Past Wb wr) (fun _ i _ => n - (intOf i).toNat)
        case atStart => exact ⟨0, by omega, rfl, hr0, hb1⟩
        case round =>
          obtain ⟨k, hk, rfl, hv, hb⟩ := hrel
          clear b0 b1 hr0
          have hz := hb.size
          have b1 := cell_in (p := ⟨w.heap.size, 1, none⟩) (v := .slice A n c) hb (by assumption)
          by_cases hlt : k < n
          · obtain ⟨⟨f, t, c', l', d⟩, ha⟩ : ∃ a, xs[k]? = some a := ⟨_, List.getElem?_eq_getElem (by have := HX.out; omega)⟩
            obtain ⟨g, o, rfl, d0, d1, d2, d3, d4⟩ := (hx0.below hb) k _ ha
            have hab := net_arc HB.out ha
            simp only at hab
            obtain ⟨x, y, z, ex, ey, ez, bx, by_, bz, ec⟩ := costOne_way (p := p) (q := q) (a := ⟨f, t, c', l', d⟩) hab hpb hqb
            simp only at ex ey
            have t1 : IntKind.i64.wrap (c' * p) = x := by rw [ex]; exact IntWalk.i64_in _ (by omega)
            have t2 : IntKind.i64.wrap (l' * q) = y := by rw [ey]; exact IntWalk.i64_in _ (by omega)
            have t3 : IntKind.i64.wrap (x + y) = x + y := IntWalk.i64_in _ (by omega)
            have t4 : IntKind.i64.wrap ((x + y).tdiv 100) = z := by rw [ez]; exact IntWalk.i64_in _ (by omega)
            have HN : Hid (costsOf p q (xs.take (k + 1)) = costsOf p q (xs.take k) ++ [costOne p q ⟨f, t, c', l', d⟩]) := costsOf_next ha
            have hkl : (costsOf p q (xs.take k)).length = k := by rw [costsOf, List.length_map, List.length_take, HX.out]; omega
            have HKL := Lib.hid hkl
            have HEC := Lib.hid ec
            unfold Res at hv
            rw [hkl] at hv
            clear ha hab ex ey ez ec hkl
            have i0' : (0 : Int) ≤ (k : Int) := by omega
            have i1 : (k : Int) < (n : Int) := by omega
            by_cases hc : 99 < z
            · rw [if_pos hc] at HEC
              go_wp2_with fail
              go_quiet (fail)
              go_wp2_with (first | (at_builtin; refine wpList_append_own _ rfl _ _ 26 rfl (w.heap.size + 1) 3 i0 (.int .i64 0) 1 8 Try.underlying26 hi hz0 hz1 hz2 rfl (by decide) _ _ _ rfl (hv.alloc _) ⟨wr.heap.size, 0, none⟩ 1 1 [.int .i64 99] rfl rfl (cell_one_new _ _ _) (one_cell 99) (by unfold maxLen; omega) (by omega) (by simp; omega) ?_; intro v' w3 hown' hgrow3 hnil3))
              go_roundw
              case rel => exact ⟨k + 1, by omega, by go_num, Res.step hown' (by rw [HN.out, List.length_append, HKL.out]; rfl) (by rw [HN.out, HEC.out]), Past.grown ((hb.drewN _).alloc _) (hv.alloc _) hgrow3 (by omega)⟩
              case measure => simp [intOf]; omega
            · rw [if_neg hc] at HEC
              go_wp2_with fail
              go_quiet (fail)
              go_wp2_with (first | (at_builtin; refine wpList_append_own _ rfl _ _ 26 rfl (w.heap.size + 1) 3 i0 (.int .i64 0) 1 8 Try.underlying26 hi hz0 hz1 hz2 rfl (by decide) _ _ _ rfl (hv.alloc _) ⟨wr.heap.size, 0, none⟩ 1 1 [.int .i64 z] rfl rfl (cell_one_new _ _ _) (one_cell z) (by unfold maxLen; omega) (by omega) (by simp; omega) ?_; intro v' w3 hown' hgrow3 hnil3))
              go_roundw
              case rel => exact ⟨k + 1, by omega, by go_num, Res.step hown' (by rw [HN.out, List.length_append, HKL.out]; rfl) (by rw [HN.out, HEC.out]), Past.grown ((hb.drewN _).alloc _) (hv.alloc _) hgrow3 (by omega)⟩
              case measure => simp [intOf]; omega
          · obtain rfl : n = k := by omega
            go_wp2
            go_ret
            rw [List.take_of_length_le (by rw [HX.out]; exact Nat.le_refl _)] at hv
            exact ⟨_, rfl, by rw [costOfI, HO.out, if_pos rfl]; exact hv.lower (by omega), hb0.trans hb⟩

end Go.Proofs.Yteemckhfkgmolaa

namespace Go.Proofs.Yteemckhfkgmolaa
open Go.RowKit

set_option maxRecDepth 100000 in
set_option maxHeartbeats 2000000 in
theorem specCostLift_any (m : Int) (A : Option Addr) (n c : Nat) (xs : List ArcD) (B : Option Addr) (l cb : Nat) (ys : List Int) (w : World) (hn : n ≤ 1048576) (hnx : xs.length = n) (hx : ArcsAt w A xs) (hl : l ≤ 1048576) (hly : ys.length = l) (hy : IntsAt w B ys) :
    Calls Try.prog 11 #[.agg #[.int .i64 m, .slice A n c], .slice B l cb] w (GivesB w (liftI m xs ys) (liftB m xs ys)) := by
  have HX := Lib.hid hnx
  have HY := Lib.hid hly
  clear hnx hly
  obtain ⟨i0, hi, hz0, hz1, hz2⟩ := info_parts infoInt
  obtain ⟨Wb, hWb⟩ : ∃ Wb, Wb = w.alloc (.cells #[.int .i64 m, .slice A n c] 25) := ⟨_, rfl⟩
  obtain ⟨W, hW⟩ : ∃ W, W = Wb.alloc (.cells #[] 3) := ⟨_, rfl⟩
  have hb0 : Past w Wb := by rw [hWb]; exact (Past.refl _).alloc _
  have hbW : Past Wb W := by rw [hW]; exact (Past.refl _).alloc _
  have hsz : Wb.heap.size = w.heap.size + 1 := by rw [hWb]; simp
  have hres : Res W (w.heap.size + 1) (.slice (some ⟨w.heap.size + 1, 0, none⟩) 0 0) [] := by rw [hW, hWb]; exact res_none _ _ _
  have B0 : Wb.cell? ⟨w.heap.size, 0, none⟩ = some (.int .i64 m) := by rw [hWb]; go_simp
  have B1 : Wb.cell? ⟨w.heap.size, 1, none⟩ = some (.slice A n c) := by rw [hWb]; go_simp
  have HE := Lib.hid (hWb ▸ hW)
  have hx0 := hx.below hb0
  have hy0 := hy.below hb0
  clear hW hWb hx hy
  go_enter Try.func11, Try.ntmps11
  go_wp2_with fail
  rw [← HE.out]
  clear HE
  refine (l1Ok_any m A n c xs _ hn HX.out (hx0.below hbW)).mono ?_
  rintro e w1 ⟨rfl, hb1⟩
  have hres := hres.below hb1
  have hb1 := hbW.trans hb1
  have b0 := cell_in hb1 B0
  have b1 := cell_in hb1 B1
  clear hbW
  cases hB : netB m xs with
  | false =>
    have HB := Lib.hid (lift_bad (m := m) (xs := xs) (hs := ys) (by rw [highB, hB]; rfl))
    clear hB
    go_wp2
    go_ret2
    exact ⟨_, by rw [HB.out.1]; rfl, by rw [HB.out.2]; exact Res.nil _ _, hb0.trans hb1⟩
  | true =>
    have h16 := net_num hB
    rw [HX.out] at h16
    have HB := Lib.hid hB
    clear hB
    by_cases hlm : (l : Int) = m
    rotate_left
    · have e1 : ((l : Int) != m) = true := by simpa using hlm
      have HC := Lib.hid (lift_bad (m := m) (xs := xs) (hs := ys) (by rw [highB, HY.out, decide_eq_false hlm]; simp))
      go_wp2
      go_ret2
      exact ⟨_, by rw [HC.out.1]; rfl, by rw [HC.out.2]; exact Res.nil _ _, hb0.trans hb1⟩
    subst hlm
    have e1 : ((l : Int) != (l : Int)) = false := by simp
    go_wp2
    clear e1
    go_loopw [7] (fun i wr => ∃ k : Nat, k ≤ l ∧ i = .int .i64 k ∧ Past w1 wr ∧ (ys.take k).all (fun z => inB z 0 99) = true) (fun i _ => l - (intOf i).toNat)
    case atStart => exact ⟨0, by omega, rfl, Past.refl _, by simp⟩
    case round =>
      obtain ⟨k, hk, rfl, hb, hok⟩ := hrel
      have HK := Lib.hid hok
      clear hok
      have b1 := cell_in hb b1
      have hb2 := hb1.trans hb
      by_cases hlt : k < l
      · obtain ⟨y, ha⟩ : ∃ a, ys[k]? = some a := ⟨_, List.getElem?_eq_getElem (by have := HY.out; omega)⟩
        obtain ⟨g, o, rfl, c0⟩ := (hy0.below hb2) k _ ha
        have HA := Lib.hid ha
        clear ha
        have i0 : (0 : Int) ≤ (k : Int) := by omega
        have i1 : (k : Int) < (l : Int) := by omega
        go_wp2_with fail
        refine (l1In_any y 0 99 _).mono ?_
        rintro e w2 ⟨rfl, rfl⟩
        cases hB : inB y 0 99 with
        | false =>
          have HC := Lib.hid (lift_bad (m := (l : Int)) (xs := xs) (hs := ys) (by rw [highB, allB, all_bad HA.out hB]; simp))
          clear hB
          go_wp2
          go_ret2
          exact ⟨_, by rw [HC.out.1]; rfl, by rw [HC.out.2]; exact Res.nil _ _, hb0.trans hb2⟩
        | true =>
          have HC := Lib.hid hB
          clear hB
          go_wp2
          go_roundw
          case rel => exact ⟨k + 1, by omega, by go_num, hb, all_next HK.out HA.out HC.out⟩
          case measure => simp [intOf]; omega
      · obtain rfl : l = k := by omega
        have HH : Hid (highB (l : Int) xs ys = true) := (highB_iff _ _ _).2 ⟨HB.out, by rw [HY.out], ally_done HK.out HY.out⟩
        have hr0 : Res wr (w.heap.size + 1) (.slice (some ⟨w.heap.size + 1, 0, none⟩) 0 0) (liftsOf ys (xs.take 0)) := by simpa [liftsOf] using hres.below hb
        clear hres HK hb hb1 b0
        obtain ⟨w2, hw2⟩ : ∃ w2, w2 = wr := ⟨_, rfl⟩
        rw [← hw2] at hb2 b1 hr0 ⊢
        clear hw2
        go_wp2
        go_loopw [6, 8] (fun v i wr => ∃ k : Nat, k ≤ n ∧ i = .int .i64 k ∧ Res wr (w.heap.size + 1) v (liftsOf ys (xs.take k)) ∧ Past Wb wr) (fun _ i _ => n - (intOf i).toNat)
        case atStart => exact ⟨0, by omega, rfl, hr0, hb2⟩
        case round =>
          obtain ⟨k, hk, rfl, hv, hb⟩ := hrel
          clear b1 hr0
          have hz := hb.size
          have b0 := cell_in hb B0
          have b1 := cell_in hb B1
          by_cases hlt : k < n
          · obtain ⟨⟨f, t, c', l', d⟩, ha⟩ : ∃ a, xs[k]? = some a := ⟨_, List.getElem?_eq_getElem (by have := HX.out; omega)⟩
            obtain ⟨g', o', rfl, d0, d1, d2, d3, d4⟩ := (hx0.below hb) k _ ha
            obtain ⟨x, y, q1, q2, bx, by_, bc, bf, bt, eo⟩ := lift_way HH.out ha
            simp only at q1 q2 bc bf bt eo
            have HN : Hid (liftsOf ys (xs.take (k + 1)) = liftsOf ys (xs.take k) ++ [c' - x + y]) := by rw [Hid, liftsOf_next ha, eo]
            have hkl : (liftsOf ys (xs.take k)).length = k := by rw [liftsOf, List.length_map, List.length_take, HX.out]; omega
            have HKL := Lib.hid hkl
            obtain ⟨g, o, rfl, c0⟩ := (hy0.below hb) _ _ q1
            obtain ⟨g1, o1, eg, c1⟩ := (hy0.below hb) _ _ q2
            injection eg with eg
            injection eg with eg1 eg2
            subst eg1 eg2
            have t1 : IntKind.i64.wrap (c' - x) = c' - x := IntWalk.i64_in _ (by omega)
            obtain ⟨z, hzz⟩ : ∃ z, z = c' - x + y := ⟨_, rfl⟩
            have t2 : IntKind.i64.wrap (c' - x + y) = z := by rw [hzz]; exact IntWalk.i64_in _ (by omega)
            rw [← hzz] at HN
            clear hzz
            have lg : g < w.heap.size + 1 := by
              obtain ⟨g1, o1, e, h⟩ := hy0 _ _ q1
              injection e with e
              injection e with e1 e2
              subst e1
              have h3 : g < Wb.heap.size := lt_of_cell h
              omega
            have hlo := fun b hb => (World.ownsRow.lt hv b hb).1
            have hlz := fun b hb => (World.ownsRow.lt hv b hb).2
            have ag : u6.ownBlock ≠ some g := fun e => by have := hlo _ e; omega
            have ar : u6.ownBlock ≠ some wr.heap.size := fun e => by have := hlz _ e; omega
            unfold Res at hv
            rw [hkl] at hv
            clear ha eo hkl hlo hlz
            have i0' : (0 : Int) ≤ (k : Int) := by omega
            have i1 : (k : Int) < (n : Int) := by omega
            have f0 := bf.1
            have f1 := bf.2
            have u0' := bt.1
            have u1' := bt.2
            go_wp2_with fail
            obtain ⟨W2, hW2⟩ : ∃ W2, W2 = wr.alloc (.cells #[.int .i64 f, .int .i64 t, .int .i64 c', .int .i64 l', .int .i64 d] 68) := ⟨_, rfl⟩
            rw [← hW2]
            have hbW2 : Past wr W2 := by rw [hW2]; exact (Past.refl _).alloc _
            have s2 : wr.heap.size < W2.heap.size := by rw [hW2]; simp
            have e0 : W2.cell? ⟨wr.heap.size, 0, none⟩ = some (.int .i64 f) := by rw [hW2]; go_simp
            have e1 : W2.cell? ⟨wr.heap.size, 1, none⟩ = some (.int .i64 t) := by rw [hW2]; go_simp
            have e2 : W2.cell? ⟨wr.heap.size, 2, none⟩ = some (.int .i64 c') := by rw [hW2]; go_simp
            have c0 := cell_in hbW2 c0
            have c1 := cell_in hbW2 c1
            have hv2 : W2.ownsRow (w.heap.size + 1) 3 1 u6 k (ints (liftsOf ys (xs.take k))) := by rw [hW2]; exact hv.alloc _
            have hb2 := hb.trans hbW2
            have hz2' := hb2.size
            clear hW2 d0 d1 d2 d3 d4 hv hbW2
            go_region_held3 (fun w' => w'.cell? ⟨wr.heap.size, 0, none⟩ = some (.int .i64 f) ∧ w'.cell? ⟨wr.heap.size, 1, none⟩ = some (.int .i64 t) ∧ w'.cell? ⟨wr.heap.size, 2, none⟩ = some (.int .i64 c') ∧ w'.cell? ⟨g, o + f.toNat, none⟩ = some (.int .i64 x) ∧ w'.cell? ⟨g, o + t.toNat, none⟩ = some (.int .i64 y))
              (first
                | go_keep
                | (go_split_ands
                   refine ⟨?_, ?_, ?_, ?_, ?_⟩
                   · (rw [hgrow.cell_far _ (by simp; omega) (Ne.symm ar)]; assumption)
                   · (rw [hgrow.cell_far _ (by simp; omega) (Ne.symm ar)]; assumption)
                   · (rw [hgrow.cell_far _ (by simp; omega) (Ne.symm ar)]; assumption)
                   · (rw [hgrow.cell_far _ (by simp; omega) (Ne.symm ag)]; assumption)
                   · (rw [hgrow.cell_far _ (by simp; omega) (Ne.symm ag)]; assumption)))
              ((refine step_append_lies _ (by rfl) _ _ _ (by rfl) (w.heap.size + 1) 3 i0 _ 1 8 Try.underlying26 hi hz0 hz1 hz2 rfl (by omega) u6 k (ints (liftsOf ys (xs.take k))) (by rfl) ((hv2.alloc _).drew) ⟨W2.heap.size, 0, none⟩ 1 1 [.int .i64 z] (by rfl) (by rfl) (World.news_of_block (cs := #[.int .i64 z]) (t := 3) (fr := (0, 0)) (heap_alloc_new W2 _)) (one_cell z) (by omega) (by unfold maxLen; omega) (by omega) (by simp; omega) (W2.heap.size + 1) (by simp) ?_; intro gg cap w3 hown1 hgrow hat hlt'))
            go_wp2
            go_roundw
            case rel => exact ⟨k + 1, by omega, by go_num, Res.step hown1 (by rw [HN.out, List.length_append, HKL.out]; rfl) HN.out, Past.grown (hb2.alloc _).drew ((hv2.alloc _).drew) hgrow (by omega)⟩
            case measure => simp [intOf]; omega
          · obtain rfl : n = k := by omega
            rw [List.take_of_length_le (by rw [HX.out]; exact Nat.le_refl _)] at hv
            have hcl : (liftsOf ys xs).length = n := by rw [liftsOf, List.length_map, HX.out]
            obtain ⟨D, cd, rfl, hd3, _⟩ := hv.form
            obtain ⟨cs, hcs⟩ : ∃ cs, cs = liftsOf ys xs := ⟨_, rfl⟩
            rw [← hcs] at hcl hv hd3
            rw [hcl] at hv
            have HCL := Lib.hid hcl
            have HCS := Lib.hid hcs
            have HVL : Hid ((liftsOf ys xs).length = n) := by rw [Hid, ← hcs, hcl]
            rw [HVL.out]
            clear hcl hcs
            go_wp2_with fail
            refine (l9Ok_any (l : Int) A n c D n cd cs _ HCL.out hn hd3).mono ?_
            rintro e w4 ⟨rfl, hb4⟩
            have hM : (decide (cs.length = n) && allB cs) = liftB (l : Int) xs ys := by rw [liftB, HH.out, HCL.out, HCS.out]; simp
            rw [hM]
            have hv4 := (hv.below hb4).lower (show w.heap.size ≤ w.heap.size + 1 by omega)
            have hb4 := (hb0.trans hb).trans hb4
            clear hM hv
            cases hL : liftB (l : Int) xs ys with
            | false =>
              have HL := Lib.hid hL
              clear hL
              go_wp2
              go_ret2
              exact ⟨_, by rw [HL.out]; rfl, by rw [liftI, HL.out]; exact Res.nil _ _, hb4⟩
            | true =>
              have HL := Lib.hid hL
              clear hL
              go_wp2
              go_ret2
              exact ⟨_, by rw [HL.out]; rfl, by rw [liftI, HL.out, if_pos rfl, ← HCS.out]; exact hv4, hb4⟩

end Go.Proofs.Yteemckhfkgmolaa

namespace Go.Proofs.Yteemckhfkgmolaa
open Go.RowKit

set_option maxRecDepth 100000 in
set_option maxHeartbeats 2000000 in
theorem implCostNet_all (m : Int) (A : Option Addr) (n c : Nat) (xs : List ArcD) (B : Option Addr) (l cb : Nat) (ys : List Int) (w : World) (hn : n ≤ 1048576) (hnx : xs.length = n) (hx : ArcsAt w A xs) (ho : (A = none ∧ n = 0) ∨ ∃ g o, A = some ⟨g, o, none⟩) (hl : l ≤ 1048576) (hly : ys.length = l) (hy : IntsAt w B ys) :
    Calls Try.prog 13 #[.agg #[.int .i64 m, .slice A n c], .slice B l cb] w (GivesNetB w (cnetN m xs ys) (cnetL m xs ys) (metricB m xs ys)) := by
  have HL := Lib.hid hnx
  have HY := Lib.hid hly
  have HO := Lib.hid ho
  clear hnx hly ho
  have hb0 : Past w ((w.alloc (.cells #[.int .i64 m, .slice A n c] 25)).alloc (.cells #[.int .i64 0, .slice none 0 0] 25)) := ((Past.refl _).alloc _).alloc _
  go_enter Try.func13, Try.ntmps13
  go_wp2_with fail
  refine (metricOk_any m A n c xs B l cb ys _ hn HL.out (hx.below hb0) hl HY.out (hy.below hb0)).mono ?_
  rintro e w1 ⟨rfl, hb1⟩
  have b0 := cell_in (p := ⟨w.heap.size, 0, none⟩) (v := .int .i64 m) hb1 (by go_simp)
  have b1 := cell_in (p := ⟨w.heap.size, 1, none⟩) (v := .slice A n c) hb1 (by go_simp)
  have e0 := cell_in (p := ⟨w.heap.size + 1, 0, none⟩) (v := .int .i64 0) hb1 (by go_simp)
  have e1 := cell_in (p := ⟨w.heap.size + 1, 1, none⟩) (v := .slice none 0 0) hb1 (by go_simp)
  have z0 := free_in (p := ⟨w.heap.size + 1, 0, none⟩) (v := .int .i64 0) hb1 (by go_simp) (by go_simp)
  have z1 := free_in (p := ⟨w.heap.size + 1, 1, none⟩) (v := .slice none 0 0) hb1 (by go_simp) (by go_simp)
  have hx1 := (hx.below hb0).below hb1
  have hy1 := (hy.below hb0).below hb1
  cases hB : metricB m xs ys with
  | false =>
    have HB := Lib.hid hB
    clear hB
    go_wp2
    exact bodyPost_ret (v := .tuple #[.agg #[.int .i64 0, .slice none 0 0], .bool false]) (by simp [results, Try.results13, go_sem, e0, e1]) rfl
      ⟨none, 0, by simp [cnetN, cnetL, HB.out], by simp only [cnetL, HB.out, Bool.false_eq_true, if_false]; exact fun k a hk => by simp at hk, by simp only [cnetL, HB.out, Bool.false_eq_true, if_false]; exact .inl ⟨rfl, rfl⟩, Below.setCell (Below.setCell (bel_trans hb0 hb1) (by simp) _) (by simp) _⟩
  | true =>
    have hln : ys.length = xs.length := by
      have h := hB
      simp only [metricB, Bool.and_eq_true, decide_eq_true_eq] at h
      exact h.2.1
    obtain rfl : l = n := by rw [← HL.out, ← HY.out]; exact hln
    have HLN := Lib.hid hln
    have HB := Lib.hid hB
    clear hB hln
    have nb0 := World.new_ne w1 _ b0
    have nb1 := World.new_ne w1 _ b1
    go_upto_region 3 with (fail)
    go_cut [6] (BackCut w1 m l xs)
    case first =>
      go_region_held3 (fun w' => w'.cell? ⟨w.heap.size, 0, none⟩ = some (.int .i64 m) ∧ w'.cell? ⟨w.heap.size, 1, none⟩ = some (.slice A l c)) (go_keep)
        (first
          | (go_at_call 49; refine (clone_all A l c xs _ hn HL.out hx1.drew HO.out).mono ?_; rintro e w2 ⟨v, rfl, hv, hb2⟩; obtain ⟨A2, c2, rfl, hx2, ho2⟩ := hv.formN HL.out; have b0 := cell_in hb2 b0; have b1 := cell_in hb2 b1)
          | (go_at_call 49; refine (clone_all A l c xs _ hn HL.out ((hx1.below ((Past.refl w1).alloc (.cells #[.int .i64 0, .slice none 0 0] 25))).drew) HO.out).mono ?_; rintro e w2 ⟨v, rfl, hv, hb2⟩; obtain ⟨A2, c2, rfl, hx2, ho2⟩ := hv.formN HL.out; have b0 := cell_in hb2 (cell_in ((Past.refl w1).alloc (.cells #[.int .i64 0, .slice none 0 0] 25)).drew b0); have b1 := cell_in hb2 (cell_in ((Past.refl w1).alloc (.cells #[.int .i64 0, .slice none 0 0] 25)).drew b1); have p0 := cell_in (p := ⟨w1.heap.size, 0, none⟩) (v := .int .i64 0) hb2 (by go_simp); have p1 := cell_in (p := ⟨w1.heap.size, 1, none⟩) (v := .slice none 0 0) hb2 (by go_simp); have y0 := free_in (p := ⟨w1.heap.size, 0, none⟩) (v := .int .i64 0) hb2 (by go_simp) (by go_simp); have y1 := free_in (p := ⟨w1.heap.size, 1, none⟩) (v := .slice none 0 0) hb2 (by go_simp) (by go_simp)))
      all_goals go_wp2_with fail
      all_goals go_meet
      · have hb12 : Past w1 w2 := (Past.refl w1).drew.trans hb2
        exact ⟨w2.heap.size, A2, c2, rfl, hb2.size, ⟨_, heap_alloc_new w2 _, rfl⟩, by go_simp, by go_simp, hx2.below ((Past.refl w2).alloc _), OwnAt.keep ho2 (grown_of_below ((Past.refl w2).alloc _) none) (by simp), ho2.ne_new, hb12.alloc _⟩
      · have hbA : Past w1 (w1.alloc (.cells #[.int .i64 0, .slice none 0 0] 25)).drew := ((Past.refl w1).alloc _).drew
        have hb12 : Past w1 w2 := hbA.trans hb2
        have hr : RowN w2 w1.heap.size 25 2 := RowN.keep (w := (w1.alloc (.cells #[.int .i64 0, .slice none 0 0] 25)).drew) ⟨_, heap_alloc_new w1 _, rfl⟩ (hb2.block _ (by simp))
        have hne : blk A2 ≠ some w1.heap.size := ho2.ne_blk (by simp)
        refine ⟨w1.heap.size, A2, c2, rfl, Nat.le_refl _, (hr.set _ _).set _ _, ?_, ?_, (hx2.far _ _ hne).far _ _ hne, ((ho2.lower (by simp)).far _ _).far _ _, hne, Below.setCell (Below.setCell hb12 (by simp) _) (by simp) _⟩
        · exact (World.cell?_setCell_other _ _ _ _ (by simp)).trans (World.cell?_setCell_same _ _ _ p0)
        · exact World.cell?_setCell_same _ _ _ ((World.cell?_setCell_other _ _ _ _ (by simp)).trans p1)
    case rest =>
      obtain ⟨p, A2, c2, rfl, hp, hrp, q0, q1, hx2, ho2, hne, hb12⟩ := hcut
      have sw : w.heap.size + 1 < w1.heap.size := lt_of_cell e0
      have r1 : RowN wc (w.heap.size + 1) 25 2 := by
        refine RowN.keep (w := w1) (RowN.keep (w := ((w.alloc (.cells #[.int .i64 m, .slice A l c] 25)).alloc (.cells #[.int .i64 0, .slice none 0 0] 25))) ⟨#[.int .i64 0, .slice none 0 0], ?_, rfl⟩ (hb1.block _ (by simp))) (hb12.block _ sw)
        have := heap_alloc_new (w.alloc (.cells #[.int .i64 m, .slice A l c] 25)) (.cells #[.int .i64 0, .slice none 0 0] 25)
        simpa using this
      have hb0c : Past w wc := hb0.trans (Past.trans hb1 hb12)
      have hyc := hy1.below hb12
      have hNv : cnetN m xs ys = m := by rw [cnetN, HB.out, if_pos rfl]
      have hLv : cnetL m xs ys = costed xs ys := by rw [cnetL, HB.out, if_pos rfl]
      have hll : (costed xs ys).length = l := by rw [costed_len HLN.out, HL.out]
      have HNV := Lib.hid hNv
      have HLV := Lib.hid hLv
      have HLL := Lib.hid hll
      clear e0 e1 z0 z1 nb0 nb1 hx1 b0 b1 hNv hLv hll
      by_cases hn0 : l = 0
      · obtain ⟨x0, e0⟩ := r1.cell (i := 0) (by omega)
        obtain ⟨x1, e1⟩ := r1.cell (i := 1) (by omega)
        have z0 := r1.frozen 0
        have z1 := r1.frozen 1
        have hlt0 : ¬ ((0 : Int) < (l : Int)) := by omega
        have hnil : costed xs ys = [] := List.eq_nil_of_length_eq_zero (HLL.out.trans hn0)
        have HNL := Lib.hid hnil
        clear hn0 hnil
        go_wp2
        go_loop [22] (fun q => q = .int .i64 0) (fun _ => 0)
        case atStart => rfl
        case round =>
          subst hrel
          go_wp2
          exact bodyPost_ret (v := .tuple #[.agg #[.int .i64 m, .slice A2 l c2], .bool true]) (by simp [results, Try.results13, go_sem, e0, e1]) rfl
            ⟨A2, c2, by rw [HNV.out, HLV.out, HLL.out, HB.out], by rw [HLV.out, HNL.out]; exact fun k a hk => by simp at hk, by rw [HLV.out, HLL.out]; exact ((ho2.lower (by omega)).far _ _).far _ _, Below.setCell (Below.setCell hb0c (by simp) _) (by simp) _⟩
      · obtain ⟨g2, sz, rfl, hg2, hr2, hs2⟩ : ∃ g2 sz, A2 = some ⟨g2, 0, none⟩ ∧ w1.heap.size ≤ g2 ∧ RowN wc g2 68 sz ∧ l * 5 ≤ sz := by
          rcases ho2 with ⟨_, h0⟩ | h
          · exact absurd h0 hn0
          · exact h
        have hpg : p ≠ g2 := fun e => hne (by rw [e]; rfl)
        have hturn : Costed wc g2 sz xs ys 0 := ⟨hr2, fun j a c hj => absurd hj (by omega), fun j a _ ha => by
          obtain ⟨g3, o3, e, h5⟩ := hx2 j a ha
          injection e with e
          injection e with e1 e2
          subst e1 e2
          simpa using h5⟩
        have gB : ∀ b, blk B = some b → b < w.heap.size := fun b hbb => by
          obtain ⟨y, hy0⟩ : ∃ a, ys[0]? = some a := ⟨_, List.getElem?_eq_getElem (by have := HY.out; omega)⟩
          obtain ⟨g3, o3, rfl, h5⟩ := hy 0 y hy0
          simp [blk] at hbb
          subst hbb
          exact lt_of_cell h5
        clear hx2 ho2 hne hr2
        go_wp2
        go_loopw [22] (fun q wr => ∃ k : Nat, k ≤ l ∧ q = .int .i64 k ∧ Costed wr g2 sz xs ys k ∧ wc.grownBy wr (some g2)) (fun q _ => l - (intOf q).toNat)
        case atStart => exact ⟨0, by omega, rfl, hturn, grown_refl _ _⟩
        case round =>
          obtain ⟨k, hk, rfl, ht, hg⟩ := hrel
          have q0 := cell_far hg q0 hpg
          have q1 := cell_far hg q1 hpg
          by_cases hlt : k < l
          · obtain ⟨a, ha⟩ : ∃ a, xs[k]? = some a := ⟨_, List.getElem?_eq_getElem (by have := HL.out; omega)⟩
            obtain ⟨y, hyk⟩ : ∃ a, ys[k]? = some a := ⟨_, List.getElem?_eq_getElem (by have := HY.out; omega)⟩
            obtain ⟨g3, o3, rfl, c0⟩ := (hyc.grown hg (fun b hb e => by injection hb with hb; have := gB b e; omega)) k _ hyk
            obtain ⟨d0, d1, d2, d3, d4⟩ := ht.2.2 k _ (Nat.le_refl _) ha
            have z2 := ht.1.frozen (k * 5 + 2)
            have HN := Lib.hid (ht.next ha hyk)
            clear ha hyk d0 d1 d3 d4
            have i0 : (0 : Int) ≤ (k : Int) := by omega
            have i1 : (k : Int) < (l : Int) := by omega
            go_wp2
            go_roundw
            case rel => exact ⟨k + 1, by omega, by go_num, HN.out, grown_set hg _ _⟩
            case measure => simp [intOf]; omega
          · obtain rfl : l = k := by omega
            have r1 := r1.young hg (by omega)
            obtain ⟨x0, e0⟩ := r1.cell (i := 0) (by omega)
            obtain ⟨x1, e1⟩ := r1.cell (i := 1) (by omega)
            have z0 := r1.frozen 0
            have z1 := r1.frozen 1
            have hbf : Past w wr := Below.grown hb0c hg hb0c.size (fun b hb => by injection hb with hb; omega)
            go_wp2
            have hne2 : blk (some ⟨g2, 0, none⟩) ≠ some (w.heap.size + 1) := by simp [blk]; omega
            exact bodyPost_ret (v := .tuple #[.agg #[.int .i64 m, .slice (some ⟨g2, 0, none⟩) l c2], .bool true]) (by simp [results, Try.results13, go_sem, e0, e1]) rfl
              ⟨_, c2, by rw [HNV.out, HLV.out, HLL.out, HB.out], by rw [HLV.out]; exact ((ht.arcs HL.out).far _ _ hne2).far _ _ hne2, by rw [HLV.out]; exact .inr ⟨g2, sz, rfl, by omega, (ht.1.set _ _).set _ _, by rw [HLL.out]; exact hs2⟩, Below.setCell (Below.setCell hbf (by simp) _) (by simp) _⟩

theorem implCostNet_any (m : Int) (g n c : Nat) (xs : List ArcD) (B : Option Addr) (l cb : Nat) (ys : List Int) (w : World) (hn : n ≤ 1048576) (hnx : xs.length = n) (hx : ArcsAt w (some ⟨g, 0, none⟩) xs) (hl : l ≤ 1048576) (hly : ys.length = l) (hy : IntsAt w B ys) :
    Calls Try.prog 13 #[.agg #[.int .i64 m, .slice (some ⟨g, 0, none⟩) n c], .slice B l cb] w (GivesNetB w (cnetN m xs ys) (cnetL m xs ys) (metricB m xs ys)) :=
  implCostNet_all m _ n c xs B l cb ys w hn hnx hx (.inr ⟨g, 0, rfl⟩) hl hly hy

theorem cnetL_lenM (m : Int) (xs : List ArcD) (cs : List Int) : (cnetL m xs cs).length ≤ 1048576 := by
  unfold cnetL costed
  split
  · rename_i h
    simp only [metricB, Bool.and_eq_true] at h
    have := net_num h.1
    rw [List.length_zipWith]
    omega
  · simp

end Go.Proofs.Yteemckhfkgmolaa

namespace Go.Proofs.Yteemckhfkgmolaa

def ownC (xs : List ArcD) : List Int := xs.map (·.c)

theorem ownC_next {xs : List ArcD} {k : Nat} {a : ArcD} (h : xs[k]? = some a) : ownC (xs.take (k + 1)) = ownC (xs.take k) ++ [a.c] := by
  rw [List.take_add_one, h]
  simp [ownC]
theorem metric_parts {m : Int} {xs : List ArcD} {cs : List Int} (h : metricB m xs cs = true) : netB m xs = true ∧ cs.length = xs.length ∧ ∀ c ∈ cs, 0 ≤ c ∧ c ≤ 99 := by
  simp only [metricB, Bool.and_eq_true, decide_eq_true_eq, allB, List.all_eq_true] at h
  exact ⟨h.1, h.2.1, fun c hc => (inB_iff _ _ _).1 (h.2.2 c hc)⟩
theorem costed_ok {m : Int} {xs : List ArcD} {cs : List Int} (h : metricB m xs cs = true) : netB m (costed xs cs) = true := by
  obtain ⟨h1, h2, h3⟩ := metric_parts h
  obtain ⟨hm, hl, ha⟩ := (netB_iff _ _).1 h1
  refine (netB_iff _ _).2 ⟨hm, by rw [costed_len h2]; exact hl, fun b hb => ?_⟩
  obtain ⟨k, hk⟩ := List.getElem?_of_mem hb
  obtain ⟨a, c, hka, hkc, rfl⟩ := costed_at hk
  have h4 := ha a (List.mem_of_getElem? hka)
  have h5 := h3 c (List.mem_of_getElem? hkc)
  simp only [arcB, setC, Bool.and_eq_true, inB_iff] at h4 ⊢
  exact ⟨h4.1, h4.2.1, h4.2.2.1, h5, h4.2.2.2.2.1, h4.2.2.2.2.2⟩
theorem own_metric {m : Int} {xs : List ArcD} {cs : List Int} (h : metricB m xs cs = true) : metricB m (costed xs cs) (ownC xs) = true := by
  obtain ⟨h1, h2, _⟩ := metric_parts h
  have hl : (ownC xs).length = (costed xs cs).length := by rw [costed_len h2, ownC, List.length_map]
  have ha : allB (ownC xs) = true := by
    rw [allB, List.all_eq_true]
    intro z hz
    rw [ownC, List.mem_map] at hz
    obtain ⟨a, ha, rfl⟩ := hz
    obtain ⟨k, hk⟩ := List.getElem?_of_mem ha
    have := net_arc h1 hk
    exact (inB_iff _ _ _).2 (by omega)
  rw [metricB, costed_ok h, hl, ha]
  simp
theorem costed_own {xs : List ArcD} {cs : List Int} (h : cs.length = xs.length) : costed (costed xs cs) (ownC xs) = xs := by
  apply List.ext_getElem?
  intro k
  rw [costed, costed, ownC, List.getElem?_zipWith, List.getElem?_zipWith, List.getElem?_map]
  cases hx : xs[k]? with
  | none => simp
  | some a =>
    have hk : k < cs.length := by rw [h]; exact (List.getElem?_eq_some_iff.1 hx).1
    rw [List.getElem?_eq_getElem hk]
    rfl

end Go.Proofs.Yteemckhfkgmolaa

namespace Go.Proofs.Yteemckhfkgmolaa

/-- The net whose costs are lifted. -/
def lifted (hs : List Int) (xs : List ArcD) : List ArcD := xs.map fun a => setC a (liftOne hs a)

theorem costed_map (g : ArcD → Int) : ∀ xs : List ArcD, costed xs (xs.map g) = xs.map fun a => setC a (g a)
  | [] => rfl
  | a :: r => by
    have ih := costed_map g r
    rw [costed] at ih
    rw [costed, List.map_cons, List.zipWith_cons_cons, ih, List.map_cons]
theorem costed_lift (hs : List Int) (xs : List ArcD) : costed xs (liftsOf hs xs) = lifted hs xs := costed_map _ xs

theorem Way.lift {xs : List ArcD} {hs : List Int} {s v c : Int} {l : List Int} (h : Way xs s v c l) : Way (lifted hs xs) s v (c - at_ hs s + at_ hs v) l := by
  induction h with
  | nil =>
    have : (0 : Int) - at_ hs s + at_ hs s = 0 := by omega
    rw [this]
    exact .nil
  | @snoc u c l a _ ha e ih =>
    subst e
    have hm : setC a (liftOne hs a) ∈ lifted hs xs := List.mem_map.2 ⟨a, ha, rfl⟩
    have h2 := Way.snoc ih hm rfl
    have e2 : c - at_ hs s + at_ hs a.f + (setC a (liftOne hs a)).c = c + a.c - at_ hs s + at_ hs a.t := by simp only [setC, liftOne]; omega
    rw [e2] at h2
    exact h2
theorem Way.unlift {xs : List ArcD} {hs : List Int} {s v c : Int} {l : List Int} (h : Way (lifted hs xs) s v c l) : Way xs s v (c + at_ hs s - at_ hs v) l := by
  induction h with
  | nil =>
    have : (0 : Int) + at_ hs s - at_ hs s = 0 := by omega
    rw [this]
    exact .nil
  | @snoc u c l b _ hb e ih =>
    subst e
    obtain ⟨a, ha, rfl⟩ := List.mem_map.1 hb
    have h2 := Way.snoc ih ha rfl
    have e2 : c + at_ hs s - at_ hs (setC a (liftOne hs a)).f + a.c = c + (setC a (liftOne hs a)).c + at_ hs s - at_ hs (setC a (liftOne hs a)).t := by simp only [setC, liftOne]; omega
    rw [e2] at h2
    exact h2

theorem far_none {M : Nat} {xs : List ArcD} {s v c : Int} {l : List Int} (hM : M ≤ 8) (hx : ArcsIn M xs) (hs : 0 ≤ s ∧ s < M) (h : at_ (nearL M xs s) v = 99999) (hw : Way xs s v c l) : False := by
  obtain ⟨c2, l2, h1, _, _, h4⟩ := hw.simple hx
  have hf := h1.few hx hs h4
  have hc := h1.cost hx
  have := nearL_le hM hx hs h1
  omega

/-- From each node to each it costs what it did, less the height of the first, and the height of the second. -/
theorem near_lift {M : Nat} {xs : List ArcD} {hs : List Int} {s v : Int} (hM : M ≤ 8) (hx : ArcsIn M xs) (hy : ArcsIn M (lifted hs xs)) (h1 : 0 ≤ s ∧ s < M) (h2 : 0 ≤ v ∧ v < M) :
    (at_ (nearL M xs s) v = 99999 ∧ at_ (nearL M (lifted hs xs) s) v = 99999) ∨ (at_ (nearL M xs s) v < 99999 ∧ at_ (nearL M (lifted hs xs) s) v = at_ (nearL M xs s) v - at_ hs s + at_ hs v) := by
  obtain ⟨a1, a2⟩ := (nearL_sound hx h1).2 v h2.1 h2.2
  obtain ⟨b1, b2⟩ := (nearL_sound hy h1).2 v h2.1 h2.2
  have ef : farI = 99999 := rfl
  rcases a2 with a2 | ⟨l, a2⟩
  · rw [ef] at a2
    rcases b2 with b2 | ⟨l', b2⟩
    · exact .inl ⟨a2, b2⟩
    · exact absurd b2.unlift (fun h => far_none hM hx h1 a2 h)
  · have hlt : at_ (nearL M xs s) v < 99999 := by
      rcases Int.lt_or_le (at_ (nearL M xs s) v) 99999 with h | h
      · exact h
      · obtain ⟨c2, l2, g1, _, _, g4⟩ := a2.simple hx
        have hf := g1.few hx h1 g4
        have hc := g1.cost hx
        have := nearL_le hM hx h1 g1
        omega
    right
    refine ⟨hlt, ?_⟩
    have k1 := nearL_le hM hy h1 (a2.lift (hs := hs))
    rcases b2 with b2 | ⟨l', b2⟩
    · rw [ef] at b2
      exact absurd (a2.lift (hs := hs)) (fun h => far_none hM hy h1 b2 h)
    · have k2 := nearL_le hM hx h1 b2.unlift
      omega

end Go.Proofs.Yteemckhfkgmolaa

namespace Go.Proofs.Yteemckhfkgmolaa
open Go.RowKit

set_option maxRecDepth 100000 in
set_option maxHeartbeats 1000000 in
theorem wkInts_same (A B : Option Addr) (n c c' : Nat) (xs : List Int) (w : World) (hn : n ≤ 1048576) (hl : xs.length = n) (hx : IntsAt w A xs) (hy : IntsAt w B xs) :
    Calls Try.prog 12 #[.slice A n c, .slice B n c'] w fun e w' => e = .returned (.bool true) ∧ Below w.heap.size w w' := by
  go_enter Try.func12, Try.ntmps12
  go_wp2
  go_loopw [5] (fun i wr => ∃ k : Nat, k ≤ n ∧ i = .int .i64 k ∧ Past w wr) (fun i _ => n - (intOf i).toNat)
  case atStart => exact ⟨0, by omega, rfl, Past.refl _⟩
  case round =>
    obtain ⟨k, hk, rfl, hb⟩ := hrel
    by_cases hlt : k < n
    · obtain ⟨x0, ha⟩ : ∃ a, xs[k]? = some a := ⟨_, List.getElem?_eq_getElem (by omega)⟩
      obtain ⟨g, o, rfl, c0⟩ := (hx.below hb) k _ ha
      obtain ⟨g', o', rfl, d0⟩ := (hy.below hb) k _ ha
      have hi : (k : Int) < (n : Int) := by omega
      have h0 : (0 : Int) ≤ (k : Int) := by omega
      clear ha hl
      go_wp2_with fail
      go_quiet (fail)
      go_wp2
      go_roundw
      case rel => exact ⟨k + 1, by omega, by go_num, hb.drewN _⟩
      case measure => simp [intOf]; omega
    · go_wp2
      go_ret
      exact ⟨rfl, hb⟩

end Go.Proofs.Yteemckhfkgmolaa

namespace Go.Proofs.Yteemckhfkgmolaa
open Go.ChangeShapes Go.WideShapes Go.ChangeAt Go.RowKit

theorem getAt (d : List Int) (i : Nat) (h : i < d.length) : d[i]? = some (at_ d (i : Int)) := by simp [at_, h]

set_option maxRecDepth 100000 in
set_option maxHeartbeats 4000000 in
theorem fnCostLift_walk (A : Option Addr) (n c : Nat) (w : World) (hn : n ≤ c) (hc : c ≤ maxLen) (hb : BytesAt w A n) :
    Calls Try.prog 3 #[.slice A n c] w fun e w' => e = .returned (.bool true) ∧ Below w.heap.size w w' := by
  by_cases h1 : 1048576 < n
  · have h1' : (1048576 : Int) < (n : Int) := by omega
    go_enter Try.func3, Try.ntmps3
    go_wp2
    go_ret
    exact ⟨rfl, Below.refl _ _⟩
  have h1' : ¬ (1048576 : Int) < (n : Int) := by omega
  go_enter Try.func3, Try.ntmps3
  go_wp2_with fail
  refine (drawCostLift_any A n c w hn hc hb).mono ?_
  rintro e w1 ⟨m, B, k, cap, xs, D, l, cd, hs, rfl, hxk, hk, hx1, hform, hly, hl9, hy1, hb1⟩
  have HX := Lib.hid hxk
  have HY := Lib.hid hly
  clear hxk hly hb hn hc
  have hkk : k ≤ 1048576 := by omega
  have hll : l ≤ 1048576 := by omega
  have hpW : Past w1 (w1.alloc (.cells #[.int .i64 m, .slice B k cap] 25)) := (Past.refl w1).alloc _
  go_wp2_with fail
  refine (implCostLift_any m B k cap xs D l cd hs _ hkk HX.out (hx1.below hpW) hll HY.out (hy1.below hpW)).mono ?_
  rintro e w2 ⟨v2, rfl, hv2, hb2⟩
  have b0 := cell_in (p := ⟨w1.heap.size, 0, none⟩) (v := .int .i64 m) hb2 (by go_simp)
  have b1 := cell_in (p := ⟨w1.heap.size, 1, none⟩) (v := .slice B k cap) hb2 (by go_simp)
  have hx2 := (hx1.below hpW).below hb2
  have hy2 := (hy1.below hpW).below hb2
  have hp2 : Past w w2 := Past.trans hb1 (hpW.trans hb2)
  obtain ⟨X, cx, rfl, hs2, _⟩ := hv2.form
  obtain ⟨ok, hok⟩ : ∃ ok, ok = liftB m xs hs := ⟨_, rfl⟩
  obtain ⟨ps, hps⟩ : ∃ ps, ps = liftI m xs hs := ⟨_, rfl⟩
  rw [← hps] at hs2 ⊢
  obtain ⟨R, hR⟩ : ∃ R, R = ps.length := ⟨_, rfl⟩
  have hR1 : R ≤ 1048576 := by rw [hR, hps]; exact liftI_len m xs hs
  rw [← hR, ← hok]
  have HPS := Lib.hid hps
  have HOK := Lib.hid hok
  have HR := Lib.hid hR.symm
  clear hps hok hR hv2 hx1 hy1 hb1 hb2 hpW
  go_wp2_with fail
  refine (specCostLift_any m B k cap xs D l cd hs _ hkk HX.out hx2 hll HY.out hy2).mono ?_
  rintro e w3 ⟨v3, rfl, hv3, hb3⟩
  obtain ⟨F, cf, rfl, hs3, _⟩ := hv3.form
  rw [← HPS.out] at hs3 ⊢
  rw [HR.out, ← HOK.out]
  have b0 := cell_in hb3 b0
  have b1 := cell_in hb3 b1
  have hx3 := hx2.below hb3
  have hy3 := hy2.below hb3
  have hs23 := hs2.below hb3
  have hp3 := Past.trans hp2 hb3
  have k1 : (ok != ok) = false := by simp
  clear hv3 hx2 hy2 hs2 hb3 hp2
  go_wp2_with fail
  refine (wkInts_same X F R cx cf ps _ hR1 HR.out hs23 hs3).mono ?_
  rintro e w4 ⟨rfl, hb4⟩
  have b0 := cell_in hb4 b0
  have b1 := cell_in hb4 b1
  have hx4 := hx3.below hb4
  have hy4 := hy3.below hb4
  have hs4 := hs23.below hb4
  have hf4 := hs3.below hb4
  have hp4 := Past.trans hp3 hb4
  clear hx3 hy3 hs23 hs3 hb4 hp3
  cases hO : ok with
  | false =>
    clear hO k1
    go_wp2_with fail
    refine (wkInts_same X F R cx cf ps _ hR1 HR.out hs4 hf4).mono ?_
    rintro e w5 ⟨rfl, hb5⟩
    go_wp2
    go_ret
    exact ⟨rfl, hp4.trans hb5⟩
  | true =>
    have hL : liftB m xs hs = true := by rw [← HOK.out, hO]
    have hL2 := hL
    simp only [liftB, Bool.and_eq_true] at hL2
    obtain ⟨hH, hAll⟩ := hL2
    obtain ⟨hN, hlm, hall⟩ := (highB_iff _ _ _).1 hH
    obtain ⟨M, rfl, hM1, hM8⟩ := here_nat hN
    obtain rfl : l = M := by have := HY.out; omega
    have hps : ps = liftsOf hs xs := by rw [HPS.out, liftI, hL, if_pos rfl]
    have hll2 : (liftsOf hs xs).length = xs.length := by rw [liftsOf, List.length_map]
    obtain rfl : k = R := by rw [← HR.out, hps, hll2, HX.out]
    have hMet : metricB (l : Int) xs (liftsOf hs xs) = true := by rw [metricB, hN, hll2, hAll]; simp
    have hcl : cnetL (l : Int) xs ps = lifted hs xs := by rw [hps, cnetL, hMet, if_pos rfl, costed_lift]
    have hcn : cnetN (l : Int) xs ps = (l : Int) := by rw [hps, cnetN, hMet, if_pos rfl]
    have hcb : metricB (l : Int) xs ps = true := by rw [hps, hMet]
    have hNy : netB (l : Int) (lifted hs xs) = true := by rw [← costed_lift]; exact costed_ok hMet
    have hly2 : (lifted hs xs).length = k := by rw [lifted, List.length_map, HX.out]
    have hhb : ∀ v : Nat, v < l → 0 ≤ at_ hs (v : Int) ∧ at_ hs (v : Int) ≤ 99 := fun v hv => by
      have h1 : v < hs.length := by rw [HY.out]; exact hv
      have h2 := List.all_eq_true.1 hall _ (List.getElem_mem h1)
      have h3 : at_ hs (v : Int) = hs[v] := by simp [at_, h1]
      rw [h3]
      exact (inB_iff _ _ _).1 h2
    have HN := Lib.hid hN
    have HNY := Lib.hid hNy
    have HLY := Lib.hid hly2
    have HHB := Lib.hid hhb
    clear hO hL hH hAll hN hlm hall hps hll2 hMet hNy hly2 hhb k1 hf4 HPS HOK
    go_wp2_with fail
    refine (implCostNet_all (l : Int) B k cap xs X k cx ps _ hkk HX.out hx4 hform hkk HR.out hs4).mono ?_
    rintro e w5 ⟨Y, cy, rfl, hy5, _, hb5⟩
    rw [hcl] at hy5 ⊢
    rw [hcn, hcb, HLY.out]
    have b0 := cell_in hb5 b0
    have b1 := cell_in hb5 b1
    have hx5 := hx4.below hb5
    have hh5 := hy4.below hb5
    have hp5 := hp4.trans hb5
    obtain ⟨W, hW⟩ : ∃ W, W = w5.alloc (.cells #[.int .i64 (l : Int), .slice Y k cy] 25) := ⟨_, rfl⟩
    have hpW : Past w5 W := by rw [hW]; exact (Past.refl _).alloc _
    have x0 : W.cell? ⟨w5.heap.size, 0, none⟩ = some (.int .i64 (l : Int)) := by rw [hW]; go_simp
    have x1 : W.cell? ⟨w5.heap.size, 1, none⟩ = some (.slice Y k cy) := by rw [hW]; go_simp
    have b0 := cell_in hpW b0
    have b1 := cell_in hpW b1
    have hx6 := hx5.below hpW
    have hh6 := hh5.below hpW
    have hy6 := hy5.below hpW
    have hp6 := hp5.trans hpW
    have HW := Lib.hid hW
    clear hW hcl hcn hcb hx4 hy4 hs4 hp4 hb5 hx5 hh5 hy5 hp5 hpW
    go_wp2
    rw [← HW.out]
    clear HW
    go_loopw [11] (fun i wr => ∃ a : Nat, a ≤ l ∧ i = .int .i64 a ∧ Past W wr) (fun i _ => l - (intOf i).toNat)
    case atStart => exact ⟨0, by omega, rfl, Past.refl _⟩
    case round =>
      obtain ⟨a, ha, rfl, hbr⟩ := hrel
      have b0 := cell_in hbr b0
      have b1 := cell_in hbr b1
      have x0 := cell_in hbr x0
      have x1 := cell_in hbr x1
      by_cases hlt : a < l
      · have a0 : (0 : Int) ≤ (a : Int) := by omega
        have a1 : (a : Int) < (l : Int) := by omega
        have hJ1 : nearI (l : Int) xs (a : Int) = nearL l xs (a : Int) := by rw [nearI, (hereB_iff _ _ _).2 ⟨HN.out, by omega, by omega⟩, if_pos rfl, Int.toNat_natCast]
        have hJ2 : nearI (l : Int) (lifted hs xs) (a : Int) = nearL l (lifted hs xs) (a : Int) := by rw [nearI, (hereB_iff _ _ _).2 ⟨HNY.out, by omega, by omega⟩, if_pos rfl, Int.toNat_natCast]
        go_wp2_with fail
        refine (implNearAll_any (l : Int) B k cap xs (a : Int) _ hkk HX.out (hx6.below hbr)).mono ?_
        rintro e w7 ⟨v7, rfl, hv7, hb7⟩
        rw [hJ1] at hv7
        obtain ⟨P, cp, rfl, hd7, _⟩ := hv7.form
        rw [nearL_length]
        have b0 := cell_in hb7 b0
        have x0 := cell_in hb7 x0
        have x1 := cell_in hb7 x1
        have hb8 := hbr.trans hb7
        clear hv7 hJ1 hb7
        go_wp2_with fail
        refine (implNearAll_any (l : Int) Y k cy (lifted hs xs) (a : Int) _ hkk HLY.out (hy6.below hb8)).mono ?_
        rintro e w8 ⟨v8, rfl, hv8, hb9⟩
        rw [hJ2] at hv8
        obtain ⟨Q, cq, rfl, he8, _⟩ := hv8.form
        rw [nearL_length]
        have b0 := cell_in hb9 b0
        have hd8 := hd7.below hb9
        have hbw := hb8.trans hb9
        have hh8 := hh6.below hbw
        clear hv8 hJ2 hb8 hb9 hd7 b1 x0 x1 hbr
        go_wp2
        go_loopw [14] (fun i wr => ∃ b : Nat, b ≤ l ∧ i = .int .i64 b ∧ Past w8 wr) (fun i _ => l - (intOf i).toNat)
        case atStart => exact ⟨0, by omega, rfl, Past.refl _⟩
        case round =>
          obtain ⟨b, hbl, rfl, hbq⟩ := hrel
          have b0 := cell_in hbq b0
          by_cases hlb : b < l
          · have i0 : (0 : Int) ≤ (b : Int) := by omega
            have i1 : (b : Int) < (l : Int) := by omega
            have hnl := near_lift (hs := hs) hM8 (arcsIn_net HN.out) (arcsIn_net HNY.out) (s := (a : Int)) (v := (b : Int)) ⟨by omega, by omega⟩ ⟨by omega, by omega⟩
            have hnb := nearL_bound (arcsIn_net HN.out) (s := (a : Int)) (v := (b : Int)) ⟨by omega, by omega⟩ ⟨by omega, by omega⟩
            have ha9 := HHB.out a hlt
            have hb9 := HHB.out b hlb
            obtain ⟨p, hp⟩ : ∃ p, p = at_ (nearL l xs (a : Int)) (b : Int) := ⟨_, rfl⟩
            obtain ⟨q, hq⟩ : ∃ q, q = at_ (nearL l (lifted hs xs) (a : Int)) (b : Int) := ⟨_, rfl⟩
            obtain ⟨u, hu⟩ : ∃ u, u = at_ hs (a : Int) := ⟨_, rfl⟩
            obtain ⟨v, hv⟩ : ∃ v, v = at_ hs (b : Int) := ⟨_, rfl⟩
            obtain ⟨g1, o1, rfl, y1⟩ := (hd8.below hbq) b p (by rw [hp]; exact getAt _ b (by rw [nearL_length]; exact hlb))
            obtain ⟨g2, o2, rfl, y2⟩ := (he8.below hbq) b q (by rw [hq]; exact getAt _ b (by rw [nearL_length]; exact hlb))
            obtain ⟨g3, o3, rfl, y3⟩ := (hh8.below hbq) a u (by rw [hu]; exact getAt _ a (by rw [HY.out]; exact hlt))
            obtain ⟨g4, o4, eg, y4⟩ := (hh8.below hbq) b v (by rw [hv]; exact getAt _ b (by rw [HY.out]; exact hlb))
            injection eg with eg
            injection eg with eg1 eg2
            subst eg1 eg2
            rw [← hp, ← hq, ← hu, ← hv] at hnl
            rw [← hp] at hnb
            rw [← hu] at ha9
            rw [← hv] at hb9
            clear hp hq hu hv
            rcases hnl with ⟨rfl, rfl⟩ | ⟨hlt9, hqe⟩
            · have t1 : IntKind.i64.wrap (99999 - u) = 99999 - u := IntWalk.i64_in _ (by omega)
              have t2 : IntKind.i64.wrap (99999 - u + v) = 99999 - u + v := IntWalk.i64_in _ (by omega)
              go_wp2_with fail
              go_quiet (fail)
              go_wp2
              go_roundw
              case rel => exact ⟨b + 1, by omega, by go_num, hbq.drewN _⟩
              case measure => simp [intOf]; omega
            · have t1 : IntKind.i64.wrap (p - u) = p - u := IntWalk.i64_in _ (by omega)
              have t2 : IntKind.i64.wrap (p - u + v) = q := by rw [hqe]; exact IntWalk.i64_in _ (by omega)
              have t3 : (p == 99999) = false := by simp; omega
              have t4 : (q != q) = false := by simp
              clear hqe
              go_wp2_with fail
              go_quiet (fail)
              go_wp2
              go_roundw
              case rel => exact ⟨b + 1, by omega, by go_num, hbq.drewN _⟩
              case measure => simp [intOf]; omega
          · obtain rfl : l = b := by omega
            go_wp2
            go_roundw
            case rel => exact ⟨a + 1, by omega, by go_num, hbw.trans hbq⟩
            case measure => simp [intOf]; omega
      · obtain rfl : l = a := by omega
        go_wp2
        go_ret
        exact ⟨rfl, hp6.trans hbr⟩

set_option maxRecDepth 100000 in
theorem fnCostLift_lifted (os : Os) (started : os.Started) (H : Type) (enc : TypeId × Value → H) :
    ReturnsInHanded {} Try.checked os 3 .any (Rows.fnCostLiftSpec.pre6 enc Try.prog Try.f3 Rows.fnCostLiftRow.domain false) (Rows.fnCostLiftSpec.post enc Try.prog Try.f3 false true false false) := by
  refine returnsInHanded_of_change (C := Try.checked) own started (by kernel_rfl) Try.func3
    (ChangeSpec.witness6 (enc := enc) (C := Try.checked) false ⟨#[], #[.slice none 0 0], []⟩ 8 (by kernel_rfl) (by kernel_rfl) (by kernel_rfl) (by kernel_rfl)) ?_
  intro W base args ds gs before hval0 hW hcnd _
  have hval : ∀ (j : Nat) t v, Try.f3.params[j]? = some t → args[j]? = some v → Value.okWide Try.prog W .any base t v := hval0
  have hW' := hW
  obtain ⟨p, q, hA0, hV, rfl, hfz, hnd⟩ := hW
  have hA : DataW.TrodAll enc Try.prog W 0 (fun _ => true) true Try.f3.params.toList args.toList ds p := hA0
  rw [Try.params3] at hA hval
  obtain ⟨v0, vs0, d0, ds0, p0, q0, hargs, rfl, rfl, h0, r0⟩ := trodAll_cons hA
  obtain ⟨rfl, rfl, rfl⟩ := trodAll_nil r0
  obtain rfl : args = #[v0] := by cases args; simp_all
  obtain ⟨rfl, rfl⟩ := trodVars_none hV
  have k0 := h0
  have lt0 := places_lt k0
  obtain ⟨A0, n0, c0, rfl, hn0, hc0, hb0⟩ := open_bytes (hval 0 22 v0 rfl rfl) h0
  clear hA0 hval0
  refine (fnCostLift_walk A0 n0 c0 W hn0 hc0 hb0).mono fun e W' ⟨he, bel⟩ => ?_
  subst he
  exact ⟨_, rfl, _, _, _, [], _, [], hW', trodAll_mk1 (shut_bool Try.underlying4 _), (trodAll_cons_mk (Below.trod laidOut (by kernel_rfl) (of_decide_eq_true (by kernel_rfl)) k0 bel lt0) trodAll_mk0), rfl, bel.frame _, fun h => by cases h⟩

/-- The given statement. -/
theorem fnCostLift_proved : Rows.FnCostLiftSaid :=
  OpenClaim.holds_of_wide 3 Try.f3 rfl rfl rfl rfl rfl rfl rfl ⟨rfl, rfl, rfl, rfl, rfl⟩ rfl rfl rfl rfl rfl (by kernel_rfl) Try.func3 (by kernel_rfl)
    (of_decide_eq_true (by kernel_rfl)) (by unfold Func.isWrapper; first | (rw [if_pos (by decide +kernel)]; kernel_rfl) | (rw [if_neg (by decide +kernel)]; exact ⟨rfl, rfl⟩))
    (fun os started H enc _ => fnCostLift_lifted os started H enc)

end Go.Proofs.Yteemckhfkgmolaa
