/-
  l30AnyNet: a net in new memory, with 13 arcs at most, one number of it bent, mostly not.
-/
import Derived.Test.YtifbigfkakappaaDraw3
namespace Go.Proofs.Ytifbigfkakappaa
open Go.RowKit

theorem ArcsAt.turn {w : World} {g k i : Nat} {xs : List ArcD} {a b : ArcD} {z : Int} (h : ArcsAt w (some ⟨g, 0, none⟩) xs) (hk : xs[k]? = some a) (hi : i < 5) (hb : Arc5 (w.setCell ⟨g, k * 5 + i, none⟩ (.int .i64 z)) g (k * 5) b) :
    ArcsAt (w.setCell ⟨g, k * 5 + i, none⟩ (.int .i64 z)) (some ⟨g, 0, none⟩) (xs.set k b) := fun j x hx => by
  by_cases hj : j = k
  · subst hj
    have hlt := (List.getElem?_eq_some_iff.1 hk).1
    rw [List.getElem?_set_self hlt] at hx
    injection hx with hx
    subst hx
    exact ⟨g, 0, rfl, by rw [Nat.zero_add]; exact hb⟩
  · rw [List.getElem?_set_ne (Ne.symm hj)] at hx
    obtain ⟨g', o', e, h5⟩ := h j x hx
    injection e with e
    injection e with e1 e2
    subst e1 e2
    exact ⟨g, 0, rfl, h5.set _ _ (by omega)⟩

theorem Arc5.to {w : World} {g p : Nat} {a : ArcD} (h : Arc5 w g p a) (z : Int) : Arc5 (w.setCell ⟨g, p + 1, none⟩ (.int .i64 z)) g p ⟨a.f, z, a.c, a.l, a.d⟩ := by
  obtain ⟨c0, c1, c2, c3, c4⟩ := h
  exact ⟨(World.cell?_setCell_other _ _ _ _ (by intro e; injection e; omega)).trans c0, World.cell?_setCell_same _ _ _ c1, (World.cell?_setCell_other _ _ _ _ (by intro e; injection e; omega)).trans c2, (World.cell?_setCell_other _ _ _ _ (by intro e; injection e; omega)).trans c3, (World.cell?_setCell_other _ _ _ _ (by intro e; injection e; omega)).trans c4⟩
theorem Arc5.cost {w : World} {g p : Nat} {a : ArcD} (h : Arc5 w g p a) (z : Int) : Arc5 (w.setCell ⟨g, p + 2, none⟩ (.int .i64 z)) g p ⟨a.f, a.t, z, a.l, a.d⟩ := by
  obtain ⟨c0, c1, c2, c3, c4⟩ := h
  exact ⟨(World.cell?_setCell_other _ _ _ _ (by intro e; injection e; omega)).trans c0, (World.cell?_setCell_other _ _ _ _ (by intro e; injection e; omega)).trans c1, World.cell?_setCell_same _ _ _ c2, (World.cell?_setCell_other _ _ _ _ (by intro e; injection e; omega)).trans c3, (World.cell?_setCell_other _ _ _ _ (by intro e; injection e; omega)).trans c4⟩

/-- A net was drawn into new memory. -/
def AnyGives (w : World) (R lo : Nat) (A : Option Addr) (n c f : Nat) (e : Ending) (w' : World) : Prop :=
  ∃ (m : Int) (B : Option Addr) (k cap : Nat) (xs : List ArcD), e = .returned (.agg #[.int .i64 m, .slice B k cap]) ∧ xs.length = k ∧ k ≤ 13 ∧ ArcsAt w' B xs ∧ OwnAt w' w.heap.size B 57 5 k ∧ RdF w' R lo A n c f ∧ w.grownBy w' (some R)

/-- What is known of a net that is drawn and may be bent: NB its block, the result's block lies ready. -/
structure BentAt (w X : World) (R lo : Nat) (A : Option Addr) (n c f NB : Nat) (m : Int) (B : Option Addr) (k cap : Nat) (xs : List ArcD) : Prop where
  nodes : X.cell? ⟨NB, 0, none⟩ = some (.int .i64 m)
  slice : X.cell? ⟨NB, 1, none⟩ = some (.slice B k cap)
  row : RowN X NB 25 2
  out : RowN X w.heap.size 25 2
  len : xs.length = k
  arcs : ArcsAt X B xs
  own : OwnAt X (w.heap.size + 1) B 57 5 k
  rd : RdF X R lo A n c f
  gr : w.grownBy X (some R)
  far : blk B ≠ some NB
  ltN : w.heap.size < NB
  ltR : R < w.heap.size

theorem BentAt.step {w X Y : World} {R lo n c f f' NB k cap : Nat} {A B : Option Addr} {m : Int} {xs : List ArcD} (h : BentAt w X R lo A n c f NB m B k cap xs) (hg : X.grownBy Y (some R)) (hr : RdF Y R lo A n c f') : BentAt w Y R lo A n c f' NB m B k cap xs := by
  have h1 := h.ltN
  have h2 := h.ltR
  exact ⟨cell_far hg h.nodes (by simp only [ne_eq]; omega), cell_far hg h.slice (by simp only [ne_eq]; omega), h.row.young hg (by omega), h.out.young hg (by omega), h.len, h.arcs.grown hg (fun b e => by injection e with e; have := h.own.ne_blk (g := R) (by omega); rw [← e]; exact this), h.own.keep hg (fun b e => by injection e with e; exact .inl (by omega)), hr, grown_trans h.gr hg, h.far, h.ltN, h.ltR⟩
theorem BentAt.done {w X : World} {R lo n c f NB k cap : Nat} {A B : Option Addr} {m : Int} {xs : List ArcD} (h : BentAt w X R lo A n c f NB m B k cap xs) (hk : k ≤ 13) :
    AnyGives w R lo A n c f (.returned (.agg #[.int .i64 m, .slice B k cap])) ((X.setCell ⟨w.heap.size, 0, none⟩ (.int .i64 m)).setCell ⟨w.heap.size, 1, none⟩ (.slice B k cap)) := by
  have hne := h.own.ne_blk (g := w.heap.size) (by omega)
  have h2 := h.ltR
  have hlo : lo ≤ R := by obtain ⟨p, _, hh⟩ := h.rd; exact hh.lt
  exact ⟨m, B, k, cap, xs, rfl, h.len, hk, (h.arcs.far _ _ hne).far _ _ hne, ((h.own.lower (by omega)).far _ _).far _ _, (h.rd.far (grown_set (grown_refl _ _) _ _) (by omega) (by omega)).far (grown_set (grown_refl _ _) _ _) (by omega) (by omega), grown_far (grown_far h.gr (by simp) _) (by simp) _⟩

theorem keep2 {X : World} {g NB q : Nat} {u a b : Value} (hne : g ≠ NB) (h1 : X.cell? ⟨NB, 1, none⟩ = some a) (h2 : X.cell? ⟨g, q, none⟩ = some b) :
    (X.setCell ⟨g, q + 1, none⟩ u).cell? ⟨NB, 1, none⟩ = some a ∧ (X.setCell ⟨g, q + 1, none⟩ u).cell? ⟨g, q, none⟩ = some b :=
  ⟨(World.cell?_setCell_other _ _ _ _ (by intro e; injection e; omega)).trans h1, (World.cell?_setCell_other _ _ _ _ (by simp)).trans h2⟩

theorem ArcsAt.at0 {X : World} {g j : Nat} {xs : List ArcD} {a : ArcD} (h : ArcsAt X (some ⟨g, 0, none⟩) xs) (ha : xs[j]? = some a) : Arc5 X g (j * 5) a := by
  obtain ⟨g', o', e, h5⟩ := h j _ ha
  injection e with e
  injection e with e1 e2
  subst e1 e2
  rw [Nat.zero_add] at h5
  exact h5

theorem BentAt.turn {w X : World} {R lo n c f NB k cap g j i : Nat} {A : Option Addr} {m z : Int} {xs : List ArcD} {a b : ArcD} (h : BentAt w X R lo A n c f NB m (some ⟨g, 0, none⟩) k cap xs) (hgl : w.heap.size + 1 ≤ g) (ha : xs[j]? = some a) (hi : i < 5)
    (hb : Arc5 (X.setCell ⟨g, j * 5 + i, none⟩ (.int .i64 z)) g (j * 5) b) : BentAt w (X.setCell ⟨g, j * 5 + i, none⟩ (.int .i64 z)) R lo A n c f NB m (some ⟨g, 0, none⟩) k cap (xs.set j b) := by
  have h1 := h.ltN
  have h2 := h.ltR
  have hlo : lo ≤ R := by obtain ⟨p, _, hh⟩ := h.rd; exact hh.lt
  have hgN : g ≠ NB := fun e => h.far (by simp [blk, e])
  have hg : X.grownBy (X.setCell ⟨g, j * 5 + i, none⟩ (.int .i64 z)) (some g) := grown_set (grown_refl _ _) _ _
  exact ⟨cell_far hg h.nodes (Ne.symm hgN), cell_far hg h.slice (Ne.symm hgN), h.row.set _ _, h.out.set _ _, by rw [List.length_set]; exact h.len, h.arcs.turn ha hi hb, h.own.far _ _, h.rd.far hg (by omega) (by omega), grown_far h.gr (by simp only; omega) _, h.far, h.ltN, h.ltR⟩
theorem BentAt.node {w X : World} {R lo n c f NB k cap : Nat} {A B : Option Addr} {m z : Int} {xs : List ArcD} (h : BentAt w X R lo A n c f NB m B k cap xs) : BentAt w (X.setCell ⟨NB, 0, none⟩ (.int .i64 z)) R lo A n c f NB z B k cap xs := by
  have h1 := h.ltN
  have h2 := h.ltR
  have hlo : lo ≤ R := by obtain ⟨p, _, hh⟩ := h.rd; exact hh.lt
  exact ⟨World.cell?_setCell_same _ _ _ h.nodes, (World.cell?_setCell_other _ _ _ _ (by simp)).trans h.slice, h.row.set _ _, h.out.set _ _, h.len, h.arcs.far _ _ h.far, h.own.far _ _, h.rd.far (grown_set (grown_refl _ _) _ _) (by omega) (by omega), grown_far h.gr (by simp only; omega) _, h.far, h.ltN, h.ltR⟩

set_option maxRecDepth 100000 in
set_option maxHeartbeats 4000000 in
theorem l30AnyNet_any (R lo : Nat) (A : Option Addr) (n c f : Nat) (w : World) (h : RdF w R lo A n c (f + 83)) :
    Calls Try.prog 23 #[.pointer (some ⟨R, 0, none⟩)] w (AnyGives w R lo A n c f) := by
  have hRw := h.at_
  have hloR : lo ≤ R := by obtain ⟨p, _, hh⟩ := h; exact hh.lt
  go_enter Try.func23, Try.ntmps23
  go_wp2_with fail
  refine (l30Net_any R lo A n c (f + 3) _ (h.alloc _)).mono ?_
  rintro e w1 ⟨m, B, k, cap, xs, rfl, hxk, hk13, hm2, hm6, hxB, hoB, hr1, hg1⟩
  have hs1 : w.heap.size + 1 ≤ w1.heap.size := by have := hg1.size; simpa using this
  have hBent : BentAt w (w1.alloc (.cells #[.int .i64 m, .slice B k cap] 25)) R lo A n c (f + 3) w1.heap.size m B k cap xs := by
    have hp : Past w1 (w1.alloc (.cells #[.int .i64 m, .slice B k cap] 25)) := (Past.refl w1).alloc _
    have r0 : RowN w1 w.heap.size 25 2 := RowN.young ⟨_, heap_alloc_new w _, rfl⟩ hg1 (by omega)
    refine ⟨by go_simp, by go_simp, ⟨_, heap_alloc_new w1 _, rfl⟩, r0.keep (hp.block _ r0.lt), hxk, hxB.below hp, ?_, hr1.below hp, grown_trans (grown_trans (World.grownBy_alloc w _ _) hg1) (grown_of_below hp _), hoB.ne_new, by omega, hRw⟩
    have := hoB.keep (grown_of_below hp none) (fun b e => by cases e)
    simpa using this
  clear hxB hoB hr1 hg1 h
  obtain ⟨W, hW⟩ : ∃ W, W = w1.alloc (.cells #[.int .i64 m, .slice B k cap] 25) := ⟨_, rfl⟩
  rw [← hW] at hBent
  go_upto_region 2 with (fail)
  rw [← hW]
  clear hW
  have o0 := hBent.nodes
  have o1 := hBent.slice
  by_cases hk0 : k = 0
  · have hk0' : ¬ (0 : Int) < (k : Int) := by omega
    clear hk0
    obtain ⟨q0, c0⟩ := hBent.out.cell (i := 0) (by omega)
    obtain ⟨q1, c1⟩ := hBent.out.cell (i := 1) (by omega)
    have z0 := hBent.out.frozen 0
    have z1 := hBent.out.frozen 1
    have HB := Lib.hid (BentAt.done (hBent.step (grown_refl _ _) (hBent.rd.less (f' := f) (by omega))) hk13)
    go_wp2
    exact bodyPost_ret (v := .agg #[.int .i64 m, .slice B k cap]) (by simp [results, Try.results23, go_sem, c0, c1]) rfl HB.out
  have hk0' : (0 : Int) < (k : Int) := by omega
  go_wp2_with fail
  refine (pickF (f := f + 2) _ hBent.rd).mono ?_
  rintro e w3 ⟨k4, rfl, k40, k41, hr3, hg3⟩
  obtain ⟨j4, rfl⟩ : ∃ j : Nat, k4 = j := ⟨k4.toNat, by omega⟩
  have hj4 : j4 < k := by omega
  have hB3 := hBent.step hg3 hr3
  clear hBent hr3 hg3 o0 o1
  go_wp2_with fail
  refine (pickF (f := f + 1) _ hB3.rd).mono ?_
  rintro e w4 ⟨k5, rfl, k50, k51, hr4, hg4⟩
  have hB4 := hB3.step hg4 hr4
  clear hB3 hr4 hg4
  have o0 := hB4.nodes
  have o1 := hB4.slice
  obtain ⟨⟨fa, ta, ca, la, da⟩, ha⟩ : ∃ a, xs[j4]? = some a := ⟨_, List.getElem?_eq_getElem (by omega)⟩
  obtain ⟨g, sz, rfl, hgl, hrg, hsz⟩ : ∃ g sz, B = some ⟨g, 0, none⟩ ∧ w.heap.size + 1 ≤ g ∧ RowN w4 g 57 sz ∧ k * 5 ≤ sz := by
    rcases hB4.own with ⟨_, h0⟩ | h
    · omega
    · exact h
  have hgR : g ≠ R := by omega
  have hgN : g ≠ w1.heap.size := fun e => hB4.far (by simp [blk, e])
  have hNR : w1.heap.size ≠ R := by have := hB4.ltN; omega
  have hinv : Inv w4 R lo A n c w1.heap.size (.int .i64 m) (f + 1) w4 [] [] := Inv.start hB4.rd o0 hNR
  have ha5 := hB4.arcs.at0 ha
  have e0 : w4.cell? ⟨g, j4 * 5, none⟩ = some (.int .i64 fa) := ha5.1
  have i0 : (0 : Int) ≤ (j4 : Int) := by omega
  have i1 : (j4 : Int) < (k : Int) := by omega
  by_cases h0 : k5 = 0
  · subst h0
    go_upto_region 6 with (fail)
    have hq1 : ∀ (u : World) (x : Value), (u.setCell ⟨g, j4 * 5 + 1, none⟩ x).cell? ⟨g, j4 * 5, none⟩ = u.cell? ⟨g, j4 * 5, none⟩ := fun u x => World.cell?_setCell_other _ _ _ _ (by simp)
    have hq2 : ∀ (u : World) (x : Value), (u.setCell ⟨g, j4 * 5 + 1, none⟩ x).cell? ⟨w1.heap.size, 1, none⟩ = u.cell? ⟨w1.heap.size, 1, none⟩ := fun u x => World.cell?_setCell_other _ _ _ _ (by intro e; injection e; omega)
    go_region_held3 (fun w' => w'.cell? ⟨w1.heap.size, 1, none⟩ = some (.slice (some ⟨g, 0, none⟩) k cap) ∧ w'.cell? ⟨g, j4 * 5, none⟩ = some (.int .i64 fa))
      (first
        | go_keep
        | (simp only [hq1, hq2]; assumption)
        | (simp only [hq1, hq2]; exact ⟨o1, e0⟩)
        | (rw [hq1, hq2]; exact ⟨o1, e0⟩)
        | (simp only [hq1, hq2, o1, e0, and_self]))
      (first
        | (go_at_call 47; (first | with_reducible refine (oneI3 (hinv.drew.allocI3 _ _ _) List.mem_cons_self).mono ?_ | with_reducible refine (oneI3 (hinv.allocI3 _ _ _).drew List.mem_cons_self).mono ?_ | with_reducible refine (oneI3 (hinv.allocI3 _ _ _) List.mem_cons_self).mono ?_); rintro e w5 ⟨z, rfl, hz, hinv5⟩; have hB5 := hB4.step hinv5.gr hinv5.rd; have o1 := hB5.slice; have h55 := hB5.arcs.at0 ha; have e0 : w5.cell? ⟨g, j4 * 5, none⟩ = some (.int .i64 fa) := h55.1; have e1 : w5.cell? ⟨g, j4 * 5 + 1, none⟩ = some (.int .i64 ta) := h55.2.1; have zz := (hrg.young hinv5.gr hgR).frozen (j4 * 5 + 1)))
    go_upto_region 11 with (fail)
    have hB6 := hB5.turn hgl ha (i := 1) (by omega) (h55.to z)
    clear hB5 hinv5 hB4 hinv o1 e0 e1 zz
    obtain ⟨X, hX⟩ : ∃ X, X = w5.setCell ⟨g, j4 * 5 + 1, none⟩ (.int .i64 z) := ⟨_, rfl⟩
    rw [← hX] at hB6 ⊢
    clear hX
    have o0 := hB6.nodes
    have o1 := hB6.slice
    obtain ⟨q0, y0⟩ := hB6.out.cell (i := 0) (by omega)
    obtain ⟨q1, y1⟩ := hB6.out.cell (i := 1) (by omega)
    have z0 := hB6.out.frozen 0
    have z1 := hB6.out.frozen 1
    have HB := Lib.hid (BentAt.done hB6 hk13)
    clear hB6
    go_wp2
    exact bodyPost_ret (v := .agg #[.int .i64 m, .slice (some ⟨g, 0, none⟩) k cap]) (by simp [results, Try.results23, go_sem, y0, y1]) rfl HB.out
  by_cases h1 : k5 = 1
  · subst h1
    go_upto_region 8 with (fail)
    go_region_held3 (fun w' => w'.cell? ⟨w1.heap.size, 1, none⟩ = some (.slice (some ⟨g, 0, none⟩) k cap))
      (first
        | go_keep
        | exact (World.cell?_setCell_other _ _ _ _ (by intro e; injection e; omega)).trans o1)
      (first
        | (go_at_call 47; (first | with_reducible refine (oneI2 (hinv.drew.allocI2 _ _) List.mem_cons_self).mono ?_ | with_reducible refine (oneI2 (hinv.allocI2 _ _).drew List.mem_cons_self).mono ?_ | with_reducible refine (oneI2 (hinv.allocI2 _ _) List.mem_cons_self).mono ?_); rintro e w5 ⟨z, rfl, hz, hinv5⟩; have hB5 := hB4.step hinv5.gr hinv5.rd; have o1 := hB5.slice; have h55 := hB5.arcs.at0 ha; have e1 : w5.cell? ⟨g, j4 * 5 + 2, none⟩ = some (.int .i64 ca) := h55.2.2.1; have zz := (hrg.young hinv5.gr hgR).frozen (j4 * 5 + 2)))
    go_upto_region 11 with (fail)
    have hB6 := hB5.turn hgl ha (i := 2) (by omega) (h55.cost z)
    clear hB5 hinv5 hB4 hinv o1 e1 zz
    obtain ⟨X, hX⟩ : ∃ X, X = w5.setCell ⟨g, j4 * 5 + 2, none⟩ (.int .i64 z) := ⟨_, rfl⟩
    rw [← hX] at hB6 ⊢
    clear hX
    have o0 := hB6.nodes
    have o1 := hB6.slice
    obtain ⟨q0, y0⟩ := hB6.out.cell (i := 0) (by omega)
    obtain ⟨q1, y1⟩ := hB6.out.cell (i := 1) (by omega)
    have z0 := hB6.out.frozen 0
    have z1 := hB6.out.frozen 1
    have HB := Lib.hid (BentAt.done hB6 hk13)
    clear hB6
    go_wp2
    exact bodyPost_ret (v := .agg #[.int .i64 m, .slice (some ⟨g, 0, none⟩) k cap]) (by simp [results, Try.results23, go_sem, y0, y1]) rfl HB.out
  by_cases h2 : k5 = 2
  · subst h2
    go_wp2_with fail
    refine (oneI4 (hinv.allocI4 _ _ _ _) List.mem_cons_self).mono ?_
    rintro e w5 ⟨z, rfl, hz, hinv5⟩
    have hB5 := hB4.step hinv5.gr hinv5.rd
    have o0 := hB5.nodes
    have zz := hB5.row.frozen 0
    go_upto_region 11 with (fail)
    have hB6 := hB5.node (z := z)
    clear hB5 hinv5 hB4 hinv o0 zz
    obtain ⟨X, hX⟩ : ∃ X, X = w5.setCell ⟨w1.heap.size, 0, none⟩ (.int .i64 z) := ⟨_, rfl⟩
    rw [← hX] at hB6 ⊢
    clear hX
    have o0 := hB6.nodes
    have o1 := hB6.slice
    obtain ⟨q0, y0⟩ := hB6.out.cell (i := 0) (by omega)
    obtain ⟨q1, y1⟩ := hB6.out.cell (i := 1) (by omega)
    have z0 := hB6.out.frozen 0
    have z1 := hB6.out.frozen 1
    have HB := Lib.hid (BentAt.done hB6 hk13)
    clear hB6
    go_wp2
    exact bodyPost_ret (v := .agg #[.int .i64 z, .slice (some ⟨g, 0, none⟩) k cap]) (by simp [results, Try.results23, go_sem, y0, y1]) rfl HB.out
  have b0 : (k5 == 0) = false := by simpa using h0
  have b1 : (k5 == 1) = false := by simpa using h1
  have b2 : (k5 == 2) = false := by simpa using h2
  obtain ⟨q0, y0⟩ := hB4.out.cell (i := 0) (by omega)
  obtain ⟨q1, y1⟩ := hB4.out.cell (i := 1) (by omega)
  have z0 := hB4.out.frozen 0
  have z1 := hB4.out.frozen 1
  have HB := Lib.hid (BentAt.done (hB4.step (grown_refl _ _) (hB4.rd.less (f' := f) (by omega))) hk13)
  clear hB4 hinv
  go_wp2
  exact bodyPost_ret (v := .agg #[.int .i64 m, .slice (some ⟨g, 0, none⟩) k cap]) (by simp [results, Try.results23, go_sem, y0, y1]) rfl HB.out

end Go.Proofs.Ytifbigfkakappaa
