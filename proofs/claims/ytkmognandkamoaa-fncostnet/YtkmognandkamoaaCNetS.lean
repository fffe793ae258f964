/-
  A net with other costs: spec.l1Copy, spec.l9Net, spec.CostNet. No condition.
-/
import Derived.Test.YtkmognandkamoaaPCnet
import Derived.Test.YtkmognandkamoaaCMet
import Derived.Lib.AppendZeros
namespace Go.Proofs.Ytkmognandkamoaa
open Go.RowKit

/-- At a step of a region that draws its order: an append whose run is known. -/
theorem step_append_run {P : Program} {ops : Array Oper} {o : Oper} {a : Act} {w : World} {K : Act → World → Prop} {Q : Exit → Act → World → Prop} {E : Prop} (hgd : o.guard = none) (s x : Operand) (t tn : TypeId)
    (ho : o.op = .call { callee := .builtin .append, args := #[s, x], argTypes := #[t, tn] }) (vs vx : Value) (hs : a.eval s = vs) (hx : a.eval x = vx)
    (v' : Value) (w' : World) (hr : (Builtin.append_ #[t, tn] o.type #[vs, vx]).run P w = .ok v' w') (h : K (a.put o.dst v') w') :
    if Region.wanted o (yielded ops a.tmps) = true then Oper.wp P o a w K Q else E := by
  have hw : Region.wanted o (yielded ops a.tmps) = true := by simp [Region.wanted, hgd]
  rw [if_pos hw]
  exact Lib.wp_append_run w s x t tn ho vs vx hs hx v' w' hr h

theorem news_arcs {w : World} {g o : Nat} {xs : List ArcD} (hx : ArcsAt w (some ⟨g, o, none⟩) xs) : ∀ j u, (cellsOf xs)[j]? = some u → w.cell? ((⟨g, o, none⟩ : Addr).add j) = some u := fun j u hu => by
  rw [Addr.add_lit]
  refine cells_of_arcs xs o (fun k a hk => ?_) j u hu
  obtain ⟨g', o', e, h5⟩ := hx k a hk
  injection e with e
  injection e with e1 e2
  subst e1 e2
  exact h5

set_option maxRecDepth 100000 in
set_option maxHeartbeats 2000000 in
theorem l1Copy_some (m : Int) (g o n c : Nat) (xs : List ArcD) (w : World) (hn : n ≤ 1048576) (h0 : 0 < n) (hnx : xs.length = n) (hx : ArcsAt w (some ⟨g, o, none⟩) xs) :
    Calls Try.prog 86 #[.agg #[.int .i64 m, .slice (some ⟨g, o, none⟩) n c]] w (GivesNet w m xs) := by
  have HX := Lib.hid hnx
  clear hnx
  obtain ⟨i0, hi, hz0, hz1, hz2⟩ := info_parts infoArc
  obtain ⟨V, hV⟩ : ∃ V, V = (w.alloc (.cells #[.int .i64 m, .slice (some ⟨g, o, none⟩) n c] 29)).alloc (.cells #[.int .i64 0, .slice none 0 0] 29) := ⟨_, rfl⟩
  have hpV : Past w V := by rw [hV]; exact ((Past.refl _).alloc _).alloc _
  have hsV : w.heap.size + 1 < V.heap.size := by rw [hV]; simp
  have b0 : V.cell? ⟨w.heap.size, 0, none⟩ = some (.int .i64 m) := by rw [hV]; go_simp
  have b1 : V.cell? ⟨w.heap.size, 1, none⟩ = some (.slice (some ⟨g, o, none⟩) n c) := by rw [hV]; go_simp
  have r1 : RowN V (w.heap.size + 1) 29 2 := by
    rw [hV]
    have := heap_alloc_new (w.alloc (.cells #[.int .i64 m, .slice (some ⟨g, o, none⟩) n c] 29)) (.cells #[.int .i64 0, .slice none 0 0] 29)
    exact ⟨_, by simpa using this, rfl⟩
  have hxV := hx.below hpV
  have HV := Lib.hid hV
  have hpA : Past V (V.alloc (.cells #[] 52)) := (Past.refl V).alloc _
  have hvA : (V.alloc (.cells #[] 52)).ownsRow V.heap.size 52 5 (.slice (some ⟨V.heap.size, 0, none⟩) 0 0) 0 [] := World.ownsRow_made V _ 0 (Nat.le_refl _) (by unfold maxLen; omega) rfl
  have hnw := news_arcs (hxV.below hpA)
  have HVA := Lib.hid hvA
  have HNW := Lib.hid hnw
  have HK0 : Hid (∀ w3, (V.alloc (.cells #[] 52)).drew.grownBy w3 (Value.slice (some ⟨V.heap.size, 0, none⟩) 0 0).ownBlock → w3.cell? ⟨w.heap.size, 0, none⟩ = some (.int .i64 m)) := fun w3 hg => hg.cell (cell_in (Past.drew hpA) b0) (by simp [Value.ownBlock]; omega)
  have HK1 : Hid (∀ w3, (V.alloc (.cells #[] 52)).drew.grownBy w3 (Value.slice (some ⟨V.heap.size, 0, none⟩) 0 0).ownBlock → w3.cell? ⟨w.heap.size, 1, none⟩ = some (.slice (some ⟨g, o, none⟩) n c)) := fun w3 hg => hg.cell (cell_in (Past.drew hpA) b1) (by simp [Value.ownBlock]; omega)
  have HR : Hid (∀ w3, (V.alloc (.cells #[] 52)).drew.grownBy w3 (Value.slice (some ⟨V.heap.size, 0, none⟩) 0 0).ownBlock → RowN w3 (w.heap.size + 1) 29 2) := fun w3 hg => (RowN.keep (w' := (V.alloc (.cells #[] 52)).drew) r1 ((Past.drew hpA).block _ r1.lt)).keep (hg.block _ (Nat.lt_of_lt_of_le r1.lt (Past.drew hpA).size) (by simp [Value.ownBlock]; omega))
  have hq0 : ∀ (u : World) (j : Nat) (x : Value), (u.setCell ⟨w.heap.size + 1, j, none⟩ x).cell? ⟨w.heap.size, 0, none⟩ = u.cell? ⟨w.heap.size, 0, none⟩ := fun u j x => World.cell?_setCell_other _ _ _ _ (by intro e; injection e; omega)
  have hq1 : ∀ (u : World) (j : Nat) (x : Value), (u.setCell ⟨w.heap.size + 1, j, none⟩ x).cell? ⟨w.heap.size, 1, none⟩ = u.cell? ⟨w.heap.size, 1, none⟩ := fun u j x => World.cell?_setCell_other _ _ _ _ (by intro e; injection e; omega)
  have nv0 := World.new_ne V _ b0
  have nv1 := World.new_ne V _ b1
  clear hV hvA hnw hpA
  go_enter Try.func86, Try.ntmps86
  go_wp2_with fail
  rw [← HV.out]
  clear HV
  go_region_held3 (fun w' => w'.cell? ⟨w.heap.size, 0, none⟩ = some (.int .i64 m) ∧ w'.cell? ⟨w.heap.size, 1, none⟩ = some (.slice (some ⟨g, o, none⟩) n c))
    (first
      | go_keep
      | (simp only [hq0, hq1]; assumption)
      | (go_split_ands
         refine ⟨?_, ?_⟩
         · exact HK0.out _ hgrow
         · exact HK1.out _ hgrow))
    ((refine step_append_lies _ (by rfl) _ _ _ (by rfl) V.heap.size 52 i0 _ 5 40 Try.underlying27 hi hz0 hz1 hz2 rfl (by omega) (.slice (some ⟨V.heap.size, 0, none⟩) 0 0) 0 [] (by rfl) (HVA.out.drew) ⟨g, o, none⟩ n c (cellsOf xs) (by rfl) (by rw [cellsOf_length, HX.out]) HNW.out (cellsOf_one xs) (by omega) (by unfold maxLen; omega) (by omega) (by simp) (V.heap.size + 1) (by simp) ?_; intro gg cap w3 hown1 hgrow hat hlt'; have r3 := HR.out _ hgrow; obtain ⟨y0, e0⟩ := r3.cell (i := 0) (by omega); obtain ⟨y1, e1⟩ := r3.cell (i := 1) (by omega); have z0 := r3.frozen 0; have z1 := r3.frozen 1))
  have hp3 : Past w w3 := Past.grown ((hpV.alloc (.cells #[] 52)).drew) (HVA.out.drew) hgrow (by omega)
  have hres : ResA w3 V.heap.size (.slice (some ⟨gg, 0, none⟩) n cap) xs := by unfold ResA; rw [HX.out]; simpa using hown1
  obtain ⟨A3, c3, e3, hx3, ho3⟩ := hres.formN HX.out
  injection e3 with e4 e5 e6
  subst e4 e6
  have hne : blk (some (⟨gg, 0, none⟩ : Addr)) ≠ some (w.heap.size + 1) := ho3.ne_blk (by omega)
  go_wp2
  exact bodyPost_ret (v := .agg #[.int .i64 m, .slice (some ⟨gg, 0, none⟩) n cap]) (by simp [results, Try.results86, go_sem, e0, e1]) rfl
    ⟨_, _, by rw [HX.out], (hx3.far _ _ hne).far _ _ hne, by rw [HX.out]; exact ((ho3.lower (by omega)).far _ _).far _ _, Below.setCell (Below.setCell hp3 (by simp) _) (by simp) _⟩

set_option maxRecDepth 100000 in
set_option maxHeartbeats 2000000 in
theorem l9Net_some (m : Int) (g o n c : Nat) (xs : List ArcD) (B : Option Addr) (cb : Nat) (ys : List Int) (w : World) (hn : n ≤ 1048576) (h0 : 0 < n) (hnx : xs.length = n) (hx : ArcsAt w (some ⟨g, o, none⟩) xs) (hly : ys.length = n) (hy : IntsAt w B ys) :
    Calls Try.prog 52 #[.agg #[.int .i64 m, .slice (some ⟨g, o, none⟩) n c], .slice B n cb] w (GivesNet w m (costed xs ys)) := by
  have HX := Lib.hid hnx
  have HY := Lib.hid hly
  have hll : (costed xs ys).length = n := by rw [costed_len (by rw [hly, hnx]), hnx]
  have HLL := Lib.hid hll
  have hb0 : Past w ((w.alloc (.cells #[.int .i64 m, .slice (some ⟨g, o, none⟩) n c] 29)).alloc (.cells #[.int .i64 0, .slice none 0 0] 29)) := ((Past.refl _).alloc _).alloc _
  have r0 : RowN ((w.alloc (.cells #[.int .i64 m, .slice (some ⟨g, o, none⟩) n c] 29)).alloc (.cells #[.int .i64 0, .slice none 0 0] 29)) (w.heap.size + 1) 29 2 := by
    have := heap_alloc_new (w.alloc (.cells #[.int .i64 m, .slice (some ⟨g, o, none⟩) n c] 29)) (.cells #[.int .i64 0, .slice none 0 0] 29)
    exact ⟨_, by simpa using this, rfl⟩
  have gB : ∀ b, blk B = some b → b < w.heap.size := fun b hbb => by
    obtain ⟨y, hy0⟩ : ∃ a, ys[0]? = some a := ⟨_, List.getElem?_eq_getElem (by omega)⟩
    obtain ⟨g3, o3, rfl, h5⟩ := hy 0 y hy0
    simp [blk] at hbb
    subst hbb
    exact lt_of_cell h5
  clear hnx hly hll
  go_enter Try.func52, Try.ntmps52
  go_wp2_with fail
  refine (l1Copy_some m g o n c xs _ hn h0 HX.out (hx.below hb0)).mono ?_
  rintro e w1 ⟨A2, c2, rfl, hx1, ho1, hb1⟩
  rw [HX.out] at ho1 ⊢
  have r1 := r0.keep (hb1.block _ r0.lt)
  have sw : w.heap.size + 1 < w1.heap.size := r1.lt
  have hp1 := hb0.trans hb1
  have hy1 := hy.below hp1
  obtain ⟨g2, sz, rfl, hg2, hr2, hs2⟩ : ∃ g2 sz, A2 = some ⟨g2, 0, none⟩ ∧ w.heap.size + 1 < g2 ∧ RowN w1 g2 52 sz ∧ n * 5 ≤ sz := by
    rcases ho1 with ⟨_, h⟩ | ⟨g2, sz, h1, h2, h3, h4⟩
    · omega
    · exact ⟨g2, sz, h1, by simp at h2; omega, h3, h4⟩
  have hg2w := hr2.lt
  obtain ⟨W, hW⟩ : ∃ W, W = w1.alloc (.cells #[.int .i64 m, .slice (some ⟨g2, 0, none⟩) n c2] 29) := ⟨_, rfl⟩
  have hpW : Past w1 W := by rw [hW]; exact (Past.refl _).alloc _
  have q0 : W.cell? ⟨w1.heap.size, 0, none⟩ = some (.int .i64 m) := by rw [hW]; go_simp
  have q1 : W.cell? ⟨w1.heap.size, 1, none⟩ = some (.slice (some ⟨g2, 0, none⟩) n c2) := by rw [hW]; go_simp
  have hxW := hx1.below hpW
  have hyW := hy1.below hpW
  have rW := r1.keep (hpW.block _ r1.lt)
  have hrW := hr2.keep (hpW.block _ hr2.lt)
  have hp2 := hp1.trans hpW
  have HW := Lib.hid hW
  have hpg : w1.heap.size ≠ g2 := by omega
  have hturn : Costed W g2 sz xs ys 0 := ⟨hrW, fun j a c hj => absurd hj (by omega), fun j a _ ha => by
    obtain ⟨g3, o3, e, h5⟩ := hxW j a ha
    injection e with e
    injection e with e1 e2
    subst e1 e2
    simpa using h5⟩
  clear hW hx hy hx1 hy1 ho1 hb1 hr2 hxW r0 r1 hb0 hp1
  go_wp2
  rw [← HW.out]
  clear HW
  go_loopw [6] (fun q wr => ∃ k : Nat, k ≤ n ∧ q = .int .i64 k ∧ Costed wr g2 sz xs ys k ∧ W.grownBy wr (some g2)) (fun q _ => n - (intOf q).toNat)
  case atStart => exact ⟨0, by omega, rfl, hturn, grown_refl _ _⟩
  case round =>
    obtain ⟨k, hk, rfl, ht, hg⟩ := hrel
    have q0 := cell_far hg q0 hpg
    have q1 := cell_far hg q1 hpg
    by_cases hlt : k < n
    · obtain ⟨a, ha⟩ : ∃ a, xs[k]? = some a := ⟨_, List.getElem?_eq_getElem (by have := HX.out; omega)⟩
      obtain ⟨y, hyk⟩ : ∃ a, ys[k]? = some a := ⟨_, List.getElem?_eq_getElem (by have := HY.out; omega)⟩
      obtain ⟨g3, o3, rfl, c0⟩ := (hyW.grown hg (fun b hb e => by injection hb with hb; have := gB b e; omega)) k _ hyk
      have hg3 : g3 ≠ g2 := by have := gB g3 rfl; omega
      obtain ⟨d0, d1, d2, d3, d4⟩ := ht.2.2 k _ (Nat.le_refl _) ha
      have z2 := ht.1.frozen (k * 5 + 2)
      have HN := Lib.hid (ht.next ha hyk)
      have hq0 : ∀ (u : World) (j : Nat) (x : Value), (u.setCell ⟨g2, j, none⟩ x).cell? ⟨w1.heap.size, 1, none⟩ = u.cell? ⟨w1.heap.size, 1, none⟩ := fun u j x => World.cell?_setCell_other _ _ _ _ (by intro e; injection e; omega)
      have hq1 : ∀ (u : World) (j : Nat) (x : Value), (u.setCell ⟨g2, j, none⟩ x).cell? ⟨g3, o3 + k, none⟩ = u.cell? ⟨g3, o3 + k, none⟩ := fun u j x => World.cell?_setCell_other _ _ _ _ (by intro e; injection e; omega)
      clear ha hyk d0 d1 d3 d4
      have i0 : (0 : Int) ≤ (k : Int) := by omega
      have i1 : (k : Int) < (n : Int) := by omega
      go_wp2_with fail
      go_region_held3 (fun w' => w'.cell? ⟨w1.heap.size, 1, none⟩ = some (.slice (some ⟨g2, 0, none⟩) n c2) ∧ w'.cell? ⟨g3, o3 + k, none⟩ = some (.int .i64 y)) (first | go_keep | (simp only [hq0, hq1]; assumption)) (fail)
      go_wp2
      go_roundw
      case rel => exact ⟨k + 1, by omega, by go_num, HN.out, by have h := grown_set hg (k * 5 + 2) (.int .i64 y); exact ⟨h.os, h.tape, h.output, h.size, h.block⟩⟩
      case measure => simp [intOf]; omega
    · obtain rfl : n = k := by omega
      have r1 := rW.young hg (by omega)
      obtain ⟨x0, e0⟩ := r1.cell (i := 0) (by omega)
      obtain ⟨x1, e1⟩ := r1.cell (i := 1) (by omega)
      have z0 := r1.frozen 0
      have z1 := r1.frozen 1
      have hbf : Past w wr := Below.grown hp2 hg hp2.size (fun b hb => by injection hb with hb; omega)
      go_wp2
      have hne2 : blk (some (⟨g2, 0, none⟩ : Addr)) ≠ some (w.heap.size + 1) := by simp [blk]; omega
      exact bodyPost_ret (v := .agg #[.int .i64 m, .slice (some ⟨g2, 0, none⟩) n c2]) (by simp [results, Try.results52, go_sem, e0, e1]) rfl
        ⟨_, c2, by rw [HLL.out], ((ht.arcs HX.out).far _ _ hne2).far _ _ hne2, .inr ⟨g2, sz, rfl, by omega, (ht.1.set _ _).set _ _, by rw [HLL.out]; exact hs2⟩, Below.setCell (Below.setCell hbf (by simp) _) (by simp) _⟩

set_option maxRecDepth 100000 in
set_option maxHeartbeats 2000000 in
theorem l1Copy_nil (m : Int) (A : Option Addr) (c : Nat) (w : World) :
    Calls Try.prog 86 #[.agg #[.int .i64 m, .slice A 0 c]] w (GivesNet w m []) := by
  obtain ⟨i0, hi, hz0, hz1, hz2⟩ := info_parts infoArc
  obtain ⟨V, hV⟩ : ∃ V, V = (w.alloc (.cells #[.int .i64 m, .slice A 0 c] 29)).alloc (.cells #[.int .i64 0, .slice none 0 0] 29) := ⟨_, rfl⟩
  have hpV : Past w V := by rw [hV]; exact ((Past.refl _).alloc _).alloc _
  have hsV : w.heap.size + 1 < V.heap.size := by rw [hV]; simp
  have b0 : V.cell? ⟨w.heap.size, 0, none⟩ = some (.int .i64 m) := by rw [hV]; go_simp
  have b1 : V.cell? ⟨w.heap.size, 1, none⟩ = some (.slice A 0 c) := by rw [hV]; go_simp
  have e0 : V.cell? ⟨w.heap.size + 1, 0, none⟩ = some (.int .i64 0) := by rw [hV]; go_simp
  have e1 : V.cell? ⟨w.heap.size + 1, 1, none⟩ = some (.slice none 0 0) := by rw [hV]; go_simp
  have z0 : V.frozen? ⟨w.heap.size + 1, 0, none⟩ = false := by rw [hV]; go_simp
  have z1 : V.frozen? ⟨w.heap.size + 1, 1, none⟩ = false := by rw [hV]; go_simp
  have HV := Lib.hid hV
  have nv0 := World.new_ne V _ b0
  have nv1 := World.new_ne V _ b1
  have nv2 := World.new_ne V _ e0
  have nv3 := World.new_ne V _ e1
  clear hV
  have hra : ∀ (u : World) (ty : TypeId), (Builtin.append_ #[27, 27] ty #[.slice (some ⟨V.heap.size, 0, none⟩) 0 0, .slice A 0 c]).run Try.prog u = .ok (.slice (some ⟨V.heap.size, 0, none⟩) 0 0) u := fun u ty => by
    cases A <;> simp [Builtin.append_, run_underlying Try.underlying27, sizeOf, typeInfo, hi, Builtin.lenOf, Builtin.firstCells, storeCells, loadCells, loadCellsFrom]
  have HRA := Lib.hid hra
  clear hra
  go_enter Try.func86, Try.ntmps86
  go_wp2_with fail
  rw [← HV.out]
  clear HV
  have hq0 : ∀ (u : World) (j : Nat) (x : Value), (u.setCell ⟨w.heap.size + 1, j, none⟩ x).cell? ⟨w.heap.size, 0, none⟩ = u.cell? ⟨w.heap.size, 0, none⟩ := fun u j x => World.cell?_setCell_other _ _ _ _ (by intro e; injection e; omega)
  have hq1 : ∀ (u : World) (j : Nat) (x : Value), (u.setCell ⟨w.heap.size + 1, j, none⟩ x).cell? ⟨w.heap.size, 1, none⟩ = u.cell? ⟨w.heap.size, 1, none⟩ := fun u j x => World.cell?_setCell_other _ _ _ _ (by intro e; injection e; omega)
  go_region_held3 (fun w' => w'.cell? ⟨w.heap.size, 0, none⟩ = some (.int .i64 m) ∧ w'.cell? ⟨w.heap.size, 1, none⟩ = some (.slice A 0 c)) (first | go_keep | (simp only [hq0, hq1]; assumption)) ((refine step_append_run (by rfl) _ _ _ _ (by rfl) (.slice (some ⟨V.heap.size, 0, none⟩) 0 0) (.slice A 0 c) (by rfl) (by rfl) _ _ (HRA.out _ _) ?_))
  go_wp2
  exact bodyPost_ret (v := .agg #[.int .i64 m, .slice (some ⟨V.heap.size, 0, none⟩) 0 0]) (by simp [results, Try.results86, go_sem, e0, e1, hsV]) rfl
    ⟨_, _, rfl, fun k a hk => by simp at hk, .inr ⟨V.heap.size, 0, rfl, by omega, ⟨#[], by have := heap_alloc_new ((V.setCell ⟨w.heap.size + 1, 0, none⟩ (.int .i64 m)).setCell ⟨w.heap.size + 1, 1, none⟩ (.slice (some ⟨V.heap.size, 0, none⟩) 0 0)) (.cells #[] 52); have hs : ((V.setCell ⟨w.heap.size + 1, 0, none⟩ (.int .i64 m)).setCell ⟨w.heap.size + 1, 1, none⟩ (.slice (some ⟨V.heap.size, 0, none⟩) 0 0)).heap.size = V.heap.size := (by simp); rw [hs] at this; exact this, rfl⟩, by simp⟩, (Past.alloc (Below.setCell (Below.setCell hpV (p := ⟨w.heap.size + 1, 0, none⟩) (by simp) _) (p := ⟨w.heap.size + 1, 1, none⟩) (by simp) _) _).drew⟩

set_option maxRecDepth 100000 in
set_option maxHeartbeats 2000000 in
theorem l9Net_nil (m : Int) (A : Option Addr) (c : Nat) (B : Option Addr) (cb : Nat) (w : World) :
    Calls Try.prog 52 #[.agg #[.int .i64 m, .slice A 0 c], .slice B 0 cb] w (GivesNet w m []) := by
  have hb0 : Past w ((w.alloc (.cells #[.int .i64 m, .slice A 0 c] 29)).alloc (.cells #[.int .i64 0, .slice none 0 0] 29)) := ((Past.refl _).alloc _).alloc _
  have r0 : RowN ((w.alloc (.cells #[.int .i64 m, .slice A 0 c] 29)).alloc (.cells #[.int .i64 0, .slice none 0 0] 29)) (w.heap.size + 1) 29 2 := by
    have := heap_alloc_new (w.alloc (.cells #[.int .i64 m, .slice A 0 c] 29)) (.cells #[.int .i64 0, .slice none 0 0] 29)
    exact ⟨_, by simpa using this, rfl⟩
  go_enter Try.func52, Try.ntmps52
  go_wp2_with fail
  refine (l1Copy_nil m A c _).mono ?_
  rintro e w1 ⟨A2, c2, rfl, hx1, ho1, hb1⟩
  have r1 := r0.keep (hb1.block _ r0.lt)
  have sw : w.heap.size + 1 < w1.heap.size := r1.lt
  have hp1 := hb0.trans hb1
  have hz : ([] : List ArcD).length = 0 := rfl
  rw [hz] at ho1 ⊢
  have ho2 := ho1.lower (lo' := w.heap.size) (by simp; omega)
  have r2 := r1.keep (Below.heap_alloc w1 (.cells #[.int .i64 m, .slice A2 0 c2] 29) _ r1.lt)
  obtain ⟨x0, e0⟩ := r2.cell (i := 0) (by omega)
  obtain ⟨x1, e1⟩ := r2.cell (i := 1) (by omega)
  have z0 := r2.frozen 0
  have z1 := r2.frozen 1
  have ho3 := OwnAt.keep ho2 (grown_of_below ((Past.refl w1).alloc (.cells #[.int .i64 m, .slice A2 0 c2] 29)) none) (by simp)
  have hp2 := hp1.alloc (.cells #[.int .i64 m, .slice A2 0 c2] 29)
  obtain ⟨W, hW⟩ : ∃ W, W = w1.alloc (.cells #[.int .i64 m, .slice A2 0 c2] 29) := ⟨_, rfl⟩
  have q0 : W.cell? ⟨w1.heap.size, 0, none⟩ = some (.int .i64 m) := by rw [hW]; go_simp
  have q1 : W.cell? ⟨w1.heap.size, 1, none⟩ = some (.slice A2 0 c2) := by rw [hW]; go_simp
  rw [← hW] at e0 e1 z0 z1 ho3 hp2
  have HW := Lib.hid hW
  clear hW r0 r1 r2 hb0 hb1 hp1 ho1 ho2 hx1
  go_wp2
  rw [← HW.out]
  clear HW
  go_loop [6] (fun q => q = .int .i64 0) (fun _ => 0)
  case atStart => rfl
  case round =>
    subst hrel
    go_wp2
    exact bodyPost_ret (v := .agg #[.int .i64 m, .slice A2 0 c2]) (by simp [results, Try.results52, go_sem, e0, e1]) rfl
      ⟨A2, c2, rfl, fun k a hk => by simp at hk, (ho3.far _ _).far _ _, Below.setCell (Below.setCell hp2 (by simp) _) (by simp) _⟩

theorem l9Net_all (m : Int) (A : Option Addr) (n c : Nat) (xs : List ArcD) (B : Option Addr) (cb : Nat) (ys : List Int) (w : World) (hn : n ≤ 1048576) (hnx : xs.length = n) (hx : ArcsAt w A xs) (hly : ys.length = n) (hy : IntsAt w B ys) :
    Calls Try.prog 52 #[.agg #[.int .i64 m, .slice A n c], .slice B n cb] w (GivesNet w m (costed xs ys)) := by
  by_cases h0 : n = 0
  · subst h0
    obtain rfl : xs = [] := List.eq_nil_of_length_eq_zero hnx
    exact l9Net_nil m A c B cb w
  · obtain ⟨a, ha⟩ : ∃ a, xs[0]? = some a := ⟨_, List.getElem?_eq_getElem (by omega)⟩
    obtain ⟨g, o, rfl, _⟩ := hx 0 a ha
    exact l9Net_some m g o n c xs B cb ys w hn (by omega) hnx hx hly hy

set_option maxRecDepth 100000 in
set_option maxHeartbeats 2000000 in
theorem specCostNet_any (m : Int) (A : Option Addr) (n c : Nat) (xs : List ArcD) (B : Option Addr) (l cb : Nat) (ys : List Int) (w : World) (hn : n ≤ 1048576) (hnx : xs.length = n) (hx : ArcsAt w A xs) (hl : l ≤ 1048576) (hly : ys.length = l) (hy : IntsAt w B ys) :
    Calls Try.prog 16 #[.agg #[.int .i64 m, .slice A n c], .slice B l cb] w (GivesNetB w (cnetN m xs ys) (cnetL m xs ys) (metricB m xs ys)) := by
  have HL := Lib.hid hnx
  have HY := Lib.hid hly
  clear hnx hly
  have hb0 : Past w ((w.alloc (.cells #[.int .i64 m, .slice A n c] 29)).alloc (.cells #[.int .i64 0, .slice none 0 0] 29)) := ((Past.refl _).alloc _).alloc _
  have r0 : RowN ((w.alloc (.cells #[.int .i64 m, .slice A n c] 29)).alloc (.cells #[.int .i64 0, .slice none 0 0] 29)) (w.heap.size + 1) 29 2 := by
    have := heap_alloc_new (w.alloc (.cells #[.int .i64 m, .slice A n c] 29)) (.cells #[.int .i64 0, .slice none 0 0] 29)
    exact ⟨_, by simpa using this, rfl⟩
  go_enter Try.func16, Try.ntmps16
  go_wp2_with fail
  refine (l1Ok_any m A n c xs _ hn HL.out (hx.below hb0)).mono ?_
  rintro e w1 ⟨rfl, hb1⟩
  have b0 := cell_in (p := ⟨w.heap.size, 0, none⟩) (v := .int .i64 m) hb1 (by go_simp)
  have b1 := cell_in (p := ⟨w.heap.size, 1, none⟩) (v := .slice A n c) hb1 (by go_simp)
  have r1 := r0.keep (hb1.block _ r0.lt)
  have hp1 := hb0.trans hb1
  have hx1 := hx.below hp1
  have hy1 := hy.below hp1
  clear hx hy hb0 hb1 r0
  cases hN : netB m xs with
  | false =>
    have HB : Hid (metricB m xs ys = false) := by rw [Hid, metricB, hN]; rfl
    obtain ⟨x0, e0⟩ := r1.cell (i := 0) (by omega)
    obtain ⟨x1, e1⟩ := r1.cell (i := 1) (by omega)
    have z0 := r1.frozen 0
    have z1 := r1.frozen 1
    clear hN
    go_wp2
    exact bodyPost_ret (v := .tuple #[.agg #[.int .i64 0, .slice none 0 0], .bool false]) (by simp [results, Try.results16, go_sem, e0, e1]) rfl
      ⟨none, 0, by simp [cnetN, cnetL, HB.out], by simp only [cnetL, HB.out, Bool.false_eq_true, if_false]; exact fun k a hk => by simp at hk, by simp only [cnetL, HB.out, Bool.false_eq_true, if_false]; exact .inl ⟨rfl, rfl⟩, Below.setCell (Below.setCell hp1 (by simp) _) (by simp) _⟩
  | true =>
    have HN := Lib.hid hN
    clear hN
    go_wp2_with fail
    refine (l9Ok_any m A n c B l cb ys _ HY.out hl hy1).mono ?_
    rintro e w2 ⟨rfl, hb2⟩
    have hM : (decide (ys.length = n) && allB ys) = metricB m xs ys := by rw [metricB, HN.out, HL.out, Bool.true_and]
    rw [hM]
    have b0 := cell_in hb2 b0
    have b1 := cell_in hb2 b1
    have r2 := r1.keep (hb2.block _ r1.lt)
    have hp2 := hp1.trans hb2
    have hx2 := hx1.below hb2
    have hy2 := hy1.below hb2
    clear hM hb2 hp1 hx1 hy1 r1
    cases hB : metricB m xs ys with
    | false =>
      have HB := Lib.hid hB
      obtain ⟨x0, e0⟩ := r2.cell (i := 0) (by omega)
      obtain ⟨x1, e1⟩ := r2.cell (i := 1) (by omega)
      have z0 := r2.frozen 0
      have z1 := r2.frozen 1
      clear hB
      go_wp2
      exact bodyPost_ret (v := .tuple #[.agg #[.int .i64 0, .slice none 0 0], .bool false]) (by simp [results, Try.results16, go_sem, e0, e1]) rfl
        ⟨none, 0, by simp [cnetN, cnetL, HB.out], by simp only [cnetL, HB.out, Bool.false_eq_true, if_false]; exact fun k a hk => by simp at hk, by simp only [cnetL, HB.out, Bool.false_eq_true, if_false]; exact .inl ⟨rfl, rfl⟩, Below.setCell (Below.setCell hp2 (by simp) _) (by simp) _⟩
    | true =>
      have hln : ys.length = xs.length := by
        have h := hB
        simp only [metricB, Bool.and_eq_true, decide_eq_true_eq] at h
        exact h.2.1
      obtain rfl : l = n := by rw [← HL.out, ← HY.out]; exact hln
      have hNv : cnetN m xs ys = m := by rw [cnetN, hB, if_pos rfl]
      have hLv : cnetL m xs ys = costed xs ys := by rw [cnetL, hB, if_pos rfl]
      have hll : (costed xs ys).length = l := by rw [costed_len hln, HL.out]
      have HNV := Lib.hid hNv
      have HLV := Lib.hid hLv
      have HLL := Lib.hid hll
      have HB := Lib.hid hB
      clear hB hln hNv hLv hll
      go_wp2_with fail
      refine (l9Net_all m A l c xs B cb ys _ hn HL.out hx2 HY.out hy2).mono ?_
      rintro e w3 ⟨A3, c3, rfl, hx3, ho3, hb3⟩
      rw [HLL.out] at ho3 ⊢
      have r3 := r2.keep (hb3.block _ r2.lt)
      have hs2 := r2.lt
      have hp3 := hp2.trans hb3
      have hne : blk A3 ≠ some (w.heap.size + 1) := ho3.ne_blk hs2
      obtain ⟨x0, e0⟩ := r3.cell (i := 0) (by omega)
      obtain ⟨x1, e1⟩ := r3.cell (i := 1) (by omega)
      have z0 := r3.frozen 0
      have z1 := r3.frozen 1
      have hs := hp2.size
      clear hb3 hp2 hx2 hy2 r2 r3
      go_wp2
      exact bodyPost_ret (v := .tuple #[.agg #[.int .i64 m, .slice A3 l c3], .bool true]) (by simp [results, Try.results16, go_sem, e0, e1]) rfl
        ⟨A3, c3, by rw [HNV.out, HLV.out, HLL.out, HB.out], by rw [HLV.out]; exact (hx3.far _ _ hne).far _ _ hne, by rw [HLV.out, HLL.out]; exact ((ho3.lower hs).far _ _).far _ _, Below.setCell (Below.setCell hp3 (by simp) _) (by simp) _⟩

end Go.Proofs.Ytkmognandkamoaa
