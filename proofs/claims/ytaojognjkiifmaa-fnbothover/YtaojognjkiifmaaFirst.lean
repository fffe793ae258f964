/-
  The arc with which a best way begins, as the program goes: impl.firstArc. No condition.
-/
import Derived.Test.YtaojognjkiifmaaNArcs
import Derived.Test.YtaojognjkiifmaaNLess
import Derived.Test.YtaojognjkiifmaaQRound
import Derived.Test.YtaojognjkiifmaaPTree
namespace Go.Proofs.Ytaojognjkiifmaa
open Go.RowKit Go.Shelf

attribute [local go_sem] Oper.semAt_some

theorem outTo_cut (xs : List ArcD) (node : Int) : ∀ (n : Nat) (p : List Int) (k : Nat), p ++ [(k : Int)] <+: outTo xs node n → p = outTo xs node k
  | 0, p, k, h => by simp [outTo] at h
  | n + 1, p, k, h => by
    unfold outTo at h
    split at h
    · rcases List.prefix_concat_iff.1 h with e | e
      · obtain ⟨e1, e2⟩ := List.append_inj' e rfl
        have : (k : Int) = (n : Int) := by simpa using e2
        have : k = n := by omega
        rw [e1, this]
      · exact outTo_cut xs node n p k e
    · exact outTo_cut xs node n p k h

/-- What is read between two rounds. -/
structure FState (w W : World) (m node : Int) (B : Option Addr) (k cap g M : Nat) (L : List LenD) : Prop where
  past : Past w W
  n1 : W.cell? ⟨w.heap.size, 1, none⟩ = some (.slice B k cap)
  ls : W.cell? ⟨w.heap.size + 1, 0, none⟩ = some (.slice (some ⟨g, 0, none⟩) M M)
  nd : W.cell? ⟨w.heap.size + 1 + 1, 0, none⟩ = some (.int .i64 node)
  res : W.cell? ⟨w.heap.size + 1 + 1 + 1, 0, none⟩ = some (.int .i64 0)
  free : W.frozen? ⟨w.heap.size + 1 + 1 + 1, 0, none⟩ = false
  size : w.heap.size + 6 ≤ W.heap.size

section
variable {w W W' : World} {m node : Int} {B : Option Addr} {k cap g M : Nat} {L : List LenD}
theorem FState.later (h : FState w W m node B k cap g M L) (hp : Past W W') : FState w W' m node B k cap g M L :=
  ⟨h.past.trans hp, cell_in hp h.n1, cell_in hp h.ls, cell_in hp h.nd, cell_in hp h.res, free_in hp h.res h.free, Nat.le_trans h.size hp.size⟩
theorem FState.turn {row : Option Nat} (h : FState w W m node B k cap g M L) (hg : W.grownBy W' row) (hr : ∀ r, row = some r → w.heap.size + 6 ≤ r ∧ ∃ o : Obj, W.heap[r]? = some o ∧ o.isCells = false) : FState w W' m node B k cap g M L := by
  have kc : ∀ {p v}, W.cell? p = some v → W'.cell? p = some v := fun hc => cell_kept hc hg (fun r e => (hr r e).2)
  refine ⟨?_, kc h.n1, kc h.ls, kc h.nd, kc h.res, (frozen_kept h.res hg (fun r e => (hr r e).2)).trans h.free, Nat.le_trans h.size hg.size⟩
  exact Below.grown h.past hg h.past.size (fun r e => by have := (hr r e).1; omega)
end

/-- None of these arcs begins a best way. -/
def NoneIn (xs : List ArcD) (L : List LenD) (node : Int) (pre : List Int) : Prop := ∀ i ∈ pre, ∀ a, xs[i.toNat]? = some a → goB L node a = false

theorem noneIn_snoc {xs : List ArcD} {L : List LenD} {node : Int} {pre : List (Hit xs node)} {j : Nat} {a : ArcD} {h : HitP xs node (j : Int)} (hN : NoneIn xs L node (nums pre)) (ha : xs[j]? = some a) (hg : goB L node a = false) : NoneIn xs L node (nums (pre ++ [⟨(j : Int), h⟩])) := fun i hi b hb => by
  rw [nums_snoc] at hi
  rcases List.mem_append.1 hi with hi | hi
  · exact hN i hi b hb
  · simp at hi
    subst hi
    rw [Int.toNat_natCast, ha] at hb
    injection hb with hb
    rw [← hb]
    exact hg
theorem tree_none {xs : List ArcD} {L : List LenD} {node : Int} {n : Nat} (hn : xs.length = n) (h : NoneIn xs L node (outTo xs node n)) : treeI xs L node = -1 := by
  refine firstI_none fun i a hi ha => ?_
  by_cases hf : a.f = node
  · exact h (i : Int) (outTo_all xs node n i a (by omega) ha hf) a (by simpa using ha)
  · simp [goB, hf]
theorem tree_here {xs : List ArcD} {L : List LenD} {node : Int} {n j : Nat} {a : ArcD} {p : List Int} (hp : p ++ [(j : Int)] <+: outTo xs node n) (h : NoneIn xs L node p) (ha : xs[j]? = some a) (hg : goB L node a = true) : treeI xs L node = j := by
  have e := outTo_cut xs node n p j hp
  refine firstI_here (fun i b hi hb => ?_) ha hg
  by_cases hf : b.f = node
  · exact h (i : Int) (by rw [e]; exact outTo_all xs node j i b hi hb hf) b (by simpa using hb)
  · simp [goB, hf]

set_option maxRecDepth 1000000 in
set_option maxHeartbeats 4000000 in
theorem firstArc_in (M nd : Nat) (B : Option Addr) (k cap : Nat) (xs : List ArcD) (g : Nat) (L : List LenD) (w : World) (hkk : k ≤ 16) (hxk : xs.length = k) (hx : ArcsAt w B xs) (hin : ArcsIn M xs) (hnM : nd < M) (hl : L.length = M)
    (hrow : ∀ j a, L[j]? = some a → w.cell? ⟨g, j * 2, none⟩ = some (.int .i64 a.x0) ∧ w.cell? ⟨g, j * 2 + 1, none⟩ = some (.int .i64 a.x1)) (hbd : ∀ v : Int, 0 ≤ v → v < M → 0 ≤ (lab L v).x0 ∧ (lab L v).x0 ≤ 99999 ∧ 0 ≤ (lab L v).x1 ∧ (lab L v).x1 ≤ 7) :
    CallsIn Fence.wide 4 Try.prog 114 #[.agg #[.int .i64 (M : Int), .slice B k cap], .slice (some ⟨g, 0, none⟩) M M, .int .i64 (nd : Int)] w (fun e w' => e = .returned (.int .i64 (treeI xs L (nd : Int))) ∧ Below w.heap.size w w') := by
  have HROW := Lib.hid hrow
  have HBD := Lib.hid hbd
  have HX := Lib.hid hx
  clear hrow hbd hx
  refine callsIn_of_wp_marks Try.func114 rfl trivial ?_ rfl
  simp only [Try.ntmps114, List.size_toArray, List.length_cons, List.length_nil, Nat.reduceAdd, Nat.reduceSub, Array.replicate_succ, Array.replicate_zero, List.push_toArray, List.append_toArray, List.nil_append, List.cons_append]
  gi_wp2_with fail
  refine ⟨trivial, ?_⟩
  refine (callsIn_wide.2 (arcsFrom_any (M : Int) (nd : Int) B k cap _)).mono ?_
  rintro e w5 ⟨rfl, hw5⟩
  have hs5 : w5.heap.size = w.heap.size + 6 := by rw [hw5]; simp
  have hp5 : Past w w5 := by rw [hw5]; exact ((((((Past.refl _).alloc _).alloc _).alloc _).alloc _).alloc _).alloc _
  have hF0 : FState w w5 (M : Int) (nd : Int) B k cap g M L := ⟨hp5, by rw [hw5]; go_simp, by rw [hw5]; go_simp, by rw [hw5]; go_simp, by rw [hw5]; go_simp, by rw [hw5]; go_simp, by omega⟩
  have hC : ArcsC (w.heap.size + 1 + 1 + 1 + 1) (w.heap.size + 1 + 1 + 1 + 1 + 1) (M : Int) (nd : Int) B k cap xs w5 := ⟨by rw [hw5]; go_simp, by rw [hw5]; go_simp, by rw [hw5]; go_simp, HX.out.below hp5⟩
  simp only [World.size_alloc]
  clear hw5
  gi_wp2_with fail
  refine wpIn_rangeFunc_ownG rfl (by omega) (gf := 100) (lb := #[.pointer (some ⟨w.heap.size + 1 + 1 + 1 + 1, 0, none⟩), .pointer (some ⟨w.heap.size + 1 + 1 + 1 + 1 + 1, 0, none⟩)]) rfl trivial (enters_of Try.func100 (by kernel_rfl) rfl)
    (arcsK_stops Fence.wide 3 trivial rfl (by omega) (w.heap.size + 1 + 1 + 1 + 1) (w.heap.size + 1 + 1 + 1 + 1 + 1) w.heap.size (M : Int) (nd : Int) B k cap xs hxk (by omega) w HX.out (Nat.le_refl _) w5 hC)
    (fun h k => h.trans k) (fun W l o o' hl ho hc hw => ⟨belowK_b (w := w5) (by omega) W l o o' hl ho hc hw, World.putObj_heap_other (by omega), World.putObj_heap_other (by omega)⟩) (Below.refl _ _) (fun _ => rfl)
    (fun pre W => FState w W (M : Int) (nd : Int) B k cap g M L ∧ NoneIn xs L (nd : Int) (nums pre))
    (fun c pre W => c = .ret ∧ ∃ (j : Nat) (a : ArcD) (p : List Int), nums pre = p ++ [(j : Int)] ∧ NoneIn xs L (nd : Int) p ∧ xs[j]? = some a ∧ goB L (nd : Int) a = true ∧ W.cell? ⟨w.heap.size + 1 + 1 + 1, 0, none⟩ = some (.int .i64 (j : Int)) ∧ Past w W)
    (fun pre A B row hs hg hr => ⟨hs.1.turn hg (fun r e => by have := hr r e; rw [hs5] at this; exact this), hs.2⟩)
    (fun c pre A B row hs hg hr => by
      obtain ⟨h1, j, a, p, h2, h3, h4, h5, h6, h7⟩ := hs
      exact ⟨h1, j, a, p, h2, h3, h4, h5, cell_kept h6 hg (fun r e => (hr r e).2), Below.grown h7 hg h7.size (fun r e => by have := (hr r e).1; omega)⟩)
    ⟨hF0, fun i hi => by simp [nums] at hi⟩
    (fun x => { tmps := #[.agg #[.int .i64 (M : Int), .slice B k cap], .slice (some ⟨g, 0, none⟩) M M, .int .i64 (nd : Int), .pointer (some ⟨w.heap.size, 0, none⟩), .pointer (some ⟨w.heap.size + 1, 0, none⟩), .pointer (some ⟨w.heap.size + 1 + 1, 0, none⟩), .pointer (some ⟨w.heap.size + 1 + 1 + 1, 0, none⟩), .int .i64 x.1, undef, .agg #[.int .i64 (M : Int), .slice B k cap], .int .i64 (nd : Int), .func (.func 100) #[] #[.pointer (some ⟨w.heap.size + 1 + 1 + 1 + 1, 0, none⟩), .pointer (some ⟨w.heap.size + 1 + 1 + 1 + 1 + 1, 0, none⟩)], .int .i64 x.1, undef, undef, undef, undef, undef, undef, undef, undef, undef, undef, undef, undef, undef, undef, undef, undef, undef, undef], defers := [] }) ?assign ?body ?done ?stop
  case assign =>
    intro l x W K hK
    gi_wp2
    exact hK
  case body =>
    rintro l pre ⟨x, j, ⟨f, t, c, l', d⟩, rfl, ha, hf⟩ W ⟨hS, hN⟩ hlt
    have hf : f = (nd : Int) := hf
    subst hf
    have hb := hin _ (List.mem_of_getElem? ha)
    simp only at hb
    obtain ⟨T, rfl⟩ : ∃ T : Nat, t = (T : Int) := ⟨t.toNat, by omega⟩
    have hjk : j < k := by rw [← hxk]; exact (List.getElem?_eq_some_iff.1 ha).1
    obtain ⟨bb, oo, rfl, c0, c1, c2, c3, c4⟩ := (HX.out.below hS.past) j _ ha
    have n1 := hS.n1
    have hTM : T < M := by omega
    have hTM' : (T : Int) < (M : Int) := by omega
    have hT0 : (0 : Int) ≤ (T : Int) := by omega
    have hD0 : (0 : Int) ≤ (nd : Int) := by omega
    have hDM : (nd : Int) < (M : Int) := by omega
    have hj0 : (0 : Int) ≤ (j : Int) := by omega
    have hjk' : (j : Int) < (k : Int) := by omega
    obtain ⟨⟨y0, y1⟩, hy⟩ : ∃ a, L[T]? = some a := ⟨_, List.getElem?_eq_getElem (by rw [hl]; exact hTM)⟩
    obtain ⟨⟨x0, x1⟩, hx⟩ : ∃ a, L[nd]? = some a := ⟨_, List.getElem?_eq_getElem (by rw [hl]; exact hnM)⟩
    have hlT : lab L (T : Int) = ⟨y0, y1⟩ := by unfold lab; rw [Int.toNat_natCast, List.getD_eq_getElem?_getD, hy]; rfl
    have hlD : lab L (nd : Int) = ⟨x0, x1⟩ := by unfold lab; rw [Int.toNat_natCast, List.getD_eq_getElem?_getD, hx]; rfl
    have hbT := HBD.out (T : Int) hT0 hTM'
    rw [hlT] at hbT
    simp only at hbT
    have hgo : goB L (nd : Int) ⟨(nd : Int), (T : Int), c, l', d⟩ = decide (y0 + c = x0 ∧ y1 + 1 = x1) := by
      unfold goB plusL
      simp only [hlT, hlD]
      simp
    have HGO := Lib.hid hgo
    obtain ⟨W1, hW1⟩ : ∃ W1, W1 = W.alloc (.cells #[.int .i64 (nd : Int), .int .i64 (T : Int), .int .i64 c, .int .i64 l', .int .i64 d] 52) := ⟨_, rfl⟩
    have hpA : Past W W1 := by rw [hW1]; exact (Past.refl W).alloc _
    have hS1 := hS.later hpA
    have d0 := past_cell (w := W1) (p := ⟨W.heap.size, 0, none⟩) (v := .int .i64 (nd : Int)) (by rw [hW1]; go_simp)
    have d1 := past_cell (w := W1) (p := ⟨W.heap.size, 1, none⟩) (v := .int .i64 (T : Int)) (by rw [hW1]; go_simp)
    have d2 := past_cell (w := W1) (p := ⟨W.heap.size, 2, none⟩) (v := .int .i64 c) (by rw [hW1]; go_simp)
    have d3 := past_cell (w := W1) (p := ⟨W.heap.size, 3, none⟩) (v := .int .i64 l') (by rw [hW1]; go_simp)
    have d4 := past_cell (w := W1) (p := ⟨W.heap.size, 4, none⟩) (v := .int .i64 d) (by rw [hW1]; go_simp)
    have p0 := past_cell hS1.ls
    have p1 := past_cell hS1.nd
    obtain ⟨r0, r1⟩ := HROW.out T _ hy
    obtain ⟨s0, s1⟩ := HROW.out nd _ hx
    have r0 := past_cell (cell_in hS1.past r0)
    have r1 := past_cell (cell_in hS1.past r1)
    have s0 := past_cell (cell_in hS1.past s0)
    have s1 := past_cell (cell_in hS1.past s1)
    simp only at r0 r1 s0 s1
    have C1 := Lib.hid (fun u : World => CallsIn.inRound l (callsIn_wide (n := 1).2 (plus_any y0 y1 (nd : Int) (T : Int) c l' d u (by omega) (by omega) (by omega))))
    have HW1 := Lib.hid hW1
    clear hW1 hy hx hlT hlD hgo hb
    have HK : Hid (∀ W8, Past W1 W8 → KeepsFrom w5.heap.size W W8 ∧ KArcs w.heap.size (w.heap.size + 1 + 1 + 1 + 1) (w.heap.size + 1 + 1 + 1 + 1 + 1) W W8) := fun W8 hW8 => by
      have hp8 := hpA.trans hW8
      have hsz := hS.size
      have h0 := hS.past.size
      exact ⟨⟨hp8.size, fun b o _ ho _ => (hp8.block b (Array.getElem?_eq_some_iff.1 ho).1).trans ho⟩, hp8.mono h0, hp8.block _ (by omega), hp8.block _ (by omega)⟩
    have hFw : Fence.wide.fn 106 := trivial
    by_cases E1 : y0 + c = x0
    · have g1 : (y0 + c == x0) = true := by simpa using E1
      by_cases E2 : y1 + 1 = x1
      · have g2 : (y1 + 1 == x1) = true := by simpa using E2
        have hgt : goB L (nd : Int) ⟨(nd : Int), (T : Int), c, l', d⟩ = true := by rw [HGO.out]; simp [E1, E2]
        subst E1 E2
        gi_wp2_with fail
        rw [← HW1.out]
        refine wpIn_region_past (by kernel_rfl) (by kernel_rfl) (by simp) ?_
        repeat (gi_big_quiet_step (with_reducible exact rfl))
        gi_big_quiet_step (exact pastIn_call (C1.out _))
        repeat (gi_big_quiet_step (with_reducible exact rfl))
        refine wpQuietIn_nil ?_
        rintro W8 ⟨⟨_, hW8⟩, rfl⟩
        have hS8 := hS1.later hW8
        have q1 := hS8.res
        have q2 := hS8.free
        gi_wp2
        exact ⟨(HK.out W8 hW8).1.trans ((KeepsOthers.setCell W8 _ _).from _), rfl, j, _, nums pre, by rw [nums_snoc], hN, ha, hgt, World.cell?_setCell_same' W8 _ _ (by rw [q1]; rfl), Below.setCell hS8.past (p := ⟨w.heap.size + 1 + 1 + 1, 0, none⟩) (by simp; omega) _⟩
      · have g2 : (y1 + 1 == x1) = false := by simpa using E2
        have hgt : goB L (nd : Int) ⟨(nd : Int), (T : Int), c, l', d⟩ = false := by rw [HGO.out]; simp [E2]
        subst E1
        gi_wp2_with fail
        rw [← HW1.out]
        refine wpIn_region_past (by kernel_rfl) (by kernel_rfl) (by simp) ?_
        repeat (gi_big_quiet_step (with_reducible exact rfl))
        gi_big_quiet_step (exact pastIn_call (C1.out _))
        repeat (gi_big_quiet_step (with_reducible exact rfl))
        refine wpQuietIn_nil ?_
        rintro W8 ⟨⟨_, hW8⟩, rfl⟩
        gi_wp2
        exact ⟨(HK.out W8 hW8).1, (HK.out W8 hW8).2, hS1.later hW8, noneIn_snoc hN ha hgt⟩
    · have g1 : (y0 + c == x0) = false := by simpa using E1
      have hgt : goB L (nd : Int) ⟨(nd : Int), (T : Int), c, l', d⟩ = false := by rw [HGO.out]; simp [E1]
      gi_wp2_with fail
      rw [← HW1.out]
      refine wpIn_region_past (by kernel_rfl) (by kernel_rfl) (by simp) ?_
      repeat (gi_big_quiet_step (with_reducible exact rfl))
      gi_big_quiet_step (exact pastIn_call (C1.out _))
      repeat (gi_big_quiet_step (with_reducible exact rfl))
      refine wpQuietIn_nil ?_
      rintro W8 ⟨⟨_, hW8⟩, rfl⟩
      gi_wp2
      exact ⟨(HK.out W8 hW8).1, (HK.out W8 hW8).2, hS1.later hW8, noneIn_snoc hN ha hgt⟩
  case done =>
    rintro D ys W hD hys ⟨hS, hN⟩ hK
    have hr := hS.res
    have hfz := hS.free
    gi_wp2
    have hK' := (KeepsOthers.setCell W ⟨w.heap.size + 1 + 1 + 1, 0, none⟩ (.int .i64 (-1))).same D _ hK rfl
    refine ⟨by simp, .inl ⟨_, _, rfl, run_takeDeferred hK', ?_⟩⟩
    have hc5 := cell_kept (World.cell?_setCell_same' W ⟨w.heap.size + 1 + 1 + 1, 0, none⟩ (.int .i64 (-1)) (by rw [hr]; rfl)) (grownBy_putObj' _ D (.deferred none)) (fun r e => by cases e; exact ⟨_, hK', rfl⟩)
    rw [hys] at hN
    refine ⟨.int .i64 (-1), ?_, by rw [tree_none hxk hN], (Below.setCell hS.past (p := ⟨w.heap.size + 1 + 1 + 1, 0, none⟩) (by simp; omega) _).trans (belowK_b (w := w) (Nat.le_refl _) _ D _ _ (by omega) hK' rfl rfl)⟩
    simp [results, Try.results114, go_sem, hc5]
  case stop =>
    rintro D c pre W hD hpre ⟨rfl, j, a, p, e1, h3, h4, h5, hcr, hB⟩ hK
    gi_wp2
    refine ⟨by simp, .inl ⟨_, _, rfl, run_takeDeferred hK, ?_⟩⟩
    have hc5 := cell_kept hcr (grownBy_putObj' _ D (.deferred none)) (fun r e => by cases e; exact ⟨_, hK, rfl⟩)
    rw [e1] at hpre
    refine ⟨.int .i64 (j : Int), ?_, by rw [tree_here hpre h3 h4 h5], Below.trans hB (belowK_b (w := w) (Nat.le_refl _) W D _ _ (by omega) hK rfl rfl)⟩
    simp [results, Try.results114, go_sem, hc5]

theorem firstArc_any (M nd : Nat) (B : Option Addr) (k cap : Nat) (xs : List ArcD) (g : Nat) (L : List LenD) (w : World) (hkk : k ≤ 16) (hxk : xs.length = k) (hx : ArcsAt w B xs) (hin : ArcsIn M xs) (hnM : nd < M) (hl : L.length = M)
    (hrow : ∀ j a, L[j]? = some a → w.cell? ⟨g, j * 2, none⟩ = some (.int .i64 a.x0) ∧ w.cell? ⟨g, j * 2 + 1, none⟩ = some (.int .i64 a.x1)) (hbd : ∀ v : Int, 0 ≤ v → v < M → 0 ≤ (lab L v).x0 ∧ (lab L v).x0 ≤ 99999 ∧ 0 ≤ (lab L v).x1 ∧ (lab L v).x1 ≤ 7) :
    Calls Try.prog 114 #[.agg #[.int .i64 (M : Int), .slice B k cap], .slice (some ⟨g, 0, none⟩) M M, .int .i64 (nd : Int)] w (fun e w' => e = .returned (.int .i64 (treeI xs L (nd : Int))) ∧ Below w.heap.size w w') :=
  (callsIn_wide (n := 4)).1 (firstArc_in M nd B k cap xs g L w hkk hxk hx hin hnM hl hrow hbd)

end Go.Proofs.Ytaojognjkiifmaa
