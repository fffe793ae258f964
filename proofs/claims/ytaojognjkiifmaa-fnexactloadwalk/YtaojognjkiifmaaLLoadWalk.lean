/-
  FnExactLoadWalk answers true at every input: impl.LoadWalk answers as spec.LoadWalk, leaves its arguments alone and owns its answer. No condition.
-/
import Derived.Test.YtaojognjkiifmaaNArcs
import Derived.Test.YtaojognjkiifmaaNLess
import Derived.Test.YtaojognjkiifmaaQRound
import Derived.Test.YtaojognjkiifmaaPTree
import Derived.Test.YtaojognjkiifmaaNCh
import Derived.Test.YtaojognjkiifmaaNear
import Derived.Test.YtaojognjkiifmaaNLen
import Derived.Test.YtaojognjkiifmaaBack3
import Derived.Test.YtaojognjkiifmaaPTree2
import Derived.Test.YtaojognjkiifmaaWalkT
import Derived.Test.YtaojognjkiifmaaCost
import Derived.Test.YtaojognjkiifmaaTo
import Derived.Test.YtaojognjkiifmaaResI
import Derived.Test.YtaojognjkiifmaaPWay
import Derived.Test.YtaojognjkiifmaaBack
import Derived.Test.YtaojognjkiifmaaSLoad
import Derived.Test.YtaojognjkiifmaaILoad
import Derived.Laws.OwnMore
import Derived.Test.YtaojognjkiifmaaInfoI
import Derived.Test.YtaojognjkiifmaaOpenW
import Derived.OpenShut
import Derived.ShutString
import Derived.ChangeOld
import Derived.Deep.Slices
import Derived.Deep.Fields
import Derived.Lib.SmallJoins
import Derived.Test.YtaojognjkiifmaaMark
import Derived.Test.YtaojognjkiifmaaMarkI
import Derived.Test.YtaojognjkiifmaaMarkB
namespace Go.Proofs.Ytaojognjkiifmaa
open Go.RowKit Go.Shelf

attribute [local go_sem] Oper.semAt_some

theorem outTo_cut (xs : List ArcD) (node : Int) : ∀ (n : Nat) (p : List Int) (k : Nat), p ++ [(k : Int)] <+: outTo xs node n → p = outTo xs node k
  | 0, p, k, h => by simp [outTo] at h
  | n + 1, p, k, h => by
    unfold outTo at h
    split at h
    · rcases List.prefix_concat_iff.1 h with e | e
      · obtain ⟨e1, e2⟩ := List.append_inj' e rfl
        have : (k : Int) = (n : Int) := by simpa using e2
        have : k = n := by omega
        rw [e1, this]
      · exact outTo_cut xs node n p k e
    · exact outTo_cut xs node n p k h

/-- What is read between two rounds. -/
structure FState (w W : World) (m node : Int) (B : Option Addr) (k cap g M : Nat) (L : List LenD) : Prop where
  past : Past w W
  n1 : W.cell? ⟨w.heap.size, 1, none⟩ = some (.slice B k cap)
  ls : W.cell? ⟨w.heap.size + 1, 0, none⟩ = some (.slice (some ⟨g, 0, none⟩) M M)
  nd : W.cell? ⟨w.heap.size + 1 + 1, 0, none⟩ = some (.int .i64 node)
  res : W.cell? ⟨w.heap.size + 1 + 1 + 1, 0, none⟩ = some (.int .i64 0)
  free : W.frozen? ⟨w.heap.size + 1 + 1 + 1, 0, none⟩ = false
  size : w.heap.size + 6 ≤ W.heap.size

section
variable {w W W' : World} {m node : Int} {B : Option Addr} {k cap g M : Nat} {L : List LenD}
theorem FState.later (h : FState w W m node B k cap g M L) (hp : Past W W') : FState w W' m node B k cap g M L :=
  ⟨h.past.trans hp, cell_in hp h.n1, cell_in hp h.ls, cell_in hp h.nd, cell_in hp h.res, free_in hp h.res h.free, Nat.le_trans h.size hp.size⟩
theorem FState.turn {row : Option Nat} (h : FState w W m node B k cap g M L) (hg : W.grownBy W' row) (hr : ∀ r, row = some r → w.heap.size + 6 ≤ r ∧ ∃ o : Obj, W.heap[r]? = some o ∧ o.isCells = false) : FState w W' m node B k cap g M L := by
  have kc : ∀ {p v}, W.cell? p = some v → W'.cell? p = some v := fun hc => cell_kept hc hg (fun r e => (hr r e).2)
  refine ⟨?_, kc h.n1, kc h.ls, kc h.nd, kc h.res, (frozen_kept h.res hg (fun r e => (hr r e).2)).trans h.free, Nat.le_trans h.size hg.size⟩
  exact Below.grown h.past hg h.past.size (fun r e => by have := (hr r e).1; omega)
end

/-- None of these arcs begins a best way. -/
def NoneIn (xs : List ArcD) (L : List LenD) (node : Int) (pre : List Int) : Prop := ∀ i ∈ pre, ∀ a, xs[i.toNat]? = some a → goB L node a = false

theorem noneIn_snoc {xs : List ArcD} {L : List LenD} {node : Int} {pre : List (Hit xs node)} {j : Nat} {a : ArcD} {h : HitP xs node (j : Int)} (hN : NoneIn xs L node (nums pre)) (ha : xs[j]? = some a) (hg : goB L node a = false) : NoneIn xs L node (nums (pre ++ [⟨(j : Int), h⟩])) := fun i hi b hb => by
  rw [nums_snoc] at hi
  rcases List.mem_append.1 hi with hi | hi
  · exact hN i hi b hb
  · simp at hi
    subst hi
    rw [Int.toNat_natCast, ha] at hb
    injection hb with hb
    rw [← hb]
    exact hg
theorem tree_none {xs : List ArcD} {L : List LenD} {node : Int} {n : Nat} (hn : xs.length = n) (h : NoneIn xs L node (outTo xs node n)) : treeI xs L node = -1 := by
  refine firstI_none fun i a hi ha => ?_
  by_cases hf : a.f = node
  · exact h (i : Int) (outTo_all xs node n i a (by omega) ha hf) a (by simpa using ha)
  · simp [goB, hf]
theorem tree_here {xs : List ArcD} {L : List LenD} {node : Int} {n j : Nat} {a : ArcD} {p : List Int} (hp : p ++ [(j : Int)] <+: outTo xs node n) (h : NoneIn xs L node p) (ha : xs[j]? = some a) (hg : goB L node a = true) : treeI xs L node = j := by
  have e := outTo_cut xs node n p j hp
  refine firstI_here (fun i b hi hb => ?_) ha hg
  by_cases hf : b.f = node
  · exact h (i : Int) (by rw [e]; exact outTo_all xs node j i b hi hb hf) b (by simpa using hb)
  · simp [goB, hf]

set_option maxRecDepth 1000000 in
set_option maxHeartbeats 4000000 in
theorem firstArc_in (M nd : Nat) (B : Option Addr) (k cap : Nat) (xs : List ArcD) (g : Nat) (L : List LenD) (w : World) (hkk : k ≤ 16) (hxk : xs.length = k) (hx : ArcsAt w B xs) (hin : ArcsIn M xs) (hnM : nd < M) (hl : L.length = M)
    (hrow : ∀ j a, L[j]? = some a → w.cell? ⟨g, j * 2, none⟩ = some (.int .i64 a.x0) ∧ w.cell? ⟨g, j * 2 + 1, none⟩ = some (.int .i64 a.x1)) (hbd : ∀ v : Int, 0 ≤ v → v < M → 0 ≤ (lab L v).x0 ∧ (lab L v).x0 ≤ 99999 ∧ 0 ≤ (lab L v).x1 ∧ (lab L v).x1 ≤ 7) :
    CallsIn Fence.wide 4 Try.prog 114 #[.agg #[.int .i64 (M : Int), .slice B k cap], .slice (some ⟨g, 0, none⟩) M M, .int .i64 (nd : Int)] w (fun e w' => e = .returned (.int .i64 (treeI xs L (nd : Int))) ∧ Below w.heap.size w w') := by
  have HROW := Lib.hid hrow
  have HBD := Lib.hid hbd
  have HX := Lib.hid hx
  clear hrow hbd hx
  refine callsIn_of_wp_marks Try.func114 rfl trivial ?_ rfl
  simp only [Try.ntmps114, List.size_toArray, List.length_cons, List.length_nil, Nat.reduceAdd, Nat.reduceSub, Array.replicate_succ, Array.replicate_zero, List.push_toArray, List.append_toArray, List.nil_append, List.cons_append]
  gi_wp2_with fail
  refine ⟨trivial, ?_⟩
  refine (callsIn_wide.2 (arcsFrom_any (M : Int) (nd : Int) B k cap _)).mono ?_
  rintro e w5 ⟨rfl, hw5⟩
  have hs5 : w5.heap.size = w.heap.size + 6 := by rw [hw5]; simp
  have hp5 : Past w w5 := by rw [hw5]; exact ((((((Past.refl _).alloc _).alloc _).alloc _).alloc _).alloc _).alloc _
  have hF0 : FState w w5 (M : Int) (nd : Int) B k cap g M L := ⟨hp5, by rw [hw5]; go_simp, by rw [hw5]; go_simp, by rw [hw5]; go_simp, by rw [hw5]; go_simp, by rw [hw5]; go_simp, by omega⟩
  have hC : ArcsC (w.heap.size + 1 + 1 + 1 + 1) (w.heap.size + 1 + 1 + 1 + 1 + 1) (M : Int) (nd : Int) B k cap xs w5 := ⟨by rw [hw5]; go_simp, by rw [hw5]; go_simp, by rw [hw5]; go_simp, HX.out.below hp5⟩
  simp only [World.size_alloc]
  clear hw5
  gi_wp2_with fail
  refine wpIn_rangeFunc_ownG rfl (by omega) (gf := 100) (lb := #[.pointer (some ⟨w.heap.size + 1 + 1 + 1 + 1, 0, none⟩), .pointer (some ⟨w.heap.size + 1 + 1 + 1 + 1 + 1, 0, none⟩)]) rfl trivial (enters_of Try.func100 (by kernel_rfl) rfl)
    (arcsK_stops Fence.wide 3 trivial rfl (by omega) (w.heap.size + 1 + 1 + 1 + 1) (w.heap.size + 1 + 1 + 1 + 1 + 1) w.heap.size (M : Int) (nd : Int) B k cap xs hxk (by omega) w HX.out (Nat.le_refl _) w5 hC)
    (fun h k => h.trans k) (fun W l o o' hl ho hc hw => ⟨belowK_b (w := w5) (by omega) W l o o' hl ho hc hw, World.putObj_heap_other (by omega), World.putObj_heap_other (by omega)⟩) (Below.refl _ _) (fun _ => rfl)
    (fun pre W => FState w W (M : Int) (nd : Int) B k cap g M L ∧ NoneIn xs L (nd : Int) (nums pre))
    (fun c pre W => c = .ret ∧ ∃ (j : Nat) (a : ArcD) (p : List Int), nums pre = p ++ [(j : Int)] ∧ NoneIn xs L (nd : Int) p ∧ xs[j]? = some a ∧ goB L (nd : Int) a = true ∧ W.cell? ⟨w.heap.size + 1 + 1 + 1, 0, none⟩ = some (.int .i64 (j : Int)) ∧ Past w W)
    (fun pre A B row hs hg hr => ⟨hs.1.turn hg (fun r e => by have := hr r e; rw [hs5] at this; exact this), hs.2⟩)
    (fun c pre A B row hs hg hr => by
      obtain ⟨h1, j, a, p, h2, h3, h4, h5, h6, h7⟩ := hs
      exact ⟨h1, j, a, p, h2, h3, h4, h5, cell_kept h6 hg (fun r e => (hr r e).2), Below.grown h7 hg h7.size (fun r e => by have := (hr r e).1; omega)⟩)
    ⟨hF0, fun i hi => by simp [nums] at hi⟩
    (fun x => { tmps := #[.agg #[.int .i64 (M : Int), .slice B k cap], .slice (some ⟨g, 0, none⟩) M M, .int .i64 (nd : Int), .pointer (some ⟨w.heap.size, 0, none⟩), .pointer (some ⟨w.heap.size + 1, 0, none⟩), .pointer (some ⟨w.heap.size + 1 + 1, 0, none⟩), .pointer (some ⟨w.heap.size + 1 + 1 + 1, 0, none⟩), .int .i64 x.1, undef, .agg #[.int .i64 (M : Int), .slice B k cap], .int .i64 (nd : Int), .func (.func 100) #[] #[.pointer (some ⟨w.heap.size + 1 + 1 + 1 + 1, 0, none⟩), .pointer (some ⟨w.heap.size + 1 + 1 + 1 + 1 + 1, 0, none⟩)], .int .i64 x.1, undef, undef, undef, undef, undef, undef, undef, undef, undef, undef, undef, undef, undef, undef, undef, undef, undef, undef], defers := [] }) ?assign ?body ?done ?stop
  case assign =>
    intro l x W K hK
    gi_wp2
    exact hK
  case body =>
    rintro l pre ⟨x, j, ⟨f, t, c, l', d⟩, rfl, ha, hf⟩ W ⟨hS, hN⟩ hlt
    have hf : f = (nd : Int) := hf
    subst hf
    have hb := hin _ (List.mem_of_getElem? ha)
    simp only at hb
    obtain ⟨T, rfl⟩ : ∃ T : Nat, t = (T : Int) := ⟨t.toNat, by omega⟩
    have hjk : j < k := by rw [← hxk]; exact (List.getElem?_eq_some_iff.1 ha).1
    obtain ⟨bb, oo, rfl, c0, c1, c2, c3, c4⟩ := (HX.out.below hS.past) j _ ha
    have n1 := hS.n1
    have hTM : T < M := by omega
    have hTM' : (T : Int) < (M : Int) := by omega
    have hT0 : (0 : Int) ≤ (T : Int) := by omega
    have hD0 : (0 : Int) ≤ (nd : Int) := by omega
    have hDM : (nd : Int) < (M : Int) := by omega
    have hj0 : (0 : Int) ≤ (j : Int) := by omega
    have hjk' : (j : Int) < (k : Int) := by omega
    obtain ⟨⟨y0, y1⟩, hy⟩ : ∃ a, L[T]? = some a := ⟨_, List.getElem?_eq_getElem (by rw [hl]; exact hTM)⟩
    obtain ⟨⟨x0, x1⟩, hx⟩ : ∃ a, L[nd]? = some a := ⟨_, List.getElem?_eq_getElem (by rw [hl]; exact hnM)⟩
    have hlT : lab L (T : Int) = ⟨y0, y1⟩ := by unfold lab; rw [Int.toNat_natCast, List.getD_eq_getElem?_getD, hy]; rfl
    have hlD : lab L (nd : Int) = ⟨x0, x1⟩ := by unfold lab; rw [Int.toNat_natCast, List.getD_eq_getElem?_getD, hx]; rfl
    have hbT := HBD.out (T : Int) hT0 hTM'
    rw [hlT] at hbT
    simp only at hbT
    have hgo : goB L (nd : Int) ⟨(nd : Int), (T : Int), c, l', d⟩ = decide (y0 + c = x0 ∧ y1 + 1 = x1) := by
      unfold goB plusL
      simp only [hlT, hlD]
      simp
    have HGO := Lib.hid hgo
    obtain ⟨W1, hW1⟩ : ∃ W1, W1 = W.alloc (.cells #[.int .i64 (nd : Int), .int .i64 (T : Int), .int .i64 c, .int .i64 l', .int .i64 d] 52) := ⟨_, rfl⟩
    have hpA : Past W W1 := by rw [hW1]; exact (Past.refl W).alloc _
    have hS1 := hS.later hpA
    have d0 := past_cell (w := W1) (p := ⟨W.heap.size, 0, none⟩) (v := .int .i64 (nd : Int)) (by rw [hW1]; go_simp)
    have d1 := past_cell (w := W1) (p := ⟨W.heap.size, 1, none⟩) (v := .int .i64 (T : Int)) (by rw [hW1]; go_simp)
    have d2 := past_cell (w := W1) (p := ⟨W.heap.size, 2, none⟩) (v := .int .i64 c) (by rw [hW1]; go_simp)
    have d3 := past_cell (w := W1) (p := ⟨W.heap.size, 3, none⟩) (v := .int .i64 l') (by rw [hW1]; go_simp)
    have d4 := past_cell (w := W1) (p := ⟨W.heap.size, 4, none⟩) (v := .int .i64 d) (by rw [hW1]; go_simp)
    have p0 := past_cell hS1.ls
    have p1 := past_cell hS1.nd
    obtain ⟨r0, r1⟩ := HROW.out T _ hy
    obtain ⟨s0, s1⟩ := HROW.out nd _ hx
    have r0 := past_cell (cell_in hS1.past r0)
    have r1 := past_cell (cell_in hS1.past r1)
    have s0 := past_cell (cell_in hS1.past s0)
    have s1 := past_cell (cell_in hS1.past s1)
    simp only at r0 r1 s0 s1
    have C1 := Lib.hid (fun u : World => CallsIn.inRound l (callsIn_wide (n := 1).2 (plus_any y0 y1 (nd : Int) (T : Int) c l' d u (by omega) (by omega) (by omega))))
    have HW1 := Lib.hid hW1
    clear hW1 hy hx hlT hlD hgo hb
    have HK : Hid (∀ W8, Past W1 W8 → KeepsFrom w5.heap.size W W8 ∧ KArcs w.heap.size (w.heap.size + 1 + 1 + 1 + 1) (w.heap.size + 1 + 1 + 1 + 1 + 1) W W8) := fun W8 hW8 => by
      have hp8 := hpA.trans hW8
      have hsz := hS.size
      have h0 := hS.past.size
      exact ⟨⟨hp8.size, fun b o _ ho _ => (hp8.block b (Array.getElem?_eq_some_iff.1 ho).1).trans ho⟩, hp8.mono h0, hp8.block _ (by omega), hp8.block _ (by omega)⟩
    have hFw : Fence.wide.fn 106 := trivial
    by_cases E1 : y0 + c = x0
    · have g1 : (y0 + c == x0) = true := by simpa using E1
      by_cases E2 : y1 + 1 = x1
      · have g2 : (y1 + 1 == x1) = true := by simpa using E2
        have hgt : goB L (nd : Int) ⟨(nd : Int), (T : Int), c, l', d⟩ = true := by rw [HGO.out]; simp [E1, E2]
        subst E1 E2
        gi_wp2_with fail
        rw [← HW1.out]
        refine wpIn_region_past (by kernel_rfl) (by kernel_rfl) (by simp) ?_
        repeat (gi_big_quiet_step (with_reducible exact rfl))
        gi_big_quiet_step (exact pastIn_call (C1.out _))
        repeat (gi_big_quiet_step (with_reducible exact rfl))
        refine wpQuietIn_nil ?_
        rintro W8 ⟨⟨_, hW8⟩, rfl⟩
        have hS8 := hS1.later hW8
        have q1 := hS8.res
        have q2 := hS8.free
        gi_wp2
        exact ⟨(HK.out W8 hW8).1.trans ((KeepsOthers.setCell W8 _ _).from _), rfl, j, _, nums pre, by rw [nums_snoc], hN, ha, hgt, World.cell?_setCell_same' W8 _ _ (by rw [q1]; rfl), Below.setCell hS8.past (p := ⟨w.heap.size + 1 + 1 + 1, 0, none⟩) (by simp; omega) _⟩
      · have g2 : (y1 + 1 == x1) = false := by simpa using E2
        have hgt : goB L (nd : Int) ⟨(nd : Int), (T : Int), c, l', d⟩ = false := by rw [HGO.out]; simp [E2]
        subst E1
        gi_wp2_with fail
        rw [← HW1.out]
        refine wpIn_region_past (by kernel_rfl) (by kernel_rfl) (by simp) ?_
        repeat (gi_big_quiet_step (with_reducible exact rfl))
        gi_big_quiet_step (exact pastIn_call (C1.out _))
        repeat (gi_big_quiet_step (with_reducible exact rfl))
        refine wpQuietIn_nil ?_
        rintro W8 ⟨⟨_, hW8⟩, rfl⟩
        gi_wp2
        exact ⟨(HK.out W8 hW8).1, (HK.out W8 hW8).2, hS1.later hW8, noneIn_snoc hN ha hgt⟩
    · have g1 : (y0 + c == x0) = false := by simpa using E1
      have hgt : goB L (nd : Int) ⟨(nd : Int), (T : Int), c, l', d⟩ = false := by rw [HGO.out]; simp [E1]
      gi_wp2_with fail
      rw [← HW1.out]
      refine wpIn_region_past (by kernel_rfl) (by kernel_rfl) (by simp) ?_
      repeat (gi_big_quiet_step (with_reducible exact rfl))
      gi_big_quiet_step (exact pastIn_call (C1.out _))
      repeat (gi_big_quiet_step (with_reducible exact rfl))
      refine wpQuietIn_nil ?_
      rintro W8 ⟨⟨_, hW8⟩, rfl⟩
      gi_wp2
      exact ⟨(HK.out W8 hW8).1, (HK.out W8 hW8).2, hS1.later hW8, noneIn_snoc hN ha hgt⟩
  case done =>
    rintro D ys W hD hys ⟨hS, hN⟩ hK
    have hr := hS.res
    have hfz := hS.free
    gi_wp2
    have hK' := (KeepsOthers.setCell W ⟨w.heap.size + 1 + 1 + 1, 0, none⟩ (.int .i64 (-1))).same D _ hK rfl
    refine ⟨by simp, .inl ⟨_, _, rfl, run_takeDeferred hK', ?_⟩⟩
    have hc5 := cell_kept (World.cell?_setCell_same' W ⟨w.heap.size + 1 + 1 + 1, 0, none⟩ (.int .i64 (-1)) (by rw [hr]; rfl)) (grownBy_putObj' _ D (.deferred none)) (fun r e => by cases e; exact ⟨_, hK', rfl⟩)
    rw [hys] at hN
    refine ⟨.int .i64 (-1), ?_, by rw [tree_none hxk hN], (Below.setCell hS.past (p := ⟨w.heap.size + 1 + 1 + 1, 0, none⟩) (by simp; omega) _).trans (belowK_b (w := w) (Nat.le_refl _) _ D _ _ (by omega) hK' rfl rfl)⟩
    simp [results, Try.results114, go_sem, hc5]
  case stop =>
    rintro D c pre W hD hpre ⟨rfl, j, a, p, e1, h3, h4, h5, hcr, hB⟩ hK
    gi_wp2
    refine ⟨by simp, .inl ⟨_, _, rfl, run_takeDeferred hK, ?_⟩⟩
    have hc5 := cell_kept hcr (grownBy_putObj' _ D (.deferred none)) (fun r e => by cases e; exact ⟨_, hK, rfl⟩)
    rw [e1] at hpre
    refine ⟨.int .i64 (j : Int), ?_, by rw [tree_here hpre h3 h4 h5], Below.trans hB (belowK_b (w := w) (Nat.le_refl _) W D _ _ (by omega) hK rfl rfl)⟩
    simp [results, Try.results114, go_sem, hc5]

theorem firstArc_any (M nd : Nat) (B : Option Addr) (k cap : Nat) (xs : List ArcD) (g : Nat) (L : List LenD) (w : World) (hkk : k ≤ 16) (hxk : xs.length = k) (hx : ArcsAt w B xs) (hin : ArcsIn M xs) (hnM : nd < M) (hl : L.length = M)
    (hrow : ∀ j a, L[j]? = some a → w.cell? ⟨g, j * 2, none⟩ = some (.int .i64 a.x0) ∧ w.cell? ⟨g, j * 2 + 1, none⟩ = some (.int .i64 a.x1)) (hbd : ∀ v : Int, 0 ≤ v → v < M → 0 ≤ (lab L v).x0 ∧ (lab L v).x0 ≤ 99999 ∧ 0 ≤ (lab L v).x1 ∧ (lab L v).x1 ≤ 7) :
    Calls Try.prog 114 #[.agg #[.int .i64 (M : Int), .slice B k cap], .slice (some ⟨g, 0, none⟩) M M, .int .i64 (nd : Int)] w (fun e w' => e = .returned (.int .i64 (treeI xs L (nd : Int))) ∧ Below w.heap.size w w') :=
  (callsIn_wide (n := 4)).1 (firstArc_in M nd B k cap xs g L w hkk hxk hx hin hnM hl hrow hbd)

end Go.Proofs.Ytaojognjkiifmaa

namespace Go.Proofs.Ytaojognjkiifmaa
open Go.RowKit

set_option maxRecDepth 100000 in
set_option maxHeartbeats 1000000 in
theorem costsOf_any (g n cap : Nat) (L : List LenD) (w : World) (hn : n ≤ 1048576) (hl : L.length = n) (hr : ∀ j a, L[j]? = some a → w.cell? ⟨g, j * 2, none⟩ = some (.int .i64 a.x0) ∧ w.cell? ⟨g, j * 2 + 1, none⟩ = some (.int .i64 a.x1)) :
    Calls Try.prog 74 #[.slice (some ⟨g, 0, none⟩) n cap] w (Gives w (L.map LenD.x0)) := by
  have hmk := makeInt n hn
  have HL := Lib.hid hl
  have HR := Lib.hid hr
  clear hl hr
  go_enter Try.func74, Try.ntmps74
  go_wp2
  go_loopw [11] (fun i wr => ∃ k : Nat, k ≤ n ∧ i = .int .i64 k ∧ Past w wr ∧ MadeI wr w.heap.size 3 n (L.map LenD.x0) k) (fun i _ => n - (intOf i).toNat)
  case atStart => exact ⟨0, by omega, rfl, (Past.refl w).alloc _, MadeI.start _ _ _ _ _ (by simp [size_madeCells])⟩
  case round =>
    obtain ⟨k, hk, rfl, hb, hm⟩ := hrel
    by_cases hlt : k < n
    · obtain ⟨⟨x0, x1⟩, ha⟩ : ∃ a, L[k]? = some a := ⟨_, List.getElem?_eq_getElem (by have := HL.out; omega)⟩
      obtain ⟨c0, c1⟩ := HR.out k _ ha
      have c0 := cell_in hb c0
      have c1 := cell_in hb c1
      simp only at c0 c1
      have HA : Hid ((L.map LenD.x0)[k]? = some x0) := by rw [Hid, List.getElem?_map, ha]; rfl
      have i0 : (0 : Int) ≤ (k : Int) := by omega
      have i1 : (k : Int) < (n : Int) := by omega
      have hmA := hm.below ((Past.refl wr).alloc (.cells #[.int .i64 x0, .int .i64 x1] 88))
      obtain ⟨v0, e0⟩ := hmA.1.cell (i := k) hlt
      have z0 := hmA.1.frozen k
      have hnx := (hm.next HA.out hlt).below ((Past.refl _).alloc (.cells #[.int .i64 x0, .int .i64 x1] 88))
      have hgk : w.heap.size < wr.heap.size := hm.1.lt
      clear ha
      go_wp2
      go_roundw
      case rel => exact ⟨k + 1, by omega, by go_num, Past.alloc (Below.setCell hb (p := ⟨w.heap.size, k, none⟩) (by simp) _) _, hnx⟩
      case measure => simp [intOf]; omega
    · obtain rfl : n = k := by omega
      go_wp2
      go_ret
      refine ⟨_, rfl, ?_, hb⟩
      have hlm : (L.map LenD.x0).length = n := by rw [List.length_map, HL.out]
      exact (hm.row hlm).res hlm (Nat.le_refl _) hn

set_option maxRecDepth 100000 in
set_option maxHeartbeats 1000000 in
theorem allWithin_any (A : Option Addr) (n c : Nat) (zs : List Int) (mo : Int) (w : World) (hn : n ≤ 1048576) (hl : zs.length = n) (hz : IntsAt w A zs) :
    Calls Try.prog 99 #[.slice A n c, .int .i64 mo] w fun e w' => e = .returned (.bool (zs.all (fun z => inB z 0 mo))) ∧ Below w.heap.size w w' := by
  have HL := Lib.hid hl
  clear hl
  go_enter Try.func99, Try.ntmps99
  go_wp2
  go_loopw [9] (fun i wr => ∃ k : Nat, k ≤ n ∧ i = .int .i64 k ∧ Past w wr ∧ (zs.take k).all (fun z => inB z 0 mo) = true) (fun i _ => n - (intOf i).toNat)
  case atStart => exact ⟨0, by omega, rfl, Past.refl w, by simp⟩
  case round =>
    obtain ⟨k, hk, rfl, hb, hm⟩ := hrel
    have HM := Lib.hid hm
    clear hm
    by_cases hlt : k < n
    · obtain ⟨y, ha⟩ : ∃ a, zs[k]? = some a := ⟨_, List.getElem?_eq_getElem (by have := HL.out; omega)⟩
      obtain ⟨g, o, rfl, c0⟩ := hz k _ ha
      have c0 := cell_in hb c0
      have HA := Lib.hid ha
      have i0 : (0 : Int) ≤ (k : Int) := by omega
      have i1 : (k : Int) < (n : Int) := by omega
      clear ha
      go_wp2_with fail
      refine (within_any y mo _).mono ?_
      rintro e w1 ⟨rfl, rfl⟩
      cases hB : inB y 0 mo with
      | false =>
        have HB := Lib.hid hB
        clear hB
        go_wp2
        go_ret
        exact ⟨ret_bool (by
          symm
          rw [List.all_eq_false]
          exact ⟨y, List.mem_of_getElem? HA.out, by rw [HB.out]; simp⟩), hb⟩
      | true =>
        have HB := Lib.hid hB
        clear hB
        go_wp2
        go_roundw
        case rel => exact ⟨k + 1, by omega, by go_num, hb, by rw [List.take_add_one, List.all_append, HM.out, HA.out]; simp [HB.out]⟩
        case measure => simp [intOf]; omega
    · obtain rfl : n = k := by omega
      go_wp2
      go_ret
      refine ⟨ret_bool ?_, hb⟩
      have := HM.out
      rw [List.take_of_length_le (by have := HL.out; omega)] at this
      exact this.symm

set_option maxRecDepth 100000 in
set_option maxHeartbeats 1000000 in
theorem netHas_any (m : Int) (A : Option Addr) (n c : Nat) (xs : List ArcD) (B : Option Addr) (l cb : Nat) (zs : List Int) (w : World) (hn : n ≤ 1048576) (hnx : xs.length = n) (hx : ArcsAt w A xs) (hl : l ≤ 1048576) (hlz : zs.length = l) (hz : IntsAt w B zs) :
    Calls Try.prog 62 #[.agg #[.int .i64 m, .slice A n c], .slice B l cb] w fun e w' => e = .returned (.bool (netB m xs && zs.all (fun z => inB z 0 (m - 1)))) ∧ Below w.heap.size w w' := by
  have HX := Lib.hid hnx
  have HZ := Lib.hid hlz
  clear hnx hlz
  have hb0 : Past w (w.alloc (.cells #[.int .i64 m, .slice A n c] 32)) := (Past.refl _).alloc _
  go_enter Try.func62, Try.ntmps62
  go_wp2_with fail
  refine (implNetOk_any m A n c xs _ hn HX.out (hx.below hb0)).mono ?_
  rintro e w1 ⟨rfl, hb1⟩
  have b0 := cell_in (p := ⟨w.heap.size, 0, none⟩) (v := .int .i64 m) hb1 (by go_simp)
  cases hB : netB m xs with
  | false =>
    have HB := Lib.hid hB
    clear hB
    go_wp2
    go_ret
    exact ⟨ret_bool (by rw [HB.out]; rfl), hb0.trans hb1⟩
  | true =>
    have hw : IntKind.i64.wrap (m - 1) = m - 1 := by
      obtain ⟨h1, _⟩ := (netB_iff _ _).1 hB
      exact IntWalk.i64_in _ (by omega)
    have HB := Lib.hid hB
    clear hB
    go_wp2_with fail
    refine (allWithin_any B l cb zs (m - 1) _ hl HZ.out ((hz.below hb0).below hb1)).mono ?_
    rintro e w2 ⟨rfl, hb2⟩
    go_wp2
    go_ret
    exact ⟨ret_bool (by rw [HB.out]; rfl), (hb0.trans hb1).trans hb2⟩

end Go.Proofs.Ytaojognjkiifmaa

namespace Go.Proofs.Ytaojognjkiifmaa
open Go.RowKit

theorem net_ne {m : Int} {xs : List ArcD} (h : netB m xs = true) : ∀ a ∈ xs, a.f ≠ a.t := fun a ha => by
  obtain ⟨_, _, h3⟩ := (netB_iff _ _).1 h
  have := h3 a ha
  simp only [arcB, Bool.and_eq_true, Bool.not_eq_true'] at this
  simpa using this.2.2.1

set_option maxRecDepth 100000 in
set_option maxHeartbeats 1000000 in
theorem implNearAll_any (m : Int) (A : Option Addr) (n c : Nat) (xs : List ArcD) (s : Int) (w : World) (hn : n ≤ 1048576) (hnx : xs.length = n) (hx : ArcsAt w A xs) :
    Calls Try.prog 30 #[.agg #[.int .i64 m, .slice A n c], .int .i64 s] w (Gives w (nearI m xs s)) := by
  have HX := Lib.hid hnx
  clear hnx
  go_enter Try.func30, Try.ntmps30
  have hb0 : Past w ((w.alloc (.cells #[.int .i64 m, .slice A n c] 32)).alloc (.cells #[.int .i64 s] 3)) := ((Past.refl _).alloc _).alloc _
  have hz : IntsAt ((w.alloc (.cells #[.int .i64 m, .slice A n c] 32)).alloc (.cells #[.int .i64 s] 3)) (some ⟨w.heap.size + 1, 0, none⟩) [s] := fun k y hk => by
    cases k with
    | zero => simp at hk; subst hk; exact ⟨_, _, rfl, by go_simp⟩
    | succ k => simp at hk
  go_wp2_with fail
  refine (netHas_any m A n c xs _ 1 1 [s] _ hn HX.out (hx.below hb0) (by omega) rfl hz).mono ?_
  rintro e w1 ⟨rfl, hb1⟩
  have b0 := cell_in (p := ⟨w.heap.size, 0, none⟩) (v := .int .i64 m) hb1 (by go_simp)
  have b1 := cell_in (p := ⟨w.heap.size, 1, none⟩) (v := .slice A n c) hb1 (by go_simp)
  have hx1 := (hx.below hb0).below hb1
  have hp1 := hb0.trans hb1
  have hH : (netB m xs && [s].all (fun z => inB z 0 (m - 1))) = hereB m xs s := by simp [hereB]
  rw [hH]
  clear hH hb0 hz hb1
  cases hB : hereB m xs s with
  | false =>
    have HB := Lib.hid hB
    clear hB
    go_wp2
    go_ret
    exact ⟨_, rfl, by rw [nearI, HB.out]; exact Res.nil _ _, hp1⟩
  | true =>
    obtain ⟨hN, h0, h1⟩ := (hereB_iff _ _ _).1 hB
    obtain ⟨M, rfl, h3, h8⟩ := here_nat hN
    obtain ⟨S, rfl⟩ : ∃ S : Nat, s = (S : Int) := ⟨s.toNat, by omega⟩
    have hS : S < M := by omega
    have h16 : n ≤ 16 := by rw [← HX.out]; exact ((netB_iff _ _).1 hN).2.1
    have HB := Lib.hid hB
    have HN := Lib.hid hN
    clear hB hN
    go_wp2_with fail
    refine (lengths_any M S A n c xs _ (by omega) HX.out hx1 (arcsIn_net HN.out) (net_ne HN.out) h3 (by omega) hS).mono ?_
    rintro e w2 ⟨g, L, rfl, hrow, hLl, hlabs, hopen, hb2⟩
    have HL := Lib.hid hlabs
    have HO := Lib.hid hopen
    clear hlabs hopen
    have HG := Lib.hid (fun j a (hj : L[j]? = some a) => hrow.get hLl hj)
    clear hrow
    go_wp2_with fail
    refine (costsOf_any g M M L _ (by omega) hLl HG.out).mono ?_
    rintro e w3 ⟨v3, rfl, hv3, hb3⟩
    go_wp2
    go_ret
    have hnear := HL.out.near (arcsIn_net HN.out) ⟨h0, h1⟩ (by omega) HO.out
    exact ⟨_, rfl, by rw [nearI, HB.out, if_pos rfl, Int.toNat_natCast, ← hnear]; exact hv3.lower (Nat.le_trans hp1.size hb2.size), (hp1.trans hb2).trans hb3⟩

end Go.Proofs.Ytaojognjkiifmaa

namespace Go.Proofs.Ytaojognjkiifmaa
open Go.RowKit

theorem clone_nil (c : Nat) (w : World) : Calls Try.prog 120 #[.slice none 0 c] w (GivesArcs w []) := by
  have heq := fun u : World => Lib.run_eql_slice_nil (P := Try.prog) u 30 52 none 0 c 0 0 Try.underlying30
  simp only [Option.isNone_none] at heq
  go_enter Try.func120, Try.ntmps120
  go_wp2
  go_ret
  exact ⟨_, rfl, by unfold ResA; exact ⟨rfl, .inl ⟨rfl, rfl⟩⟩, Below.refl _ _⟩

set_option maxHeartbeats 1000000 in
theorem implNetBack_nil (m : Int) (c : Nat) (w : World) :
    Calls Try.prog 113 #[.agg #[.int .i64 m, .slice none 0 c]] w (GivesNet w (backN m []) (backL m [])) := by
  have hx : ArcsAt w none [] := fun k a hk => by simp at hk
  have hb0 : Past w ((w.alloc (.cells #[.int .i64 m, .slice none 0 c] 32)).alloc (.cells #[.int .i64 0, .slice none 0 0] 32)) := ((Past.refl _).alloc _).alloc _
  go_enter Try.func113, Try.ntmps113
  go_wp2_with fail
  refine (implNetOk_any m _ 0 c [] _ (by omega) rfl (hx.below hb0)).mono ?_
  rintro e w1 ⟨rfl, hb1⟩
  have b0 := cell_in (p := ⟨w.heap.size, 0, none⟩) (v := .int .i64 m) hb1 (by go_simp)
  have b1 := cell_in (p := ⟨w.heap.size, 1, none⟩) (v := .slice none 0 c) hb1 (by go_simp)
  have e0 := cell_in (p := ⟨w.heap.size + 1, 0, none⟩) (v := .int .i64 0) hb1 (by go_simp)
  have e1 := cell_in (p := ⟨w.heap.size + 1, 1, none⟩) (v := .slice none 0 0) hb1 (by go_simp)
  have z0 := free_in (p := ⟨w.heap.size + 1, 0, none⟩) (v := .int .i64 0) hb1 (by go_simp) (by go_simp)
  have z1 := free_in (p := ⟨w.heap.size + 1, 1, none⟩) (v := .slice none 0 0) hb1 (by go_simp) (by go_simp)
  cases hB : netB m [] with
  | false =>
    have HB := Lib.hid hB
    clear hB
    go_wp2
    exact bodyPost_ret (v := .agg #[.int .i64 0, .slice none 0 0]) (by simp [results, Try.results113, go_sem, e0, e1]) rfl
      ⟨none, 0, by simp [backN, backL, HB.out], by simp only [backL, HB.out, Bool.false_eq_true, if_false]; exact fun k a hk => by simp at hk, by simp only [backL, HB.out, Bool.false_eq_true, if_false]; exact .inl ⟨rfl, rfl⟩, Below.setCell (Below.setCell (bel_trans hb0 hb1) (by simp) _) (by simp) _⟩
  | true =>
    have HB := Lib.hid hB
    clear hB
    have nb0 := World.new_ne w1 _ b0
    have nb1 := World.new_ne w1 _ b1
    go_upto_region 3 with (fail)
    go_cut [3] (BackCut w1 m 0 [])
    case first =>
      go_region_held3 (fun w' => w'.cell? ⟨w.heap.size, 0, none⟩ = some (.int .i64 m) ∧ w'.cell? ⟨w.heap.size, 1, none⟩ = some (.slice none 0 c)) (go_keep)
        (first
          | (go_at_call 120; refine (clone_nil c _).mono ?_; rintro e w2 ⟨v, rfl, hv, hb2⟩; obtain ⟨A2, c2, rfl, hx2, ho2⟩ := hv.formN (n := 0) rfl; have b0 := cell_in hb2 b0; have b1 := cell_in hb2 b1)
          | (go_at_call 120; refine (clone_nil c _).mono ?_; rintro e w2 ⟨v, rfl, hv, hb2⟩; obtain ⟨A2, c2, rfl, hx2, ho2⟩ := hv.formN (n := 0) rfl; have b0 := cell_in hb2 (cell_in ((Past.refl w1).alloc (.cells #[.int .i64 0, .slice none 0 0] 32)).drew b0); have b1 := cell_in hb2 (cell_in ((Past.refl w1).alloc (.cells #[.int .i64 0, .slice none 0 0] 32)).drew b1); have p0 := cell_in (p := ⟨w1.heap.size, 0, none⟩) (v := .int .i64 0) hb2 (by go_simp); have p1 := cell_in (p := ⟨w1.heap.size, 1, none⟩) (v := .slice none 0 0) hb2 (by go_simp); have y0 := free_in (p := ⟨w1.heap.size, 0, none⟩) (v := .int .i64 0) hb2 (by go_simp) (by go_simp); have y1 := free_in (p := ⟨w1.heap.size, 1, none⟩) (v := .slice none 0 0) hb2 (by go_simp) (by go_simp)))
      all_goals go_wp2_with fail
      all_goals go_meet
      · have hb12 : Past w1 w2 := (Past.refl w1).drew.trans hb2
        exact ⟨w2.heap.size, A2, c2, rfl, hb2.size, ⟨_, heap_alloc_new w2 _, rfl⟩, by go_simp, by go_simp, hx2.below ((Past.refl w2).alloc _), OwnAt.keep ho2 (grown_of_below ((Past.refl w2).alloc _) none) (by simp), ho2.ne_new, hb12.alloc _⟩
      · have hbA : Past w1 (w1.alloc (.cells #[.int .i64 0, .slice none 0 0] 32)).drew := ((Past.refl w1).alloc _).drew
        have hb12 : Past w1 w2 := hbA.trans hb2
        have hr : RowN w2 w1.heap.size 32 2 := RowN.keep (w := (w1.alloc (.cells #[.int .i64 0, .slice none 0 0] 32)).drew) ⟨_, heap_alloc_new w1 _, rfl⟩ (hb2.block _ (by simp))
        have hne : blk A2 ≠ some w1.heap.size := ho2.ne_blk (by simp)
        refine ⟨w1.heap.size, A2, c2, rfl, Nat.le_refl _, (hr.set _ _).set _ _, ?_, ?_, (hx2.far _ _ hne).far _ _ hne, ((ho2.lower (by simp)).far _ _).far _ _, hne, Below.setCell (Below.setCell hb12 (by simp) _) (by simp) _⟩
        · exact (World.cell?_setCell_other _ _ _ _ (by simp)).trans (World.cell?_setCell_same _ _ _ p0)
        · exact World.cell?_setCell_same _ _ _ ((World.cell?_setCell_other _ _ _ _ (by simp)).trans p1)
    case rest =>
      obtain ⟨p, A2, c2, rfl, hp, hrp, q0, q1, hx2, ho2, hne, hb12⟩ := hcut
      have sw : w.heap.size + 1 < w1.heap.size := lt_of_cell e0
      have b0 := cell_in hb12 b0
      have b1 := cell_in hb12 b1
      have r1 : RowN wc (w.heap.size + 1) 32 2 := by
        refine RowN.keep (w := w1) (RowN.keep (w := ((w.alloc (.cells #[.int .i64 m, .slice none 0 c] 32)).alloc (.cells #[.int .i64 0, .slice none 0 0] 32))) ⟨#[.int .i64 0, .slice none 0 0], ?_, rfl⟩ (hb1.block _ (by simp))) (hb12.block _ sw)
        have := heap_alloc_new (w.alloc (.cells #[.int .i64 m, .slice none 0 c] 32)) (.cells #[.int .i64 0, .slice none 0 0] 32)
        simpa using this
      have hb0c : Past w wc := hb0.trans (Past.trans hb1 hb12)
      clear e0 e1 z0 z1 nb0 nb1
      obtain ⟨x0, e0⟩ := r1.cell (i := 0) (by omega)
      obtain ⟨x1, e1⟩ := r1.cell (i := 1) (by omega)
      have z0 := r1.frozen 0
      have z1 := r1.frozen 1
      have hne2 : blk A2 ≠ some (w.heap.size + 1) := ho2.ne_blk sw
      go_wp2
      go_loop [19] (fun q => q = .int .i64 0) (fun _ => 0)
      case atStart => rfl
      case round =>
        subst hrel
        go_wp2
        exact bodyPost_ret (v := .agg #[.int .i64 m, .slice A2 0 c2]) (by simp [results, Try.results113, go_sem, e0, e1]) rfl
          ⟨A2, c2, by simp [backN, backL, HB.out], by rw [backL, if_pos HB.out]; exact fun k a hk => by simp at hk, by rw [backL, if_pos HB.out, List.length_map]; exact ((ho2.lower (by omega)).far _ _).far _ _, Below.setCell (Below.setCell hb0c (by simp) _) (by simp) _⟩

theorem implNetBack_all (m : Int) (A : Option Addr) (n c : Nat) (xs : List ArcD) (w : World) (hn : n ≤ 1048576) (hl : xs.length = n) (hx : ArcsAt w A xs) (ho : (A = none ∧ n = 0) ∨ ∃ g o, A = some ⟨g, o, none⟩) :
    Calls Try.prog 113 #[.agg #[.int .i64 m, .slice A n c]] w (GivesNet w (backN m xs) (backL m xs)) := by
  rcases ho with ⟨rfl, rfl⟩ | ⟨g, o, rfl⟩
  · obtain rfl : xs = [] := List.eq_nil_of_length_eq_zero hl
    exact implNetBack_nil m c w
  · exact implNetBack_any m g o n c xs w hn hl hx

end Go.Proofs.Ytaojognjkiifmaa

namespace Go.Proofs.Ytaojognjkiifmaa
open Go.RowKit

theorem flip_flip' (a : ArcD) : flip (flip a) = a := rfl
theorem arcB_flip' {m : Int} {a : ArcD} (h : arcB m a = true) : arcB m (flip a) = true := by
  unfold arcB at h ⊢
  unfold flip
  simp only [Bool.and_eq_true, Bool.not_eq_true', beq_eq_false_iff_ne] at h ⊢
  exact ⟨h.2.1, h.1, fun e => h.2.2.1 e.symm, h.2.2.2⟩
theorem netB_flip' {m : Int} {xs : List ArcD} (h : netB m xs = true) : netB m (xs.map flip) = true := by
  obtain ⟨h1, h2, h3⟩ := (netB_iff _ _).1 h
  refine (netB_iff _ _).2 ⟨h1, by rw [List.length_map]; exact h2, fun a ha => ?_⟩
  obtain ⟨b, hb, rfl⟩ := List.mem_map.1 ha
  exact arcB_flip' (h3 b hb)
/-- What it costs from each to a node. -/
def nearTI (m : Int) (xs : List ArcD) (s : Int) : List Int := if hereB m xs s then nearL m.toNat (xs.map flip) s else []
theorem nearTI_back (m : Int) (xs : List ArcD) (s : Int) : nearI (backN m xs) (backL m xs) s = nearTI m xs s := by
  unfold nearI nearTI backN backL hereB
  cases hB : netB m xs with
  | true => simp only [if_true, netB_flip' hB]
  | false =>
    have : netB 0 [] = false := by decide
    simp [this]
theorem nearTI_len (m : Int) (xs : List ArcD) (s : Int) : (nearTI m xs s).length ≤ 1048576 := by
  rw [← nearTI_back]
  exact nearI_len _ _ _



end Go.Proofs.Ytaojognjkiifmaa

namespace Go.Proofs.Ytaojognjkiifmaa
open Go.RowKit

/-- The tree, of a net and a node that are there. -/
def treeTI (m : Int) (xs : List ArcD) (s : Int) : List Int := if hereB m xs s then treeM m.toNat xs s else []
theorem treeTI_len (m : Int) (xs : List ArcD) (s : Int) : (treeTI m xs s).length ≤ 1048576 := by
  unfold treeTI
  split
  · rename_i h
    rw [treeM_length]
    obtain ⟨M, e, _, h8⟩ := here_nat ((hereB_iff _ _ _).1 h).1
    subst e
    simp
    omega
  · simp

set_option maxRecDepth 100000 in
set_option maxHeartbeats 2000000 in
theorem implNearTree_all (m : Int) (A : Option Addr) (n c : Nat) (xs : List ArcD) (s : Int) (w : World) (hn : n ≤ 1048576) (hnx : xs.length = n) (hx : ArcsAt w A xs) (ho : (A = none ∧ n = 0) ∨ ∃ g o, A = some ⟨g, o, none⟩) :
    Calls Try.prog 85 #[.agg #[.int .i64 m, .slice A n c], .int .i64 s] w (Gives w (treeTI m xs s)) := by
  have HX := Lib.hid hnx
  clear hnx
  go_enter Try.func85, Try.ntmps85
  have hb0 : Past w ((w.alloc (.cells #[.int .i64 m, .slice A n c] 32)).alloc (.cells #[.int .i64 s] 3)) := ((Past.refl _).alloc _).alloc _
  have hz : IntsAt ((w.alloc (.cells #[.int .i64 m, .slice A n c] 32)).alloc (.cells #[.int .i64 s] 3)) (some ⟨w.heap.size + 1, 0, none⟩) [s] := fun k y hk => by
    cases k with
    | zero => simp at hk; subst hk; exact ⟨_, _, rfl, by go_simp⟩
    | succ k => simp at hk
  go_wp2_with fail
  refine (netHas_any m A n c xs _ 1 1 [s] _ hn HX.out (hx.below hb0) (by omega) rfl hz).mono ?_
  rintro e w1 ⟨rfl, hb1⟩
  have b0 := cell_in (p := ⟨w.heap.size, 0, none⟩) (v := .int .i64 m) hb1 (by go_simp)
  have b1 := cell_in (p := ⟨w.heap.size, 1, none⟩) (v := .slice A n c) hb1 (by go_simp)
  have hx1 := (hx.below hb0).below hb1
  have hp1 := hb0.trans hb1
  have hH : (netB m xs && [s].all (fun z => inB z 0 (m - 1))) = hereB m xs s := by simp [hereB]
  rw [hH]
  clear hH hb0 hz hb1
  cases hB : hereB m xs s with
  | false =>
    have HB := Lib.hid hB
    clear hB
    go_wp2
    go_ret
    exact ⟨_, rfl, by rw [treeTI, HB.out]; exact Res.nil _ _, hp1⟩
  | true =>
    obtain ⟨hN, h0, h1⟩ := (hereB_iff _ _ _).1 hB
    obtain ⟨M, rfl, h3, h8⟩ := here_nat hN
    obtain ⟨S, rfl⟩ : ∃ S : Nat, s = (S : Int) := ⟨s.toNat, by omega⟩
    have hS : S < M := by omega
    have h16 : n ≤ 16 := by rw [← HX.out]; exact ((netB_iff _ _).1 hN).2.1
    have HB := Lib.hid hB
    have HN := Lib.hid hN
    clear hB hN
    go_wp2_with fail
    refine (implNetBack_all (M : Int) A n c xs _ hn HX.out hx1 ho).mono ?_
    rintro e w2 ⟨A2, c2, rfl, hx2, _, hb2⟩
    have hbN : backN (M : Int) xs = (M : Int) := by rw [backN, HN.out, if_pos rfl]
    have hbL : backL (M : Int) xs = xs.map flip := by rw [backL, HN.out, if_pos rfl]
    rw [hbN]
    rw [hbL] at hx2 ⊢
    obtain ⟨K2, hK2⟩ : ∃ K2, (xs.map flip).length = K2 := ⟨_, rfl⟩
    have hK3 : K2 ≤ 16 := by rw [← hK2, List.length_map, HX.out]; exact h16
    rw [hK2]
    have HK2 := Lib.hid hK2
    have b0 := cell_in hb2 b0
    have b1 := cell_in hb2 b1
    have hx2' := hx1.below hb2
    have hp2 := hp1.trans hb2
    clear hK2 hbN hbL hb2
    go_wp2_with fail
    refine (lengths_any M S A2 K2 c2 (xs.map flip) _ (by omega) HK2.out hx2 (arcsIn_net (netB_flip' HN.out)) (net_ne (netB_flip' HN.out)) h3 (by omega) hS).mono ?_
    rintro e W ⟨g, L, rfl, hrow, hLl, hlabs, hopen, hb3⟩
    have hT : TreeL M xs (S : Int) L := ⟨hlabs, hopen, arcsIn_net HN.out, ⟨h0, h1⟩, h8⟩
    have hLe := hT.eq
    have HT := Lib.hid hT
    have HG := Lib.hid (fun j a (hj : L[j]? = some a) => hrow.get hLl hj)
    have HLE := Lib.hid hLe
    have b0 := cell_in hb3 b0
    have b1 := cell_in hb3 b1
    have hxW := hx2'.below hb3
    have hpW := hp2.trans hb3
    have hmk := makeInt M (by omega)
    clear hlabs hopen hrow hT hLe hb3 hx2 hx1 hx2'
    go_wp2
    go_loopw [22] (fun i wr => ∃ k : Nat, k ≤ M ∧ i = .int .i64 k ∧ Past W wr ∧ MadeI wr W.heap.size 3 M (treeM M xs (S : Int)) k) (fun i _ => M - (intOf i).toNat)
    case atStart => exact ⟨0, by omega, rfl, (Past.refl _).alloc _, MadeI.start W 3 M (treeM M xs (S : Int)) (madeCells #[.int .i64 0] M) (by simp [size_madeCells])⟩
    case round =>
      obtain ⟨k, hk, rfl, hb, hmd⟩ := hrel
      have b0' := cell_in hb b0
      have b1' := cell_in hb b1
      by_cases hlt : k < M
      · have HF : Hid ((treeM M xs (S : Int))[k]? = some (treeI xs L (k : Int))) := by rw [Hid, HLE.out]; exact treeM_get M xs (S : Int) hlt
        have k0 : (0 : Int) ≤ (k : Int) := by omega
        have k1 : (k : Int) < (M : Int) := by omega
        go_wp2_with fail
        refine (firstArc_any M k A n c xs g L _ h16 HX.out (hxW.below hb) (arcsIn_net HN.out) hlt hLl (fun j a hj => ⟨cell_in hb (HG.out j a hj).1, cell_in hb (HG.out j a hj).2⟩) (fun v h0 h1 => by have := HT.out.bound v h0 h1; unfold farI at this; omega)).mono ?_
        rintro e w6 ⟨rfl, hb6⟩
        have hmd6 := hmd.below hb6
        obtain ⟨v0, e0⟩ := hmd6.1.cell (i := k) hlt
        have z0 := hmd6.1.frozen k
        have hbb := hb.trans hb6
        go_wp2
        go_roundw
        case rel => exact ⟨k + 1, by omega, by go_num, Below.setCell hbb (by simp) _, hmd6.next HF.out hlt⟩
        case measure => simp [intOf]; omega
      · obtain rfl : M = k := by omega
        have hrow : RowI wr W.heap.size (treeM M xs (S : Int)) := hmd.row (treeM_length M xs (S : Int))
        go_wp2
        go_ret
        exact ⟨_, rfl, by rw [treeTI, HB.out, if_pos rfl, Int.toNat_natCast]; exact hrow.res (treeM_length M xs (S : Int)) hpW.size (by omega), hpW.trans hb⟩
theorem implNearTree_any (m : Int) (g n c : Nat) (xs : List ArcD) (s : Int) (w : World) (hn : n ≤ 1048576) (hnx : xs.length = n) (hx : ArcsAt w (some ⟨g, 0, none⟩) xs) :
    Calls Try.prog 85 #[.agg #[.int .i64 m, .slice (some ⟨g, 0, none⟩) n c], .int .i64 s] w (Gives w (treeTI m xs s)) :=
  implNearTree_all m _ n c xs s w hn hnx hx (.inr ⟨_, _, rfl⟩)

end Go.Proofs.Ytaojognjkiifmaa

namespace Go.Proofs.Ytaojognjkiifmaa
open Go.RowKit

/-- The best way, of a net and two nodes that are there, and whether there is one. -/
def hereB2 (m : Int) (xs : List ArcD) (a b : Int) : Bool := hereB m xs a && inB b 0 (m - 1)
def nearWI (m : Int) (xs : List ArcD) (a b : Int) : List Int := if hereB2 m xs a b then wayM m.toNat xs a b else []
def nearWB (m : Int) (xs : List ArcD) (a b : Int) : Bool := hereB2 m xs a b && !(farB m.toNat xs b a)
theorem wayM_len {m : Nat} {xs : List ArcD} {a b : Int} (hx : ArcsIn m xs) (ha : 0 ≤ a ∧ a < m) (hb : 0 ≤ b ∧ b < m) (hm : m ≤ 8) : (wayM m xs a b).length ≤ 7 := by
  unfold wayM
  split
  · simp
  · rename_i h
    exact (treeL_of hx hb (by omega)).way_few a ha.1 ha.2 (by simpa [farB] using h)
theorem hereB2_iff (m : Int) (xs : List ArcD) (a b : Int) : hereB2 m xs a b = true ↔ netB m xs = true ∧ (0 ≤ a ∧ a < m) ∧ 0 ≤ b ∧ b < m := by
  simp only [hereB2, Bool.and_eq_true, hereB_iff, inB_iff]
  constructor
  · rintro ⟨⟨h1, h2, h3⟩, h4, h5⟩; exact ⟨h1, ⟨h2, h3⟩, h4, by omega⟩
  · rintro ⟨h1, ⟨h2, h3⟩, h4, h5⟩; exact ⟨⟨h1, h2, h3⟩, h4, by omega⟩
theorem nearWI_len (m : Int) (xs : List ArcD) (a b : Int) : (nearWI m xs a b).length ≤ 1048576 := by
  unfold nearWI
  split
  · rename_i h
    obtain ⟨h1, h2, h3⟩ := (hereB2_iff _ _ _ _).1 h
    obtain ⟨M, e, _, h8⟩ := here_nat h1
    subst e
    have := wayM_len (arcsIn_net h1) h2 h3 h8
    simp only [Int.toNat_natCast]
    omega
  · simp

end Go.Proofs.Ytaojognjkiifmaa

namespace Go.Proofs.Ytaojognjkiifmaa
open Go.RowKit

theorem numOf_take {ys : List Int} {k j : Nat} (h : j < k) : numOf (ys.take k) j = numOf ys j := by simp only [numOf, List.getD_eq_getElem?_getD]; rw [List.getElem?_take_of_lt h]
theorem numOf_drop {ys : List Int} {k j : Nat} : numOf (ys.drop k) j = numOf ys (k + j) := by simp only [numOf, List.getD_eq_getElem?_getD]; rw [List.getElem?_drop]

theorem ok_take {m : Int} {xs : List ArcD} {ys : List Int} (h : okB m xs ys = true) (k : Nat) : okB m xs (ys.take k) = true := by
  obtain ⟨hn, hw⟩ := (okB_iff m xs ys).1 h
  obtain ⟨hl, hs⟩ := (walkB_iff xs ys).1 hw
  refine (okB_iff m xs _).2 ⟨hn, (walkB_iff xs _).2 ⟨by rw [List.length_take]; omega, fun j hj => ?_⟩⟩
  rw [List.length_take] at hj
  have := hs j (by omega)
  unfold stepB at this ⊢
  rw [numOf_take (by omega), numOf_take (by omega)]
  exact this

theorem ok_drop {m : Int} {xs : List ArcD} {ys : List Int} (h : okB m xs ys = true) (k : Nat) : okB m xs (ys.drop k) = true := by
  obtain ⟨hn, hw⟩ := (okB_iff m xs ys).1 h
  obtain ⟨hl, hs⟩ := (walkB_iff xs ys).1 hw
  refine (okB_iff m xs _).2 ⟨hn, (walkB_iff xs _).2 ⟨by rw [List.length_drop]; omega, fun j hj => ?_⟩⟩
  rw [List.length_drop] at hj
  have := hs (k + j) (by omega)
  unfold stepB at this ⊢
  rw [numOf_drop]
  by_cases h0 : j = 0
  · subst h0
    simp only [Bool.and_eq_true] at this ⊢
    exact ⟨this.1, rfl⟩
  · rw [numOf_drop, show k + (j - 1) = k + j - 1 by omega]
    simp only [Bool.and_eq_true, Bool.or_eq_true, beq_iff_eq] at this ⊢
    refine ⟨this.1, .inr ?_⟩
    rcases this.2 with h1 | h1
    · omega
    · exact h1

end Go.Proofs.Ytaojognjkiifmaa

namespace Go.Proofs.Ytaojognjkiifmaa
open Go.RowKit

theorem sumTo_take (xs : List ArcD) (ys : List Int) (K : Nat) : ∀ k, k ≤ K → sumTo xs (ys.take K) k = sumTo xs ys k
  | 0, _ => rfl
  | k + 1, hk => by rw [sumTo, sumTo, sumTo_take xs ys K k (by omega), numOf_take (by omega)]

theorem sumTo_drop (xs : List ArcD) (ys : List Int) (K : Nat) : ∀ k, sumTo xs ys K + sumTo xs (ys.drop K) k = sumTo xs ys (K + k)
  | 0 => by simp [sumTo]
  | k + 1 => by
    have := sumTo_drop xs ys K k
    rw [sumTo, numOf_drop, ← Int.add_assoc, this]
    rfl

theorem cost_cut {m : Int} {xs : List ArcD} {ys : List Int} (h : okB m xs ys = true) {K : Nat} (hK : K ≤ ys.length) : costI m xs (ys.take K) + costI m xs (ys.drop K) = costI m xs ys := by
  have ht : (ys.take K).length = K := by rw [List.length_take]; omega
  rw [costI, if_pos (ok_take h K), costI, if_pos (ok_drop h K), costI, if_pos h, ht, List.length_drop, sumTo_take _ _ _ _ (Nat.le_refl K), sumTo_drop, show K + (ys.length - K) = ys.length by omega]

theorem cost_bd {m : Int} {xs : List ArcD} {ys : List Int} (h : okB m xs ys = true) : 0 ≤ costI m xs ys ∧ costI m xs ys ≤ 1980 := by
  rw [costI, if_pos h]
  have := sumTo_bd h ys.length (Nat.le_refl _)
  have := ok_len h
  omega

end Go.Proofs.Ytaojognjkiifmaa

namespace Go.Proofs.Ytaojognjkiifmaa
open Go.RowKit

/-- Where a walk begins, and the ends of its first k arcs. -/
def nodesTo (xs : List ArcD) (ys : List Int) (from_ : Int) (k : Nat) : List Int := from_ :: (List.range k).map fun i => (arcOf xs (numOf ys i)).t
theorem nodesTo_length (xs : List ArcD) (ys : List Int) (f : Int) (k : Nat) : (nodesTo xs ys f k).length = k + 1 := by simp [nodesTo]
theorem nodesTo_next (xs : List ArcD) (ys : List Int) (f : Int) (k : Nat) : nodesTo xs ys f (k + 1) = nodesTo xs ys f k ++ [(arcOf xs (numOf ys k)).t] := by simp [nodesTo, List.range_succ]


end Go.Proofs.Ytaojognjkiifmaa

namespace Go.Proofs.Ytaojognjkiifmaa
open Go.RowKit

/-- The nodes of a walk that has an arc. -/
def nodesW (xs : List ArcD) (ys : List Int) : List Int := if ys.length = 0 then [] else nodesTo xs ys (arcOf xs (numOf ys 0)).f ys.length
def nodesI (m : Int) (xs : List ArcD) (ys : List Int) : List Int := if okB m xs ys then nodesW xs ys else []

theorem nodesI_len (m : Int) (xs : List ArcD) (ys : List Int) : (nodesI m xs ys).length ≤ 1048576 := by
  unfold nodesI
  split
  · rename_i h
    have := ok_len h
    unfold nodesW
    split
    · simp
    · rw [nodesTo_length]; omega
  · simp

end Go.Proofs.Ytaojognjkiifmaa

namespace Go.Proofs.Ytaojognjkiifmaa
open Go.RowKit

/-- i is where x stands last in a list. -/
def IsLast (nd : List Int) (x : Int) (i : Nat) : Prop := nd[i]? = some x ∧ ∀ j, i < j → nd[j]? ≠ some x

/-- Where x stands last among the first k + 1. -/
def lastFrom (nd : List Int) (x : Int) : Nat → Nat
  | 0 => 0
  | k + 1 => if nd[k + 1]? = some x then k + 1 else lastFrom nd x k
def lastIx (nd : List Int) (x : Int) : Nat := lastFrom nd x nd.length

theorem lastFrom_eq {nd : List Int} {x : Int} {i : Nat} (h : IsLast nd x i) : ∀ k, i ≤ k → lastFrom nd x k = i
  | 0, hk => by simp [lastFrom]; omega
  | k + 1, hk => by
    unfold lastFrom
    split
    · rename_i h1
      rcases Nat.lt_or_ge i (k + 1) with hlt | hge
      · exact absurd h1 (h.2 _ hlt)
      · omega
    · rename_i h1
      have : i ≠ k + 1 := fun e => by subst e; exact h1 h.1
      exact lastFrom_eq h k (by omega)
theorem lastIx_eq {nd : List Int} {x : Int} {i : Nat} (h : IsLast nd x i) : lastIx nd x = i :=
  lastFrom_eq h _ (Nat.le_of_lt (List.getElem?_eq_some_iff.1 h.1).1)

theorem lastFrom_spec {nd : List Int} {x : Int} {s : Nat} (hs : nd[s]? = some x) : ∀ k, s ≤ k → (∀ j, k < j → nd[j]? ≠ some x) → IsLast nd x (lastFrom nd x k) ∧ s ≤ lastFrom nd x k
  | 0, hk, h => by
    obtain rfl : s = 0 := by omega
    exact ⟨⟨hs, h⟩, Nat.le_refl _⟩
  | k + 1, hk, h => by
    unfold lastFrom
    split
    · rename_i h1
      exact ⟨⟨h1, h⟩, hk⟩
    · rename_i h1
      have hne : s ≠ k + 1 := fun e => by subst e; exact h1 hs
      refine lastFrom_spec hs k (by omega) (fun j hj => ?_)
      rcases Nat.lt_or_ge (k + 1) j with hlt | hge
      · exact h j hlt
      · obtain rfl : j = k + 1 := by omega
        exact h1
theorem lastIx_spec {nd : List Int} {x : Int} {s : Nat} (hs : nd[s]? = some x) : IsLast nd x (lastIx nd x) ∧ s ≤ lastIx nd x :=
  lastFrom_spec hs _ (Nat.le_of_lt (List.getElem?_eq_some_iff.1 hs).1) (fun j hj => by rw [List.getElem?_eq_none (by omega)]; simp)

/-- What is left of a walk from node s on. -/
def plainFrom (nd ys : List Int) : Nat → Nat → List Int
  | 0, _ => []
  | fuel + 1, s => if lastIx nd (numOf nd s) < ys.length then numOf ys (lastIx nd (numOf nd s)) :: plainFrom nd ys fuel (lastIx nd (numOf nd s) + 1) else []

def plainW (xs : List ArcD) (ys : List Int) : List Int := plainFrom (nodesW xs ys) ys (ys.length + 1) 0
def plainI (m : Int) (xs : List ArcD) (ys : List Int) : List Int := if okB m xs ys then (if ys.length = 0 then [] else plainW xs ys) else []

theorem nodesW_length {xs : List ArcD} {ys : List Int} (h : ys.length ≠ 0) : (nodesW xs ys).length = ys.length + 1 := by rw [nodesW, if_neg h, nodesTo_length]
theorem nodesW_to {xs : List ArcD} {ys : List Int} {k : Nat} (hk : k < ys.length) : (nodesW xs ys)[k + 1]? = some (arcOf xs (numOf ys k)).t := by
  rw [nodesW, if_neg (by omega)]
  simp [nodesTo, hk]
theorem nodesW_from {m : Int} {xs : List ArcD} {ys : List Int} {k : Nat} (ho : okB m xs ys = true) (hk : k < ys.length) : (nodesW xs ys)[k]? = some (arcOf xs (numOf ys k)).f := by
  cases k with
  | zero => rw [nodesW, if_neg (by omega)]; simp [nodesTo]
  | succ k =>
    rw [nodesW_to (by omega)]
    have h := ((walkB_iff _ _).1 ((okB_iff _ _ _).1 ho).2).2 (k + 1) hk
    simp [stepB] at h
    rw [h.2]

theorem numOf_at {zs : List Int} {k : Nat} {x : Int} (h : zs[k]? = some x) : numOf zs k = x := by simp [numOf, List.getD_eq_getElem?_getD, h]
theorem at_numOf {zs : List Int} {k : Nat} (h : k < zs.length) : zs[k]? = some (numOf zs k) := by simp [numOf, List.getD_eq_getElem?_getD, List.getElem?_eq_getElem h]

theorem plainFrom_len (nd ys : List Int) : ∀ fuel s, (plainFrom nd ys fuel s).length ≤ fuel
  | 0, _ => by simp [plainFrom]
  | fuel + 1, s => by
    unfold plainFrom
    split
    · simp only [List.length_cons]
      have := plainFrom_len nd ys fuel (lastIx nd (numOf nd s) + 1)
      omega
    · simp
theorem plainI_len (m : Int) (xs : List ArcD) (ys : List Int) : (plainI m xs ys).length ≤ 1048576 := by
  unfold plainI
  split
  · rename_i h
    have := ok_len h
    split
    · simp
    · have := plainFrom_len (nodesW xs ys) ys (ys.length + 1) 0
      unfold plainW
      omega
  · simp

/-- What was kept so far, and what is still to come from node s on, are the whole. -/
structure PlainAt (nd ys tot done : List Int) (s fuel : Nat) : Prop where
  whole : done ++ plainFrom nd ys fuel s = tot
  enough : ys.length + 1 ≤ fuel + s
  inside : s ≤ ys.length

theorem PlainAt.next {nd ys tot done : List Int} {s fuel i : Nat} (h : PlainAt nd ys tot done s fuel) (hi : IsLast nd (numOf nd s) i) (hs : s ≤ i) (hlt : i < ys.length) : ∃ fuel', PlainAt nd ys tot (done ++ [numOf ys i]) (i + 1) fuel' := by
  obtain ⟨h1, h2, h3⟩ := h
  cases fuel with
  | zero => omega
  | succ fuel =>
    refine ⟨fuel, ?_, by omega, by omega⟩
    rw [← h1]
    conv => rhs; unfold plainFrom
    rw [lastIx_eq hi, if_pos hlt]
    simp
theorem PlainAt.stop {nd ys tot done : List Int} {s fuel i : Nat} (h : PlainAt nd ys tot done s fuel) (hi : IsLast nd (numOf nd s) i) (hge : ys.length ≤ i) : done = tot := by
  obtain ⟨h1, h2, h3⟩ := h
  cases fuel with
  | zero => omega
  | succ fuel =>
    rw [← h1]
    unfold plainFrom
    rw [lastIx_eq hi, if_neg (by omega)]
    simp
theorem PlainAt.len {nd ys tot done : List Int} {s fuel : Nat} (h : PlainAt nd ys tot done s fuel) : done.length ≤ tot.length := by rw [← h.whole]; simp

end Go.Proofs.Ytaojognjkiifmaa

namespace Go.Proofs.Ytaojognjkiifmaa
open Go.RowKit

def toOf (xs : List ArcD) (y : Int) : Int := (arcOf xs y).t
def inArc (xs : List ArcD) (y : Int) : Bool := inB y 0 ((xs.length : Int) - 1)

/-- Arcs one behind the other, the first from the node x. -/
def Chain (xs : List ArcD) : Int → List Int → Prop
  | _, [] => True
  | x, y :: ys => inArc xs y = true ∧ (arcOf xs y).f = x ∧ Chain xs (toOf xs y) ys

theorem numOf_zero (y : Int) (ys : List Int) : numOf (y :: ys) 0 = y := by simp [numOf]
theorem numOf_succ (y : Int) (ys : List Int) (k : Nat) : numOf (y :: ys) (k + 1) = numOf ys k := by simp [numOf]

theorem Chain.step {xs : List ArcD} : ∀ {ys : List Int} {x : Int}, Chain xs x ys → ∀ k, k < ys.length → stepB xs ys k = true
  | [], _, _, k, hk => by simp at hk
  | y :: ys, x, h, k, hk => by
    obtain ⟨h1, h2, h3⟩ := h
    unfold inArc at h1
    cases k with
    | zero => unfold stepB; rw [numOf_zero, h1]; simp
    | succ k =>
      have ih := Chain.step h3 k (by simpa using hk)
      cases k with
      | zero =>
        cases ys with
        | nil => simp at hk
        | cons z zs =>
          obtain ⟨g1, g2, g3⟩ := h3
          unfold inArc at g1
          unfold stepB
          rw [numOf_succ, numOf_zero, show (0 + 1 - 1) = 0 by omega, numOf_zero, g1, g2]
          simp [toOf]
      | succ k =>
        unfold stepB at ih ⊢
        rw [numOf_succ, show (k + 1 + 1 - 1) = k + 1 by omega, numOf_succ]
        simp at ih ⊢
        exact ih

theorem nodesW_map (xs : List ArcD) (ys : List Int) (h : ys.length ≠ 0) : nodesW xs ys = (arcOf xs (numOf ys 0)).f :: ys.map (toOf xs) := by
  rw [nodesW, if_neg h, nodesTo]
  congr 1
  apply List.ext_getElem?
  intro k
  by_cases hk : k < ys.length
  · simp [hk, numOf, toOf]
  · simp [hk]

def costL (xs : List ArcD) (ys : List Int) : Int := (ys.map fun y => (arcOf xs y).c).sum

theorem sumTo_costL (xs : List ArcD) : ∀ (ys : List Int) (k : Nat), sumTo xs ys k = costL xs (ys.take k) ∨ ys.length < k := by
  intro ys k
  induction k with
  | zero => left; simp [sumTo, costL]
  | succ k ih =>
    by_cases hk : k < ys.length
    · left
      rcases ih with ih | ih
      · rw [sumTo, ih, List.take_add_one, List.getElem?_eq_getElem hk, numOf_at (List.getElem?_eq_getElem hk)]
        simp only [costL, Option.toList_some, List.map_append, List.map_cons, List.map_nil, List.sum_append, List.sum_cons, List.sum_nil, Int.add_zero]
      · omega
    · right; omega

theorem sumTo_all (xs : List ArcD) (ys : List Int) : sumTo xs ys ys.length = costL xs ys := by
  rcases sumTo_costL xs ys ys.length with h | h
  · rw [h, List.take_length]
  · omega

theorem costL_sub {xs : List ArcD} {p ys : List Int} (h : p.Sublist ys) (hp : ∀ y ∈ ys, 0 ≤ (arcOf xs y).c) : costL xs p ≤ costL xs ys := by
  induction h with
  | slnil => exact Int.le_refl _
  | cons a _ ih =>
    have := ih (fun y hy => hp y (List.mem_cons_of_mem _ hy))
    have := hp a List.mem_cons_self
    simp only [costL, List.map_cons, List.sum_cons] at *
    omega
  | cons_cons a _ ih =>
    have := ih (fun y hy => hp y (List.mem_cons_of_mem _ hy))
    simp only [costL, List.map_cons, List.sum_cons] at *
    omega

/-- What plainFrom keeps. -/
structure Kept (xs : List ArcD) (nd ys p : List Int) (s : Nat) : Prop where
  chain : Chain xs (numOf nd s) p
  sub : p.Sublist (ys.drop s)
  late : ∀ z ∈ numOf nd s :: p.map (toOf xs), ∃ j, s ≤ j ∧ nd[j]? = some z
  nodup : (numOf nd s :: p.map (toOf xs)).Nodup
  last : (numOf nd s :: p.map (toOf xs)).getLast? = some (numOf nd ys.length)

theorem kept {m : Int} {xs : List ArcD} {ys : List Int} (ho : okB m xs ys = true) (h0 : ys.length ≠ 0) : ∀ fuel s, s ≤ ys.length → ys.length + 1 ≤ fuel + s → Kept xs (nodesW xs ys) ys (plainFrom (nodesW xs ys) ys fuel s) s
  | 0, s, h1, h2 => by omega
  | fuel + 1, s, h1, h2 => by
    have hlen := nodesW_length (xs := xs) h0
    have hs := at_numOf (zs := nodesW xs ys) (k := s) (by omega)
    obtain ⟨hl, hsi⟩ := lastIx_spec hs
    obtain ⟨i, hi⟩ : ∃ i, i = lastIx (nodesW xs ys) (numOf (nodesW xs ys) s) := ⟨_, rfl⟩
    rw [← hi] at hl hsi
    unfold plainFrom
    rw [← hi]
    have hiL : i < (nodesW xs ys).length := (List.getElem?_eq_some_iff.1 hl.1).1
    by_cases hlt : i < ys.length
    · rw [if_pos hlt]
      have ih := kept ho h0 fuel (i + 1) (by omega) (by omega)
      have hto : toOf xs (numOf ys i) = numOf (nodesW xs ys) (i + 1) := (numOf_at (nodesW_to hlt)).symm
      have hfr : (arcOf xs (numOf ys i)).f = numOf (nodesW xs ys) s := by
        have h1 := nodesW_from ho hlt
        rw [hl.1] at h1
        injection h1 with h1
        exact h1.symm
      have hin : inArc xs (numOf ys i) = true := by
        have h := ((walkB_iff _ _).1 ((okB_iff _ _ _).1 ho).2).2 i hlt
        unfold stepB at h
        simp only [Bool.and_eq_true] at h
        exact h.1
      have hne : ∀ z ∈ numOf (nodesW xs ys) (i + 1) :: (plainFrom (nodesW xs ys) ys fuel (i + 1)).map (toOf xs), z ≠ numOf (nodesW xs ys) s := by
        intro z hz e
        obtain ⟨j, hj, hjz⟩ := ih.late z hz
        exact hl.2 j (by omega) (by rw [hjz, e])
      refine ⟨⟨hin, hfr, by rw [hto]; exact ih.chain⟩, ?_, ?_, ?_, ?_⟩
      · have e : ys.drop i = numOf ys i :: ys.drop (i + 1) := by
          rw [List.drop_eq_getElem_cons hlt]
          congr 1
          simp [numOf, hlt]
        have h3 : (numOf ys i :: plainFrom (nodesW xs ys) ys fuel (i + 1)).Sublist (ys.drop i) := by rw [e]; exact ih.sub.cons_cons _
        refine h3.trans ?_
        rw [show i = s + (i - s) by omega, ← List.drop_drop]
        exact List.drop_sublist _ _
      · intro z hz
        rcases List.mem_cons.1 hz with rfl | hz
        · exact ⟨s, Nat.le_refl _, hs⟩
        · rw [List.map_cons, hto] at hz
          obtain ⟨j, hj, e⟩ := ih.late z hz
          exact ⟨j, by omega, e⟩
      · rw [List.map_cons, hto]
        exact List.nodup_cons.2 ⟨fun h => hne _ h rfl, ih.nodup⟩
      · rw [List.map_cons, hto, List.getLast?_cons_cons]
        exact ih.last
    · rw [if_neg hlt]
      obtain rfl : i = ys.length := by omega
      refine ⟨trivial, List.nil_sublist _, ?_, by simp, ?_⟩
      · intro z hz
        simp at hz
        subst hz
        exact ⟨s, Nat.le_refl _, hs⟩
      · simp
        exact (numOf_at hl.1).symm

theorem plainFrom_self {nd p : List Int} (hn : nd.Nodup) (hl : nd.length = p.length + 1) : ∀ fuel s, s ≤ p.length → p.length + 1 ≤ fuel + s → plainFrom nd p fuel s = p.drop s
  | 0, s, h1, h2 => by omega
  | fuel + 1, s, h1, h2 => by
    have hs := at_numOf (zs := nd) (k := s) (by omega)
    have hlast : IsLast nd (numOf nd s) s := ⟨hs, fun j hj e => by
      have := (List.getElem?_inj (i := s) (j := j) (by omega) hn).1 (hs.trans e.symm)
      omega⟩
    unfold plainFrom
    rw [lastIx_eq hlast]
    split
    · rename_i h
      rw [plainFrom_self hn hl fuel (s + 1) (by omega) (by omega), List.drop_eq_getElem_cons h]
      congr 1
      simp [numOf, h]
    · rw [List.drop_eq_nil_of_le (by omega)]

/-- What is said of a walk without its rings. -/
structure Plains (m : Int) (xs : List ArcD) (ys p : List Int) : Prop where
  ok : okB m xs p = true
  nodup : (nodesI m xs p).Nodup
  len : (nodesI m xs p).length = p.length + 1
  first : (nodesI m xs p)[0]? = (nodesI m xs ys)[0]?
  last : (nodesI m xs p)[p.length]? = (nodesI m xs ys)[ys.length]?
  cost : costI m xs p ≤ costI m xs ys
  self : plainI m xs p = p

theorem plains {m : Int} {xs : List ArcD} {ys : List Int} (ho : okB m xs ys = true) (hp : (plainI m xs ys).length ≠ 0) : ys.length ≠ 0 ∧ Plains m xs ys (plainI m xs ys) := by
  by_cases h0 : ys.length = 0
  · simp [plainI, ho, h0] at hp
  refine ⟨h0, ?_⟩
  have hk := kept ho h0 (ys.length + 1) 0 (by omega) (by omega)
  have hP : plainI m xs ys = plainFrom (nodesW xs ys) ys (ys.length + 1) 0 := by rw [plainI, if_pos ho, if_neg h0, plainW]
  rw [← hP] at hk
  generalize plainI m xs ys = p at *
  obtain ⟨hch, hsub, _, hnd, hla⟩ := hk
  rw [List.drop_zero] at hsub
  have h20 := ok_len ho
  have hokp : okB m xs p = true := (okB_iff _ _ _).2 ⟨((okB_iff _ _ _).1 ho).1, (walkB_iff _ _).2 ⟨by have := hsub.length_le; omega, hch.step⟩⟩
  have hfr : (arcOf xs (numOf p 0)).f = numOf (nodesW xs ys) 0 := by
    cases p with
    | nil => simp at hp
    | cons y q => rw [numOf_zero]; exact hch.2.1
  have hno : nodesI m xs p = numOf (nodesW xs ys) 0 :: p.map (toOf xs) := by rw [nodesI, if_pos hokp, nodesW_map xs p hp, hfr]
  have hny : nodesI m xs ys = nodesW xs ys := by rw [nodesI, if_pos ho]
  have hnl := nodesW_length (xs := xs) h0
  refine ⟨hokp, by rw [hno]; exact hnd, by rw [hno]; simp, ?_, ?_, ?_, ?_⟩
  · rw [hno, hny, at_numOf (zs := nodesW xs ys) (k := 0) (by omega)]; rfl
  · rw [hno, hny, at_numOf (zs := nodesW xs ys) (k := ys.length) (by omega), ← hla, List.getLast?_eq_getElem?]
    simp
  · rw [costI, if_pos hokp, costI, if_pos ho, sumTo_all, sumTo_all]
    refine costL_sub hsub fun y hy => ?_
    obtain ⟨k, hk, rfl⟩ := List.mem_iff_getElem.1 hy
    obtain ⟨j, a, hya, hja, q0, _, he⟩ := ok_arc ho (List.getElem?_eq_getElem hk)
    rw [numOf_at (List.getElem?_eq_getElem hk)] at he
    rw [he]; exact q0
  · have hnw : nodesW xs p = numOf (nodesW xs ys) 0 :: p.map (toOf xs) := by rw [nodesW_map xs p hp, hfr]
    rw [plainI, if_pos hokp, if_neg hp, plainW, plainFrom_self (by rw [hnw]; exact hnd) (nodesW_length hp) _ _ (by omega) (by omega), List.drop_zero]

theorem plain_none {m : Int} {xs : List ArcD} {ys : List Int} (ho : okB m xs ys = true) (hp : (plainI m xs ys).length = 0) (h0 : ys.length ≠ 0) : (arcOf xs (numOf ys 0)).f = (arcOf xs (numOf ys (ys.length - 1))).t := by
  have hk := kept ho h0 (ys.length + 1) 0 (by omega) (by omega)
  have hP : plainI m xs ys = plainFrom (nodesW xs ys) ys (ys.length + 1) 0 := by rw [plainI, if_pos ho, if_neg h0, plainW]
  rw [← hP, List.eq_nil_of_length_eq_zero hp] at hk
  have h1 := hk.last
  simp at h1
  have e1 := numOf_at (nodesW_from ho (show 0 < ys.length by omega))
  have e2 := nodesW_to (xs := xs) (show ys.length - 1 < ys.length by omega)
  rw [show ys.length - 1 + 1 = ys.length by omega] at e2
  rw [← e1, h1, numOf_at e2]

end Go.Proofs.Ytaojognjkiifmaa

namespace Go.Proofs.Ytaojognjkiifmaa

theorem Way.one {xs : List ArcD} {a : ArcD} (ha : a ∈ xs) : Way xs a.f a.t a.c [a.f] := by
  have := Way.snoc (.nil : Way xs a.f a.f 0 []) ha rfl
  rw [Int.zero_add] at this
  exact this
theorem Way.back {xs : List ArcD} {s v c : Int} {l : List Int} (h : Way xs s v c l) : ∃ l', Way (xs.map flip) v s c l' := by
  induction h with
  | nil => exact ⟨_, .nil⟩
  | @snoc u c l a _ ha e ih =>
    obtain ⟨l', h'⟩ := ih
    subst e
    have h1 : Way (xs.map flip) a.t a.f a.c [a.t] := Way.one (a := flip a) (List.mem_map.2 ⟨a, ha, rfl⟩)
    obtain ⟨l2, h2⟩ := h1.join h'
    exact ⟨l2, by rw [Int.add_comm]; exact h2⟩
theorem flips_id (xs : List ArcD) : (xs.map flip).map flip = xs := by rw [List.map_map]; exact (List.map_congr_left fun _ _ => rfl).trans (List.map_id _)
theorem arcsIn_back {m : Int} {xs : List ArcD} (h : ArcsIn m xs) : ArcsIn m (xs.map flip) := fun a ha => by
  obtain ⟨b, hb, rfl⟩ := List.mem_map.1 ha
  have := h b hb
  simp only [flip]
  omega
theorem near_back {m : Nat} {xs : List ArcD} {s v : Int} (hm : m ≤ 17) (hx : ArcsIn m xs) (hs : 0 ≤ s ∧ s < m) (hv : 0 ≤ v ∧ v < m) : at_ (nearL m xs s) v = at_ (nearL m (xs.map flip) v) s := by
  have hy := arcsIn_back hx
  obtain ⟨a1, a2⟩ := (nearL_sound hx hs).2 v hv.1 hv.2
  obtain ⟨b1, b2⟩ := (nearL_sound hy hv).2 s hs.1 hs.2
  rcases a2 with a2 | ⟨l, a2⟩
  · rcases b2 with b2 | ⟨l', b2⟩
    · omega
    · obtain ⟨l2, h2⟩ := b2.back
      rw [flips_id] at h2
      have := nearL_le hm hx hs h2
      omega
  · obtain ⟨l2, h2⟩ := a2.back
    have h3 := nearL_le hm hy hv h2
    rcases b2 with b2 | ⟨l', b2⟩
    · omega
    · obtain ⟨l4, h4⟩ := b2.back
      rw [flips_id] at h4
      have := nearL_le hm hx hs h4
      omega

end Go.Proofs.Ytaojognjkiifmaa

namespace Go.Proofs.Ytaojognjkiifmaa

/-- What is known of the best way from a node. -/
structure Gone (xs : List ArcD) (L : List LenD) (s v : Int) (k : Nat) (ys : List Int) : Prop where
  chain : Chain xs v ys
  cost : costL xs ys = (lab L v).x0
  nodup : (v :: ys.map (toOf xs)).Nodup
  less : ∀ u ∈ ys.map (toOf xs), (lab L u).x1 < k
  last : ys ≠ [] → (arcOf xs (numOf ys (ys.length - 1))).t = s
  none : ys = [] → v = s

theorem TreeL.gone {m : Nat} {xs : List ArcD} {s : Int} {L : List LenD} (h : TreeL m xs s L) : ∀ (k : Nat) (v : Int), 0 ≤ v → v < m → lab L v ≠ farL → (lab L v).x1 = k → Gone xs L s v k (wayL xs L s v) := by
  intro k
  induction k with
  | zero =>
    intro v h0 h1 hf hk
    have hv : v = s := by
      by_cases e : v = s
      · exact e
      · obtain ⟨j, a, _, e2, _, _, e5, _⟩ := h.some v e hf h0 h1
        have hb := h.arcs a (List.mem_of_getElem? e2)
        have := h.bound a.t (by omega) (by omega)
        omega
    subst hv
    rw [h.wayL_to]
    exact ⟨trivial, by rw [h.lab_to]; rfl, by simp, fun u hu => by simp at hu, fun e => absurd rfl e, fun _ => rfl⟩
  | succ k ih =>
    intro v h0 h1 hf hk
    have hv : v ≠ s := fun e => by rw [e, h.lab_to] at hk; simp at hk; omega
    obtain ⟨j, a, e1, e2, _, e4, e5, e6, e7, _⟩ := h.some v hv hf h0 h1
    have hb := h.arcs a (List.mem_of_getElem? e2)
    have hj : j < xs.length := (List.getElem?_eq_some_iff.1 e2).1
    have ha : arcOf xs (j : Int) = a := by unfold arcOf; rw [Int.toNat_natCast, List.getD_eq_getElem?_getD, e2]; rfl
    have ht : toOf xs (j : Int) = a.t := by unfold toOf; rw [ha]
    have g := ih a.t (by omega) (by omega) e4 (by omega)
    rw [h.wayL_step hv e1 e2 e5]
    have hle : ∀ u ∈ a.t :: (wayL xs L s a.t).map (toOf xs), (lab L u).x1 < ((k + 1 : Nat) : Int) := fun u hu => by
      rcases List.mem_cons.1 hu with rfl | hu
      · omega
      · have := g.less u hu; omega
    refine ⟨⟨by unfold inArc; rw [inB_iff]; omega, by rw [ha]; exact e7, by rw [ht]; exact g.chain⟩, ?_, ?_, ?_, fun _ => ?_, fun e => by cases e⟩
    · have hc := g.cost
      unfold costL at hc ⊢
      rw [List.map_cons, List.sum_cons, hc, ha, e6]
      omega
    · rw [List.map_cons, ht]
      refine List.nodup_cons.2 ⟨fun hm => ?_, g.nodup⟩
      have := hle v hm
      omega
    · rw [List.map_cons, ht]
      exact hle
    · cases hw : wayL xs L s a.t with
      | nil =>
        have := g.none hw
        simp [numOf, ha, this]
      | cons z zs =>
        have hl := g.last (by rw [hw]; simp)
        rw [hw] at hl
        rw [List.length_cons, show (z :: zs).length + 1 - 1 = ((z :: zs).length - 1) + 1 by simp, numOf_succ]
        exact hl

theorem plain_self {m : Int} {xs : List ArcD} {ys : List Int} (ho : okB m xs ys = true) (hn : ys ≠ [] → ((arcOf xs (numOf ys 0)).f :: ys.map (toOf xs)).Nodup) : plainI m xs ys = ys := by
  unfold plainI
  rw [if_pos ho]
  split
  · rename_i e
    exact (List.eq_nil_of_length_eq_zero e).symm
  · rename_i e
    unfold plainW
    rw [nodesW_map xs ys e]
    have := plainFrom_self (p := ys) (hn (fun e' => e (by rw [e']; rfl))) (by simp) (ys.length + 1) 0 (by omega) (by omega)
    simpa using this

/-- All that the law asks of a best way. -/
theorem near_gone {m : Int} {xs : List ArcD} {a b : Int} (h : nearWB m xs a b = true) : okB m xs (nearWI m xs a b) = true ∧ costI m xs (nearWI m xs a b) = at_ (nearI m xs a) b ∧ plainI m xs (nearWI m xs a b) = nearWI m xs a b ∧
    (nearWI m xs a b = [] → a = b) ∧ (nearWI m xs a b ≠ [] → (arcOf xs (numOf (nearWI m xs a b) 0)).f = a ∧ (arcOf xs (numOf (nearWI m xs a b) ((nearWI m xs a b).length - 1))).t = b) ∧ (nearWI m xs a b).length ≤ 20 ∧ (nearI m xs a).length = m.toNat ∧ 0 ≤ b ∧ b < m ∧ ∃ M : Nat, m = M := by
  rw [nearWB, Bool.and_eq_true] at h
  obtain ⟨hB, hF⟩ := h
  obtain ⟨hN, ha, hb⟩ := (hereB2_iff _ _ _ _).1 hB
  obtain ⟨M, rfl, h3, h8⟩ := here_nat hN
  rw [Int.toNat_natCast] at hF
  have hF : farB M xs b a = false := by simpa using hF
  have hT := treeL_of (arcsIn_net hN) hb (by omega)
  have hf : lab (labsOf M xs b) a ≠ farL := by simpa [farB] using hF
  have hw : nearWI (M : Int) xs a b = wayL xs (labsOf M xs b) b a := by rw [nearWI, hB, if_pos rfl, Int.toNat_natCast, wayM, hF, if_neg (by simp)]
  have hbd := hT.bound a ha.1 ha.2
  have g := hT.gone (lab (labsOf M xs b) a).x1.toNat a ha.1 ha.2 hf (by omega)
  have hfew := hT.way_few a ha.1 ha.2 hf
  have hhere : hereB (M : Int) xs a = true := (hereB_iff _ _ _).2 ⟨hN, ha⟩
  have hnear : nearI (M : Int) xs a = nearL M xs a := by rw [nearI, hhere, if_pos rfl, Int.toNat_natCast]
  rw [hw, hnear]
  generalize hys : wayL xs (labsOf M xs b) b a = ys at g hfew ⊢
  have hfirst : ys ≠ [] → (arcOf xs (numOf ys 0)).f = a := fun e => by
    cases ys with
    | nil => exact absurd rfl e
    | cons y ys => rw [numOf_zero]; exact g.chain.2.1
  have ho : okB (M : Int) xs ys = true := by
    unfold okB
    rw [hN, Bool.true_and, walkB_iff]
    exact ⟨by omega, fun k hk => g.chain.step k hk⟩
  refine ⟨ho, ?_, ?_, g.none, fun e => ⟨hfirst e, g.last e⟩, by omega, by rw [nearL_length, Int.toNat_natCast], hb.1, hb.2, M, rfl⟩
  · unfold costI
    rw [if_pos ho, sumTo_all, g.cost, ← hT.near_at a ha.1 ha.2]
    exact (near_back (by omega) (arcsIn_net hN) ha hb).symm
  · exact plain_self ho (fun e => by rw [hfirst e]; exact g.nodup)

end Go.Proofs.Ytaojognjkiifmaa

namespace Go.Proofs.Ytaojognjkiifmaa

/-- The best way over which so much may go, and whether there is one. -/
def lwayI (m : Int) (xs : List ArcD) (a b load : Int) : List Int := (nearWI (lnetN m xs load) (lnetL m xs load) a b).map fun y => at_ (strongL xs load) y
def lwayB (m : Int) (xs : List ArcD) (a b load : Int) : Bool := nearWB (lnetN m xs load) (lnetL m xs load) a b
theorem lway_net {m : Int} {xs : List ArcD} {a b load : Int} (h : lnetB m xs load = false) : lwayI m xs a b load = [] ∧ lwayB m xs a b load = false := by
  obtain ⟨h1, h2⟩ := lnet_no h
  have h0 : netB 0 [] = false := rfl
  simp [lwayI, lwayB, h1, h2, nearWI, nearWB, hereB2, hereB, h0]
theorem lway_here {m : Int} {xs : List ArcD} {a b load : Int} (h : hereB2 m xs a b = false) : lwayI m xs a b load = [] ∧ lwayB m xs a b load = false := by
  cases hL : lnetB m xs load with
  | false => exact lway_net hL
  | true =>
    obtain ⟨h1, h2⟩ := lnet_yes hL
    simp only [lnetB, Bool.and_eq_true] at hL
    have h3 : hereB2 m (forL xs load) a b = false := by
      have h0 := forL_net hL.1 load
      rw [hereB2, hereB, h0]
      rw [hereB2, hereB, hL.1] at h
      exact h
    simp [lwayI, lwayB, h1, h2, nearWI, nearWB, h3]
theorem lway_yes {M : Nat} {xs : List ArcD} {a b load : Int} (h : lnetB (M : Int) xs load = true) (h2 : hereB2 (M : Int) xs a b = true) :
    lwayI (M : Int) xs a b load = (wayM M (forL xs load) a b).map (fun y => at_ (strongL xs load) y) ∧ lwayB (M : Int) xs a b load = !(farB M (forL xs load) b a) := by
  obtain ⟨e1, e2⟩ := lnet_yes h
  simp only [lnetB, Bool.and_eq_true] at h
  have h3 : hereB2 (M : Int) (forL xs load) a b = true := by
    rw [hereB2, hereB, forL_net h.1 load]
    rw [hereB2, hereB, h.1] at h2
    exact h2
  constructor
  · rw [lwayI, e1, e2, nearWI, if_pos h3, Int.toNat_natCast]
  · rw [lwayB, e1, e2, nearWB, h3, Int.toNat_natCast, Bool.true_and]
theorem lwayI_len (m : Int) (xs : List ArcD) (a b load : Int) : (lwayI m xs a b load).length ≤ 1048576 := by
  rw [lwayI, List.length_map]
  exact nearWI_len _ _ _ _
/-- The arcs of a way are arcs of the net. -/
theorem wayM_arcs {M : Nat} {xs : List ArcD} {a b : Int} (hx : ArcsIn M xs) (ha : 0 ≤ a ∧ a < M) (hb : 0 ≤ b ∧ b < M) (hm : M ≤ 8) : ∀ y ∈ wayM M xs a b, 0 ≤ y ∧ y < xs.length := fun y hy => by
  unfold wayM at hy
  split at hy
  · simp at hy
  · rename_i h
    have hT := treeL_of hx hb hm
    have hf : lab (labsOf M xs b) a ≠ farL := by simpa [farB] using h
    have hbd := hT.bound a ha.1 ha.2
    have g := hT.gone (lab (labsOf M xs b) a).x1.toNat a ha.1 ha.2 hf (by omega)
    obtain ⟨k, hk⟩ := List.getElem?_of_mem hy
    have hkl := (List.getElem?_eq_some_iff.1 hk).1
    have hst := g.chain.step k hkl
    have e : numOf (wayL xs (labsOf M xs b) b a) k = y := by simp [numOf, List.getD_eq_getElem?_getD, hk]
    simp only [stepB, Bool.and_eq_true, inB_iff] at hst
    rw [e] at hst
    omega

theorem strongL_get {xs : List ArcD} {load : Int} {y : Int} (h0 : 0 ≤ y) (h1 : y < (forL xs load).length) : (strongL xs load)[y.toNat]? = some (at_ (strongL xs load) y) ∧ y < (strongL xs load).length := by
  have h := strong_pick xs load
  have hl : (forL xs load).length ≤ (strongL xs load).length := by rw [← h]; exact pickA_len _ _
  have h2 : y.toNat < (strongL xs load).length := by omega
  have e := getElem_at (strongL xs load) y.toNat h2
  rw [show ((y.toNat : Nat) : Int) = y by omega] at e
  exact ⟨e, by omega⟩

end Go.Proofs.Ytaojognjkiifmaa

namespace Go.Proofs.Ytaojognjkiifmaa
open Go.RowKit

set_option maxRecDepth 100000 in
set_option maxHeartbeats 4000000 in
theorem specLoadWalk_any (m : Int) (A : Option Addr) (n c : Nat) (xs : List ArcD) (a b load : Int) (w : World) (hn : n ≤ 1048576) (hnx : xs.length = n) (hx : ArcsAt w A xs) :
    Calls Try.prog 52 #[.agg #[.int .i64 m, .slice A n c], .int .i64 a, .int .i64 b, .int .i64 load] w (GivesB w (lwayI m xs a b load) (lwayB m xs a b load)) := by
  have HX := Lib.hid hnx
  clear hnx
  obtain ⟨i0, hi, hz0, hz1, hz2⟩ := info_parts infoInt
  have hb0 : Past w (w.alloc (.cells #[.int .i64 m, .slice A n c] 32)) := (Past.refl _).alloc _
  go_enter Try.func52, Try.ntmps52
  go_wp2_with fail
  refine (l1Ok_any m A n c xs _ hn HX.out (hx.below hb0)).mono ?_
  rintro e W ⟨rfl, hb1⟩
  have b0 := cell_in (p := ⟨w.heap.size, 0, none⟩) (v := .int .i64 m) hb1 (by go_simp)
  have b1 := cell_in (p := ⟨w.heap.size, 1, none⟩) (v := .slice A n c) hb1 (by go_simp)
  have hxW := (hx.below hb0).below hb1
  have hpW := hb0.trans hb1
  clear hb0 hb1
  have no : ∀ (h : lwayI m xs a b load = [] ∧ lwayB m xs a b load = false), GivesB w (lwayI m xs a b load) (lwayB m xs a b load) (.returned (.tuple #[.slice none 0 0, .bool false])) W := fun h => ⟨_, by rw [h.2], by rw [h.1]; exact Res.nil _ _, hpW⟩
  have NO := Lib.hid no
  clear no
  cases hB : netB m xs with
  | false =>
    have HV : Hid (lwayI m xs a b load = [] ∧ lwayB m xs a b load = false) := lway_net (by rw [lnetB, hB]; rfl)
    clear hB
    go_wp2
    exact bodyPost_ret (v := .tuple #[.slice none 0 0, .bool false]) (by simp [results, Try.results52, go_sem]) rfl (NO.out HV.out)
  | true =>
  obtain ⟨M, rfl, h1, h8⟩ := here_nat hB
  have HB := Lib.hid hB
  clear hB
  go_wp2_with fail
  refine (l1In_any _ _ _ _).mono ?_
  rintro e w2 ⟨rfl, rfl⟩
  cases hI : inB a 0 ((M : Int) - 1) with
  | false =>
    have HV : Hid (lwayI (M : Int) xs a b load = [] ∧ lwayB (M : Int) xs a b load = false) := lway_here (by rw [hereB2, hereB, hI]; simp)
    clear hI
    go_wp2
    exact bodyPost_ret (v := .tuple #[.slice none 0 0, .bool false]) (by simp [results, Try.results52, go_sem]) rfl (NO.out HV.out)
  | true =>
  have HI := Lib.hid hI
  clear hI
  go_wp2_with fail
  refine (l1In_any _ _ _ _).mono ?_
  rintro e w3 ⟨rfl, rfl⟩
  cases hJ : inB b 0 ((M : Int) - 1) with
  | false =>
    have HV : Hid (lwayI (M : Int) xs a b load = [] ∧ lwayB (M : Int) xs a b load = false) := lway_here (by rw [hereB2, hJ]; simp)
    clear hJ
    go_wp2
    exact bodyPost_ret (v := .tuple #[.slice none 0 0, .bool false]) (by simp [results, Try.results52, go_sem]) rfl (NO.out HV.out)
  | true =>
  have HJ := Lib.hid hJ
  clear hJ
  go_wp2_with fail
  refine (l1In_any _ _ _ _).mono ?_
  rintro e w4 ⟨rfl, rfl⟩
  cases hL : inB load 0 9 with
  | false =>
    have HV : Hid (lwayI (M : Int) xs a b load = [] ∧ lwayB (M : Int) xs a b load = false) := lway_net (by rw [lnetB, hL]; simp)
    clear hL
    go_wp2
    exact bodyPost_ret (v := .tuple #[.slice none 0 0, .bool false]) (by simp [results, Try.results52, go_sem]) rfl (NO.out HV.out)
  | true =>
  have hnb : lnetB (M : Int) xs load = true := by rw [lnetB, HB.out, hL]; rfl
  have hab : hereB2 (M : Int) xs a b = true := by rw [hereB2, hereB, HB.out, HI.out, HJ.out]; rfl
  have hy := lway_yes hnb hab
  have ha := (inB_iff _ _ _).1 HI.out
  have hbb := (inB_iff _ _ _).1 HJ.out
  have HY := Lib.hid hy
  have h16 : n ≤ 16 := by rw [← HX.out]; exact ((netB_iff _ _).1 HB.out).2.1
  clear hL hnb hab hy
  have hr0 := Res.empty_new W
  have hp0 : Past W (W.alloc (.cells #[] 3)) := (Past.refl W).alloc _
  go_wp2
  go_loopw [10, 11] (fun v i wr => ∃ k : Nat, k ≤ n ∧ i = .int .i64 k ∧ Res wr W.heap.size v (numsTo xs load k) ∧ Past W wr) (fun _ i _ => n - (intOf i).toNat)
  case atStart => exact ⟨0, by omega, rfl, by simpa [numsTo] using hr0, hp0⟩
  case round =>
    obtain ⟨k, hk, rfl, hv, hb⟩ := hrel
    have b0r := cell_in hb b0
    have b1r := cell_in hb b1
    by_cases hlt : k < n
    · obtain ⟨⟨f, t, c', l, d⟩, ha'⟩ : ∃ a, xs[k]? = some a := ⟨_, List.getElem?_eq_getElem (by have := HX.out; omega)⟩
      obtain ⟨g, o, rfl, c0, c1, c2, c3, c4⟩ := (hxW.below hb) k _ ha'
      simp only at c0 c1 c2 c3 c4
      have k0 : (0 : Int) ≤ (k : Int) := by omega
      have k1 : (k : Int) < (n : Int) := by omega
      by_cases hd : load ≤ d
      rotate_left
      · have HF := Lib.hid (numsTo_miss ha' hd)
        clear ha'
        go_wp2
        go_roundw
        case rel => exact ⟨k + 1, by omega, by go_num, by rw [HF.out]; exact hv, hb⟩
        case measure => simp [intOf]; omega
      have HF := Lib.hid (numsTo_hit ha' hd)
      have hlen := numsTo_len xs load k
      obtain ⟨N, hN⟩ : ∃ N, N = (numsTo xs load k).length := ⟨_, rfl⟩
      unfold Res at hv
      rw [← hN] at hv hlen
      have HN := Lib.hid hN
      have hsW := hb.size
      clear ha' hN
      go_wp2_with (first | (at_builtin; refine wpList_append_own_at _ rfl _ _ 28 rfl W.heap.size 3 i0 (.int .i64 0) 1 8 Try.underlying28 hi hz0 hz1 hz2 rfl (by decide) _ _ _ rfl (hv.alloc _) ⟨wr.heap.size, 0, none⟩ 1 1 [.int .i64 (k : Int)] rfl rfl (cell_one_new _ _ _) (one_cell _) (by unfold maxLen; omega) (by omega) (by simp; omega) ?_; intro v' w4 hown' hgrow4 hnil4 hat4))
      go_roundw
      case rel => exact ⟨k + 1, by omega, by go_num, by rw [HF.out]; exact Res.push (by rw [← HN.out]; exact hown'), Past.grown (hb.alloc _) (hv.alloc _) hgrow4 (Nat.le_refl _)⟩
      case measure => simp [intOf]; omega
    · obtain rfl : k = n := by omega
      have hst : Res wr W.heap.size u10 (strongL xs load) := by rw [strongL, HX.out]; exact hv
      obtain ⟨S, cs, rfl, hs, hoS⟩ := hst.form
      obtain ⟨K, hK⟩ : ∃ K, K = (strongL xs load).length := ⟨_, rfl⟩
      rw [← hK] at hoS ⊢
      have HK := Lib.hid hK
      clear hv hst hK
      go_wp2_with fail
      refine (l18For_any (M : Int) A k c xs load _ h16 HX.out (hxW.below hb)).mono ?_
      rintro e w5 ⟨A5, c5, rfl, hx5, _, hb5⟩
      obtain ⟨N5, hN5⟩ : ∃ N5, N5 = (forL xs load).length := ⟨_, rfl⟩
      have hn5 : N5 ≤ 16 := by rw [hN5]; exact Nat.le_trans (forL_len _ _) (by rw [HX.out]; exact h16)
      rw [← hN5]
      have HN5 := Lib.hid hN5.symm
      clear hN5
      go_wp2_with fail
      refine (l3Walk_any M a b A5 N5 c5 (forL xs load) _ h8 h1 HN5.out hn5 hx5 (forL_in (arcsIn_net HB.out) load) (by omega) (by omega)).mono ?_
      rintro e w6 ⟨v6, rfl, hv6, hb6⟩
      obtain ⟨X, cx, rfl, hs6, hoX⟩ := hv6.form
      obtain ⟨ps, hps⟩ : ∃ ps, ps = wayM M (forL xs load) a b := ⟨_, rfl⟩
      have hpb : ∀ y ∈ ps, 0 ≤ y ∧ y < (forL xs load).length := by rw [hps]; exact wayM_arcs (forL_in (arcsIn_net HB.out) load) (by omega) (by omega) h8
      rw [← hps] at hs6 hoX ⊢
      obtain ⟨R, hR⟩ : ∃ R, R = ps.length := ⟨_, rfl⟩
      have hR7 : R ≤ 7 := by rw [hR, hps]; exact wayM_len (forL_in (arcsIn_net HB.out) load) (by omega) (by omega) h8
      rw [← hR] at hoX ⊢
      have HR := Lib.hid hR.symm
      have HPB := Lib.hid hpb
      have HPS := Lib.hid hps
      have hs5 := (hs.below hb5).below hb6
      have hp6 : Past W w6 := (hb.trans hb5).trans hb6
      obtain ⟨bb, hbq⟩ : ∃ bb, bb = !(farB M (forL xs load) b a) := ⟨_, rfl⟩
      rw [← hbq]
      have HBB := Lib.hid hbq
      have hr6 := Res.empty_new w6
      have hpE : Past w6 (w6.alloc (.cells #[] 3)) := (Past.refl w6).alloc _
      clear hpb hR hps hbq hv6 hs hb5 hb6
      go_wp2
      go_loopw [14, 15] (fun v i wz => ∃ j : Nat, j ≤ R ∧ i = .int .i64 j ∧ Res wz w6.heap.size v ((ps.take j).map fun y => at_ (strongL xs load) y) ∧ Past w6 wz) (fun _ i _ => R - (intOf i).toNat)
      case atStart => exact ⟨0, by omega, rfl, by simpa using hr6, hpE⟩
      case round =>
        obtain ⟨j, hj, rfl, hv, hbz⟩ := hrel
        by_cases hlt2 : j < R
        · obtain ⟨y, hy⟩ : ∃ y, ps[j]? = some y := ⟨_, List.getElem?_eq_getElem (by have := HR.out; omega)⟩
          obtain ⟨g, o, rfl, cy⟩ := (hs6.below hbz) j y hy
          obtain ⟨y0, y1⟩ := HPB.out y (List.mem_of_getElem? hy)
          obtain ⟨hz, y2⟩ := strongL_get y0 y1
          obtain ⟨g', o', rfl, cz⟩ := (hs5.below hbz) y.toNat _ hz
          obtain ⟨z, hzz⟩ : ∃ z, z = at_ (strongL xs load) y := ⟨_, rfl⟩
          rw [← hzz] at cz
          have HF : Hid ((ps.take (j + 1)).map (fun y => at_ (strongL xs load) y) = (ps.take j).map (fun y => at_ (strongL xs load) y) ++ [z]) := by
            rw [Hid, List.take_add_one, hy, Option.toList_some, List.map_append, hzz]; rfl
          have hlen : ((ps.take j).map fun y => at_ (strongL xs load) y).length ≤ 7 := by rw [List.length_map, List.length_take]; omega
          have yK : y < (K : Int) := by rw [HK.out]; exact y2
          have j0 : (0 : Int) ≤ (j : Int) := by omega
          have j1 : (j : Int) < (R : Int) := by omega
          obtain ⟨N, hN⟩ : ∃ N, N = ((ps.take j).map fun y => at_ (strongL xs load) y).length := ⟨_, rfl⟩
          unfold Res at hv
          rw [← hN] at hv hlen
          have HN := Lib.hid hN
          have hsz := hbz.size
          clear hy hz hzz hN y1 y2
          go_wp2_with (first | (at_builtin; refine wpList_append_own_at _ rfl _ _ 28 rfl w6.heap.size 3 i0 (.int .i64 0) 1 8 Try.underlying28 hi hz0 hz1 hz2 rfl (by decide) _ _ _ rfl (hv.alloc _) ⟨wr.heap.size, 0, none⟩ 1 1 [.int .i64 z] rfl rfl (cell_one_new _ _ _) (one_cell _) (by unfold maxLen; omega) (by omega) (by simp; omega) ?_; intro v' w7 hown' hgrow7 hnil7 hat7))
          go_roundw
          case rel => exact ⟨j + 1, by omega, by go_num, by rw [HF.out]; exact Res.push (by rw [← HN.out]; exact hown'), Past.grown (hbz.alloc _) (hv.alloc _) hgrow7 (Nat.le_refl _)⟩
          case measure => simp [intOf]; omega
        · obtain rfl : j = R := by omega
          rw [List.take_of_length_le (by rw [HR.out]; exact Nat.le_refl _)] at hv
          have hlo := hpW.size
          have hl6 := hp6.size
          go_wp2
          exact bodyPost_ret (v := .tuple #[u14, .bool bb]) (by simp [results, Try.results52, go_sem]) rfl
            ⟨_, by rw [HY.out.2, ← HBB.out], by rw [HY.out.1, ← HPS.out]; exact hv.lower (by omega), (hpW.trans hp6).trans hbz⟩

end Go.Proofs.Ytaojognjkiifmaa

namespace Go.Proofs.Ytaojognjkiifmaa
open Go.RowKit

set_option maxRecDepth 100000 in
set_option maxHeartbeats 2000000 in
theorem implNearWalk_all (m : Int) (A : Option Addr) (n c : Nat) (xs : List ArcD) (a b : Int) (w : World) (hn : n ≤ 1048576) (hnx : xs.length = n) (hx : ArcsAt w A xs) (ho : (A = none ∧ n = 0) ∨ ∃ g o, A = some ⟨g, o, none⟩) :
    Calls Try.prog 42 #[.agg #[.int .i64 m, .slice A n c], .int .i64 a, .int .i64 b] w (GivesB w (nearWI m xs a b) (nearWB m xs a b)) := by
  have HX := Lib.hid hnx
  clear hnx
  obtain ⟨i0, hi, hz0, hz1, hz2⟩ := info_parts infoInt
  go_enter Try.func42, Try.ntmps42
  have hb0 : Past w ((w.alloc (.cells #[.int .i64 m, .slice A n c] 32)).alloc (.cells #[.int .i64 a, .int .i64 b] 3)) := ((Past.refl _).alloc _).alloc _
  have hz : IntsAt ((w.alloc (.cells #[.int .i64 m, .slice A n c] 32)).alloc (.cells #[.int .i64 a, .int .i64 b] 3)) (some ⟨w.heap.size + 1, 0, none⟩) [a, b] := fun k y hk => by
    match k, hk with
    | 0, hk => simp at hk; subst hk; exact ⟨_, _, rfl, by go_simp⟩
    | 1, hk => simp at hk; subst hk; exact ⟨_, _, rfl, by go_simp⟩
    | k + 2, hk => simp at hk
  go_wp2_with fail
  refine (netHas_any m A n c xs _ 2 2 [a, b] _ hn HX.out (hx.below hb0) (by omega) rfl hz).mono ?_
  rintro e w1 ⟨rfl, hb1⟩
  have b0 := cell_in (p := ⟨w.heap.size, 0, none⟩) (v := .int .i64 m) hb1 (by go_simp)
  have b1 := cell_in (p := ⟨w.heap.size, 1, none⟩) (v := .slice A n c) hb1 (by go_simp)
  have hx1 := (hx.below hb0).below hb1
  have hp1 := hb0.trans hb1
  have hH : (netB m xs && [a, b].all (fun z => inB z 0 (m - 1))) = hereB2 m xs a b := by simp [hereB2, hereB, Bool.and_assoc]
  rw [hH]
  clear hH hb0 hz hb1
  cases hB : hereB2 m xs a b with
  | false =>
    have HB := Lib.hid hB
    clear hB
    go_wp2
    refine bodyPost_ret (v := .tuple #[.slice none 0 0, .bool false]) (by simp [results, Try.results42, go_sem]) rfl ?_
    exact ⟨_, by rw [nearWB, HB.out]; rfl, by rw [nearWI, HB.out]; exact Res.nil _ _, hp1⟩
  | true =>
    obtain ⟨hN, ⟨ha0, ha1⟩, hbb0, hbb1⟩ := (hereB2_iff _ _ _ _).1 hB
    obtain ⟨M, rfl, h3, h8⟩ := here_nat hN
    have hbh : hereB (M : Int) xs b = true := (hereB_iff _ _ _).2 ⟨hN, hbb0, hbb1⟩
    have h16 : n ≤ 16 := by rw [← HX.out]; exact ((netB_iff _ _).1 hN).2.1
    have HBH := Lib.hid hbh
    have HB := Lib.hid hB
    have HN := Lib.hid hN
    have HT := Lib.hid (treeL_of (arcsIn_net hN) ⟨hbb0, hbb1⟩ (by omega))
    clear hB hN hbh
    go_wp2_with fail
    refine (implNearTree_all (M : Int) A n c xs b _ hn HX.out hx1 ho).mono ?_
    rintro e W ⟨v2, rfl, hv2, hb2⟩
    have b0 := cell_in hb2 b0
    have b1 := cell_in hb2 b1
    have hxW := hx1.below hb2
    have hpW := hp1.trans hb2
    obtain ⟨Z, cz, rfl, hz2', _⟩ := hv2.form
    have htr : treeTI (M : Int) xs b = treeM M xs b := by rw [treeTI, HBH.out, if_pos rfl, Int.toNat_natCast]
    rw [htr, treeM_length]
    rw [htr] at hz2'
    have hcell : ∀ v : Int, 0 ≤ v → v < M → ∃ g o, Z = some ⟨g, o, none⟩ ∧ W.cell? ⟨g, o + v.toNat, none⟩ = some (.int .i64 (treeI xs (labsOf M xs b) v)) := fun v h0 h1 => by
      obtain ⟨g, o, e, h⟩ := hz2' v.toNat _ (treeM_get M xs b (v := v.toNat) (by omega))
      refine ⟨g, o, e, ?_⟩
      rw [h, show ((v.toNat : Nat) : Int) = v by omega]
    obtain ⟨gZ, oZ, rfl, _⟩ := hcell b hbb0 hbb1
    have hcell2 : ∀ v : Int, 0 ≤ v → v < M → W.cell? ⟨gZ, oZ + v.toNat, none⟩ = some (.int .i64 (treeI xs (labsOf M xs b) v)) := fun v h0 h1 => by
      obtain ⟨g, o, e, h⟩ := hcell v h0 h1
      injection e with e
      injection e with e1 e2
      subst e1 e2
      exact h
    obtain ⟨L, hL⟩ : ∃ L, L = labsOf M xs b := ⟨_, rfl⟩
    have hfar : farB M xs b a = decide (lab L a = farL) := by rw [hL]; rfl
    have hway : wayM M xs a b = if farB M xs b a then [] else wayL xs L b a := by rw [hL]; rfl
    rw [← hL] at hcell2 HT
    have HC := Lib.hid hcell2
    have HWAY := Lib.hid hway
    have HFAR := Lib.hid hfar
    have hgW : gZ < W.heap.size := lt_of_cell (hcell2 b hbb0 hbb1)
    clear hcell hcell2 hz2' hv2 htr hL hway hfar hb2 hx1
    go_wp2
    go_loopw [9, 10] (fun v q wr => ∃ (at' : Int) (zs : List Int), q = .int .i64 at' ∧ 0 ≤ at' ∧ at' < M ∧ (lab L at' = farL ↔ lab L a = farL) ∧ Res wr W.heap.size v zs ∧ (lab L a ≠ farL → wayL xs L b a = zs ++ wayL xs L b at') ∧ zs.length + (lab L at').x1.toNat ≤ 7 ∧ Past W wr) (fun _ q _ => (lab L (intOf q)).x1.toNat)
    case atStart => exact ⟨a, [], rfl, ha0, ha1, Iff.rfl, Res.nil _ _, fun _ => rfl, by have := HT.out.bound a ha0 ha1; simp; omega, Past.refl _⟩
    case round =>
      obtain ⟨at', zs, rfl, t0, t1, hiff, hv, hzs, hzl, hbr⟩ := hrel
      by_cases hat : at' = b
      · subst hat
        have hne : (at' != at') = false := by simp
        have hfa : lab L a ≠ farL := fun e => by
          have := hiff.2 e
          rw [HT.out.lab_to] at this
          unfold farL farI at this
          simp at this
        have hB2 : farB M xs at' a = false := by rw [HFAR.out]; simpa using hfa
        have hzs := hzs hfa
        rw [HT.out.wayL_to, List.append_nil] at hzs
        have HZ := Lib.hid hzs
        have HB2 := Lib.hid hB2
        clear hzs hB2 hne
        go_wp2
        refine bodyPost_ret (v := .tuple #[u9, .bool true]) (by simp [results, Try.results42, go_sem]) rfl ?_
        refine ⟨_, by rw [nearWB, HB.out, Int.toNat_natCast, HB2.out]; rfl, ?_, hpW.trans hbr⟩
        rw [nearWI, HB.out, if_pos rfl, Int.toNat_natCast, HWAY.out, HB2.out, if_neg (by simp), HZ.out]
        exact hv.lower hpW.size
      · have hne : (at' != b) = true := by simpa using hat
        have cA := cell_in hbr (HC.out at' t0 t1)
        by_cases hf : lab L at' = farL
        · have hB2 : farB M xs b a = true := by rw [HFAR.out]; simpa using hiff.1 hf
          rw [HT.out.none at' (.inr hf)] at cA
          have HB2 := Lib.hid hB2
          clear hB2 hf hiff
          go_wp2
          refine bodyPost_ret (v := .tuple #[.slice none 0 0, .bool false]) (by simp [results, Try.results42, go_sem]) rfl ?_
          refine ⟨_, by rw [nearWB, HB.out, Int.toNat_natCast, HB2.out]; rfl, ?_, hpW.trans hbr⟩
          rw [nearWI, HB.out, if_pos rfl, Int.toNat_natCast, HWAY.out, HB2.out, if_pos rfl]
          exact Res.nil _ _
        · obtain ⟨j, ⟨f1, t1', c1, l1, d1⟩, e1, e2, e3, e4, e5, _, e7, e8⟩ := HT.out.some at' hat hf t0 t1
          have hstep := HT.out.wayL_step hat e1 e2 e5
          have hbt := arcsIn_net HN.out _ (List.mem_of_getElem? e2)
          simp only at e4 e5 hbt hstep
          rw [e1] at cA
          have hjn : j < n := by rw [← HX.out]; exact (List.getElem?_eq_some_iff.1 e2).1
          have hbT := HT.out.bound t1' (by omega) (by omega)
          have hjn0 : ¬ ((j : Int) < 0) := by omega
          have j0 : (0 : Int) ≤ (j : Int) := by omega
          have j1 : (j : Int) < (n : Int) := by omega
          obtain ⟨gx, ox, rfl, _, c1', _, _, _⟩ := (hxW.below hbr) j _ e2
          have hgx : gx < w.heap.size := by
            obtain ⟨g'', o'', e, hh⟩ := hx j _ e2
            injection e with e
            injection e with e1 e2
            subst e1
            exact hh.lt
          have b1' := cell_in hbr b1
          have hs1 := hpW.size
          have hs2 := hbr.size
          have hwW : w.heap.size < W.heap.size := lt_of_cell b1
          have hvA : (wr.alloc (.cells #[.int .i64 (j : Int)] 3)).ownsRow W.heap.size 3 1 u9 zs.length (ints zs) := World.ownsRow.alloc hv _
          have hpa5 : Past wr (wr.alloc (.cells #[.int .i64 (j : Int)] 3)) := (Past.refl wr).alloc _
          have hb1' : ∀ w3, (wr.alloc (.cells #[.int .i64 (j : Int)] 3)).grownBy w3 u9.ownBlock → w3.cell? ⟨w.heap.size, 1, none⟩ = some (.slice (some ⟨gx, ox, none⟩) n c) := fun w3 hg => hg.cell (cell_in hpa5 b1') (own_ne (g := w.heap.size) hvA (by omega))
          have hc1' : ∀ w3, (wr.alloc (.cells #[.int .i64 (j : Int)] 3)).grownBy w3 u9.ownBlock → w3.cell? ⟨gx, ox + j * 5 + 1, none⟩ = some (.int .i64 t1') := fun w3 hg => hg.cell (cell_in hpa5 c1') (own_ne (g := gx) hvA (by omega))
          have HB1 := Lib.hid hb1'
          have HC1 := Lib.hid hc1'
          have HSTEP := Lib.hid hstep
          have HZS := Lib.hid hzs
          have hfa : lab L a ≠ farL := fun e => hf (hiff.2 e)
          obtain ⟨D, hD⟩ : ∃ D, D = zs.length := ⟨_, rfl⟩
          rw [← hD] at hvA hzl
          have HDD := Lib.hid hD
          clear hb1' hc1' hstep hzs e1 e2 e3 e7 e8 hD c1' hiff
          go_wp2_with (first | (at_builtin; refine wpList_append_own _ rfl _ _ 28 rfl W.heap.size 3 i0 (.int .i64 0) 1 8 Try.underlying28 hi hz0 hz1 hz2 rfl (by decide) _ _ _ rfl hvA ⟨wr.heap.size, 0, none⟩ 1 1 [.int .i64 (j : Int)] rfl rfl (cell_one_new _ _ _) (one_cell _) (by unfold maxLen; omega) (by omega) (by simp; omega) ?_; intro v' w3 hown' hgrow3 hnil3; have b1 := HB1.out _ hgrow3; have c1 := HC1.out _ hgrow3))
          go_roundw
          case rel =>
            refine ⟨t1', zs ++ [(j : Int)], by go_num, by omega, by omega, ⟨fun e => absurd e e4, fun e => absurd e hfa⟩, Res.push (by rw [← HDD.out]; exact hown'), fun _ => ?_, ?_, Past.grown (hbr.alloc _) hvA hgrow3 (Nat.le_refl _)⟩
            · rw [HZS.out hfa, HSTEP.out, List.append_assoc]; rfl
            · rw [List.length_append, ← HDD.out]; simp; omega
          case measure => simp only [intOf]; omega
theorem implNearWalk_any (m : Int) (g n c : Nat) (xs : List ArcD) (a b : Int) (w : World) (hn : n ≤ 1048576) (hnx : xs.length = n) (hx : ArcsAt w (some ⟨g, 0, none⟩) xs) :
    Calls Try.prog 42 #[.agg #[.int .i64 m, .slice (some ⟨g, 0, none⟩) n c], .int .i64 a, .int .i64 b] w (GivesB w (nearWI m xs a b) (nearWB m xs a b)) :=
  implNearWalk_all m _ n c xs a b w hn hnx hx (.inr ⟨_, _, rfl⟩)

end Go.Proofs.Ytaojognjkiifmaa

namespace Go.Proofs.Ytaojognjkiifmaa
open Go.RowKit

/-- A number of a slice of the call's own is stored. -/
theorem Res.stored {w : World} {lo g n c : Nat} {zs : List Int} (h : Res w lo (.slice (some ⟨g, 0, none⟩) n c) zs) (hn : zs.length = n) (j : Nat) (x : Int) :
    Res (w.setCell ⟨g, j, none⟩ (.int .i64 x)) lo (.slice (some ⟨g, 0, none⟩) n c) (zs.set j x) ∧ w.grownBy (w.setCell ⟨g, j, none⟩ (.int .i64 x)) (some g) := by
  unfold Res at h
  rw [hn] at h
  obtain ⟨h1, h2⟩ := World.ownsRow.stored h j (.int .i64 x)
  refine ⟨?_, h2⟩
  unfold Res
  rw [List.length_set, hn]
  have : ints (zs.set j x) = (ints zs).set j (.int .i64 x) := by simp [ints, List.map_set]
  rw [this]
  exact h1
/-- The first j have been turned. -/
def turned (f : Int → Int) (ps : List Int) (j : Nat) : List Int := (ps.take j).map f ++ ps.drop j
theorem turned_length (f : Int → Int) (ps : List Int) (j : Nat) : (turned f ps j).length = ps.length := by
  simp [turned]; omega
theorem turned_zero (f : Int → Int) (ps : List Int) : turned f ps 0 = ps := by simp [turned]
theorem turned_all (f : Int → Int) (ps : List Int) : turned f ps ps.length = ps.map f := by simp [turned]
theorem turned_at {f : Int → Int} {ps : List Int} {j : Nat} {y : Int} (h : ps[j]? = some y) : (turned f ps j)[j]? = some y := by
  have hj := (List.getElem?_eq_some_iff.1 h).1
  unfold turned
  rw [List.getElem?_append_right (by simp; omega)]
  simp [Nat.min_eq_left (Nat.le_of_lt hj), h]
theorem turned_next {f : Int → Int} {ps : List Int} {j : Nat} {y : Int} (h : ps[j]? = some y) : (turned f ps j).set j (f y) = turned f ps (j + 1) := by
  have hj := (List.getElem?_eq_some_iff.1 h).1
  have hd : ps.drop j = y :: ps.drop (j + 1) := by
    have h2 := (List.getElem?_eq_some_iff.1 h).2
    rw [← h2, List.getElem_cons_drop]
  unfold turned
  rw [List.set_append_right _ _ (by simp; omega), hd, List.take_add_one, h]
  simp [Nat.min_eq_left (Nat.le_of_lt hj)]

set_option maxRecDepth 100000 in
set_option maxHeartbeats 4000000 in
theorem implLoadWalk_any (m : Int) (A : Option Addr) (n c : Nat) (xs : List ArcD) (a b load : Int) (w : World) (hn : n ≤ 1048576) (hnx : xs.length = n) (hx : ArcsAt w A xs) :
    Calls Try.prog 53 #[.agg #[.int .i64 m, .slice A n c], .int .i64 a, .int .i64 b, .int .i64 load] w (GivesB w (lwayI m xs a b load) (lwayB m xs a b load)) := by
  have HX := Lib.hid hnx
  clear hnx
  have hb0 : Past w (w.alloc (.cells #[.int .i64 m, .slice A n c] 32)) := (Past.refl _).alloc _
  go_enter Try.func53, Try.ntmps53
  go_wp2_with fail
  refine (implLoadNet_any m A n c xs load _ hn HX.out (hx.below hb0)).mono ?_
  rintro e W ⟨E, ce, rfl, hz2, hoz, hb1⟩
  have b0 := cell_in (p := ⟨w.heap.size, 0, none⟩) (v := .int .i64 m) hb1 (by go_simp)
  have b1 := cell_in (p := ⟨w.heap.size, 1, none⟩) (v := .slice A n c) hb1 (by go_simp)
  have hxW := (hx.below hb0).below hb1
  have hpW := hb0.trans hb1
  have hform : (E = none ∧ (lnetL m xs load).length = 0) ∨ ∃ g o, E = some ⟨g, o, none⟩ := by
    rcases hoz with h | ⟨g, sz, h, _⟩
    · exact .inl h
    · exact .inr ⟨g, 0, h⟩
  obtain ⟨zs, hzs⟩ : ∃ zs, zs = lnetL m xs load := ⟨_, rfl⟩
  obtain ⟨mz, hmz⟩ : ∃ mz, mz = lnetN m xs load := ⟨_, rfl⟩
  have hB0 : lwayB m xs a b load = nearWB mz zs a b := by rw [lwayB, hzs, hmz]
  have hI0 : lwayI m xs a b load = (nearWI mz zs a b).map fun y => at_ (strongL xs load) y := by rw [lwayI, hzs, hmz]
  have hR1 : zs.length ≤ 1048576 := by rw [hzs]; exact lnetL_lenM m xs load
  have hzm : lnetB m xs load = true → zs = forL xs load ∧ mz = m := fun h => by rw [hzs, hmz]; exact ⟨(lnet_yes h).2, (lnet_yes h).1⟩
  have hzno : lnetB m xs load = false → mz = 0 := fun h => by rw [hmz]; exact (lnet_no h).1
  rw [← hzs] at hz2 hform ⊢
  rw [← hmz]
  obtain ⟨K, hK⟩ : ∃ K, K = zs.length := ⟨_, rfl⟩
  rw [← hK] at hform hR1 ⊢
  have HK := Lib.hid hK.symm
  have HB0 := Lib.hid hB0
  have HI0 := Lib.hid hI0
  have HZM := Lib.hid hzm
  have HZN := Lib.hid hzno
  clear hb0 hb1 hzs hmz hK hB0 hI0 hoz hzm hzno
  go_wp2_with fail
  refine (implNearWalk_all mz E K ce zs a b _ hR1 HK.out hz2 hform).mono ?_
  rintro e w5 ⟨v5, rfl, hv5, hb5⟩
  have b0 := cell_in hb5 b0
  have b1 := cell_in hb5 b1
  have hx5 := hxW.below hb5
  have hp5 := hpW.trans hb5
  cases hO : nearWB mz zs a b with
  | false =>
    have HO := Lib.hid hO
    have hnil : nearWI mz zs a b = [] := by
      unfold nearWI
      split
      · rename_i h
        rw [nearWB, h, Bool.true_and, Bool.not_eq_false'] at hO
        rw [wayM, hO, if_pos rfl]
      · rfl
    have HNIL := Lib.hid hnil
    clear hO hnil
    go_wp2
    exact bodyPost_ret (v := .tuple #[.slice none 0 0, .bool false]) (by simp [results, Try.results53, go_sem]) rfl
      ⟨_, by rw [HB0.out, HO.out], by rw [HI0.out, HNIL.out]; exact Res.nil _ _, hp5⟩
  | true =>
    have HO := Lib.hid hO
    have hlb : lnetB m xs load = true := by
      cases h : lnetB m xs load with
      | true => rfl
      | false =>
        have h0 := HZN.out h
        rw [h0] at hO
        have hk : netB 0 zs = false := by unfold netB; simp [inB]
        simp [nearWB, hereB2, hereB, hk] at hO
    obtain ⟨hz1, hz2'⟩ := HZM.out hlb
    obtain ⟨hN, ha, hbb⟩ := (hereB2_iff _ _ _ _).1 (by have h := hO; simp only [nearWB, Bool.and_eq_true] at h; exact h.1)
    obtain ⟨M, hM, hM1, hM8⟩ := here_nat hN
    subst hM
    have hway : nearWI (M : Int) zs a b = wayM M zs a b := by rw [nearWI, if_pos ((hereB2_iff _ _ _ _).2 ⟨hN, ha, hbb⟩), Int.toNat_natCast]
    obtain ⟨ps, hps⟩ : ∃ ps, ps = nearWI (M : Int) zs a b := ⟨_, rfl⟩
    have hpb : ∀ y ∈ ps, 0 ≤ y ∧ y < (forL xs load).length := by rw [hps, hway, ← hz1]; exact wayM_arcs (arcsIn_net hN) ha hbb hM8
    rw [← hps] at hv5
    obtain ⟨X, cx, rfl, hs5, hoX⟩ := hv5.form
    obtain ⟨R, hR⟩ : ∃ R, R = ps.length := ⟨_, rfl⟩
    have hRb : R ≤ 1048576 := by rw [hR, hps]; exact nearWI_len _ _ _ _
    rw [← hR] at hv5 hoX ⊢
    have HR := Lib.hid hR.symm
    have HPB := Lib.hid hpb
    have HPS := Lib.hid hps
    clear hO hlb hz1 hz2' hN ha hbb hway hps hpb hR
    go_wp2_with fail
    refine (strongArcs_any m A n c xs load _ hn HX.out hx5).mono ?_
    rintro e w6 ⟨v6, rfl, hv6, hb6⟩
    obtain ⟨S, cs, rfl, hs6, hoS⟩ := hv6.form
    obtain ⟨T, hT⟩ : ∃ T, T = (strongL xs load).length := ⟨_, rfl⟩
    rw [← hT] at hoS ⊢
    have HT := Lib.hid hT
    have hv6' := hv5.below hb6
    have hp6 := hp5.trans hb6
    have hlW := hpW.size
    have hS5 : ∀ q, blk S = some q → w5.heap.size ≤ q := fun q e => by
      rcases hoS with ⟨rfl, _⟩ | ⟨g', sz, rfl, hl, _, _⟩
      · cases e
      · injection e with e; simp only at e; omega
    have hXf : (X = none ∧ R = 0) ∨ ∃ g, X = some ⟨g, 0, none⟩ ∧ W.heap.size ≤ g ∧ g < w5.heap.size := by
      rcases hoX with h | ⟨g', sz, rfl, hl, hr, _⟩
      · exact .inl h
      · exact .inr ⟨g', rfl, hl, hr.lt⟩
    have hpW6 : Past W w6 := hb5.trans (hb6.mono hb5.size)
    have HS5 := Lib.hid hS5
    have HXF := Lib.hid hXf
    clear hT hv6 hv5 hb6 hb5 hoS hoX hS5 hXf
    go_wp2
    go_loopw [13, 14, 31] (fun _ _ q wr => ∃ j : Nat, j ≤ R ∧ q = .int .i64 j ∧ Res wr W.heap.size (.slice X R cx) (turned (fun y => at_ (strongL xs load) y) ps j) ∧ IntsAt wr S (strongL xs load) ∧ Past W wr) (fun _ _ q _ => R - (intOf q).toNat)
    case atStart => exact ⟨0, Nat.zero_le _, rfl, by rw [turned_zero]; exact hv6', hs6, hpW6⟩
    case round =>
      clear hv6' hs6 hpW6
      obtain ⟨j, hj, rfl, hv, hs, hpr⟩ := hrel
      by_cases hlt : j < R
      · obtain ⟨y, hy⟩ : ∃ y, ps[j]? = some y := ⟨_, List.getElem?_eq_getElem (by have := HR.out; omega)⟩
        obtain ⟨gX, eX, hg1, hg2⟩ := HXF.out.resolve_left (fun h => by omega)
        subst eX
        obtain ⟨A9, c9, e9, hi9, ho9⟩ := hv.form
        injection e9 with e91 e92 e93
        subst e91
        obtain ⟨g1, o1, e1, cX⟩ := hi9 j y (turned_at hy)
        injection e1 with e1
        injection e1 with e11 e12
        subst e11 e12
        have zX : wr.frozen? ⟨gX, j, none⟩ = false := by
          rcases ho9 with ⟨h, _⟩ | ⟨g, sz, e, _, hr, _⟩
          · cases h
          · injection e with e
            injection e with e
            subst e
            exact hr.frozen j
        rw [Nat.zero_add] at cX
        obtain ⟨y0, y1⟩ := HPB.out y (List.mem_of_getElem? hy)
        obtain ⟨hz, y2⟩ := strongL_get y0 y1
        obtain ⟨gs, os, eS, cz⟩ := hs y.toNat _ hz
        have hN := hv.stored (by rw [turned_length, HR.out]) j (at_ (strongL xs load) y)
        rw [turned_next (f := fun y => at_ (strongL xs load) y) hy] at hN
        have hsn : IntsAt (wr.setCell ⟨gX, j, none⟩ (.int .i64 (at_ (strongL xs load) y))) S (strongL xs load) := hs.farS _ _ (fun e => by have h : w5.heap.size ≤ gX := HS5.out gX e; omega)
        obtain ⟨z, hzz⟩ : ∃ z, z = at_ (strongL xs load) y := ⟨_, rfl⟩
        rw [← hzz] at cz hN hsn
        have HNN := Lib.hid hN.1
        have HSN := Lib.hid hsn
        have yT : y < (T : Int) := by rw [HT.out]; exact y2
        have j0 : (0 : Int) ≤ (j : Int) := by omega
        have j1 : (j : Int) < (R : Int) := by omega
        subst eS
        clear hy hz hzz hN hsn y1 y2 hi9 ho9 hv hs
        go_wp2
        go_roundw
        case rel => exact ⟨j + 1, by omega, by go_num, HNN.out, HSN.out, Below.setCell hpr (by simpa using hg1) _⟩
        case measure => simp [intOf]; omega
      · obtain rfl : j = R := by omega
        have hall : turned (fun y => at_ (strongL xs load) y) ps j = (nearWI (M : Int) zs a b).map fun y => at_ (strongL xs load) y := by rw [← HR.out, turned_all, HPS.out]
        rw [hall] at hv
        have HV := Lib.hid hv
        clear hv hall
        go_wp2
        exact bodyPost_ret (v := .tuple #[.slice X j cx, .bool true]) (by simp [results, Try.results53, go_sem]) rfl
          ⟨_, by rw [HB0.out, HO.out], by rw [HI0.out]; exact HV.out.lower (by omega), hpW.trans hpr⟩

end Go.Proofs.Ytaojognjkiifmaa

namespace Go.Proofs.Ytaojognjkiifmaa
open Go.RowKit

set_option maxHeartbeats 400000 in
theorem eqIntS_same (A B : Option Addr) (n c c' : Nat) (xs : List Int) (w : World) (hn : n ≤ 1048576) (hl : xs.length = n) (hx : IntsAt w A xs) (hy : IntsAt w B xs) :
    Calls Try.prog 21 #[.slice A n c, .slice B n c'] w fun e w' => e = .returned (.bool true) ∧ Below w.heap.size w w' := by
  go_enter Try.func21, Try.ntmps21
  go_wp2
  go_loopw [5] (fun i wr => ∃ k : Nat, k ≤ n ∧ i = .int .i64 k ∧ Below w.heap.size w wr) (fun i _ => n - (intOf i).toNat)
  case atStart => exact ⟨0, by omega, rfl, Below.refl _ _⟩
  case round =>
    obtain ⟨k, hk, rfl, hb⟩ := hrel
    by_cases hlt : k < n
    · obtain ⟨x, ha⟩ : ∃ a, xs[k]? = some a := ⟨_, List.getElem?_eq_getElem (by omega)⟩
      obtain ⟨g, o, rfl, c0⟩ := (hx.below hb) k _ ha
      obtain ⟨g', o', rfl, d0⟩ := (hy.below hb) k _ ha
      have hi : (k : Int) < (n : Int) := by omega
      have h0 : (0 : Int) ≤ (k : Int) := by omega
      clear ha hl
      go_wp2_with fail
      go_quiet (fail)
      go_wp2
      go_roundw
      case rel => exact ⟨k + 1, by omega, by go_num, by first | exact hb.drewN _ | exact ⟨hb.os, hb.tape, hb.output, hb.size, hb.block⟩⟩
      case measure => simp [intOf]; omega
    · go_wp2
      go_ret
      exact ⟨rfl, hb⟩


end Go.Proofs.Ytaojognjkiifmaa

namespace Go.Proofs.Ytaojognjkiifmaa
open Go.RowKit

set_option maxRecDepth 100000 in
set_option maxHeartbeats 400000 in
theorem eqArcS_same (A B : Option Addr) (n c c' : Nat) (xs : List ArcD) (w : World) (hn : n ≤ 1048576) (hl : xs.length = n) (hx : ArcsAt w A xs) (hy : ArcsAt w B xs) :
    Calls Try.prog 67 #[.slice A n c, .slice B n c'] w fun e w' => e = .returned (.bool true) ∧ Below w.heap.size w w' := by
  go_enter Try.func67, Try.ntmps67
  go_wp2
  go_loopw [5] (fun i wr => ∃ k : Nat, k ≤ n ∧ i = .int .i64 k ∧ Below w.heap.size w wr) (fun i _ => n - (intOf i).toNat)
  case atStart => exact ⟨0, by omega, rfl, Below.refl _ _⟩
  case round =>
    obtain ⟨k, hk, rfl, hb⟩ := hrel
    by_cases hlt : k < n
    · obtain ⟨⟨f, t, c, l, d⟩, ha⟩ : ∃ a, xs[k]? = some a := ⟨_, List.getElem?_eq_getElem (by omega)⟩
      obtain ⟨g, o, rfl, c0, c1, c2, c3, c4⟩ := (hx.below hb) k _ ha
      obtain ⟨g', o', rfl, d0, d1, d2, d3, d4⟩ := (hy.below hb) k _ ha
      have hi : (k : Int) < (n : Int) := by omega
      have h0 : (0 : Int) ≤ (k : Int) := by omega
      clear ha hl
      go_wp2_with fail
      go_still_tail 8, (by kernel_rfl)
      change wpList _ _ _ _ _ wr.drew
      go_wp2_with fail
      refine (eqArc_same f t c l d _).mono ?_
      rintro e w1 ⟨rfl, hb1⟩
      go_wp2
      go_roundw
      case rel => exact ⟨k + 1, by omega, by go_num, hb.drew.trans (hb1.mono hb.size)⟩
      case measure => simp [intOf]; omega
    · go_wp2
      go_ret
      exact ⟨rfl, hb⟩

theorem eqNet_same (m : Int) (A B : Option Addr) (n c c' : Nat) (xs : List ArcD) (w : World) (hn : n ≤ 1048576) (hl : xs.length = n) (hx : ArcsAt w A xs) (hy : ArcsAt w B xs) :
    Calls Try.prog 22 #[.agg #[.int .i64 m, .slice A n c], .agg #[.int .i64 m, .slice B n c']] w fun e w' => e = .returned (.bool true) ∧ Below w.heap.size w w' := by
  have HL := Lib.hid hl
  clear hl
  go_enter Try.func22, Try.ntmps22
  go_wp2_with fail
  have hb0 : Below w.heap.size w ((w.alloc (.cells #[.int .i64 m, .slice A n c] 32)).alloc (.cells #[.int .i64 m, .slice B n c'] 32)) := ((Below.refl _ _).alloc (Nat.le_refl _) _).alloc (by simp) _
  refine (eqArcS_same A B n c c' xs _ hn HL.out (hx.below hb0) (hy.below hb0)).mono ?_
  rintro e w1 ⟨rfl, hb1⟩
  go_wp2
  go_ret
  exact ⟨rfl, bel_trans hb0 hb1⟩

end Go.Proofs.Ytaojognjkiifmaa

namespace Go.Proofs.Ytaojognjkiifmaa
open Go.ChangeShapes Go.WideShapes Go.ChangeAt Go.RowKit Go.Deep Go.Joins

set_option maxRecDepth 100000 in
/-- Every number that a slice of numbers leads to. -/
theorem open_nums {H : Type} {enc : TypeId × Value → H} {W : World} {fuel : Nat} {v : Value} {x : DataW H × List MemPlace} (h : DataW.trod enc Try.prog W 0 (fun _ => true) true fuel 28 [v] = some x) :
    ∃ (A : Option Addr) (n c : Nat) (xs : List Int), v = .slice A n c ∧ xs.length = n ∧ n ≤ maxLen ∧ IntsAt W A xs := by
  rcases open_ints Try.underlying28 Try.underlying3 (by kernel_rfl) h with ⟨hcs, _⟩ | ⟨a, len, cap, zs, hcs, _, hl, hm, hz, _, hcell, _⟩
  · injection hcs with hcs
    exact ⟨none, 0, 0, [], hcs, rfl, Nat.zero_le _, fun k a hk => by simp at hk⟩
  · injection hcs with hcs
    simp only [if_true] at hz
    refine ⟨some a, len, cap, zs.take len, hcs, by simp; omega, by omega, fun k b hk => ?_⟩
    have hlt : k < len := by
      have := (List.getElem?_eq_some_iff.1 hk).1
      simp at this
      omega
    have hc := hcell k (by omega)
    obtain ⟨g, o, rfl⟩ := spotless (hcell 0 (by omega))
    rw [addr_add] at hc
    rw [List.getElem?_take_of_lt hlt] at hk
    rw [List.getD_eq_getElem?_getD, hk] at hc
    exact ⟨g, o, rfl, hc⟩

set_option maxRecDepth 100000 in
/-- A slice of numbers that comes in. -/
theorem open_list {H : Type} {enc : TypeId × Value → H} {W : World} {r : Reach} {b0 : Nat} {v : Value} {d : DataW H} {p : List MemPlace} (hv : Value.okWide Try.prog W r b0 28 v)
    (h : DataW.Trod enc Try.prog W 0 (fun _ => true) true 28 v d p) : ∃ (A : Option Addr) (n c : Nat) (xs : List Int), v = .slice A n c ∧ xs.length = n ∧ n ≤ maxLen ∧ IntsAt W A xs := by
  obtain ⟨a0, len, cap, rfl⟩ := okWide_slice Try.underlying28 hv
  obtain ⟨fuel, hf⟩ := h
  exact open_nums (by simpa [Value.cells] using hf)

end Go.Proofs.Ytaojognjkiifmaa

namespace Go.Proofs.Ytaojognjkiifmaa
open Go.ChangeShapes Go.WideShapes Go.ChangeAt Go.RowKit Go.Deep Go.Joins

set_option maxRecDepth 100000 in
/-- Every arc that a slice of arcs leads to. -/
theorem open_arcs {H : Type} {enc : TypeId × Value → H} {W : World} {fuel : Nat} {v : Value} {x : DataW H × List MemPlace} (h : DataW.trod enc Try.prog W 0 (fun _ => true) true fuel 22 [v] = some x) :
    ∃ (A : Option Addr) (n c : Nat) (xs : List ArcD), v = .slice A n c ∧ xs.length = n ∧ n ≤ maxLen ∧ ArcsAt W A xs := by
  rcases open_slice Try.underlying22 h with ⟨hcs, _⟩ | ⟨a, len, cap, m, n, D, Pl, hcs, _, hl, hm, hmm, _, hi⟩
  · injection hcs with hcs
    exact ⟨none, 0, 0, [], hcs, rfl, Nat.zero_le _, fun k a hk => by simp at hk⟩
  · injection hcs with hcs
    simp only [if_true] at hmm
    subst hmm
    have hC : Try.prog.cellsOf 114 = 5 := by kernel_rfl
    have hI : Try.prog.cellsOf 3 = 1 := by kernel_rfl
    have spot : 0 < len → ∃ g o, a = ⟨g, o, none⟩ := fun h0 => by
      obtain ⟨cs', hc, _⟩ := hi 0 (by omega)
      rw [hC] at hc
      obtain ⟨_, hcl, hat⟩ := World.cells?_some hc
      have := hat 0 (by omega)
      rw [add_add, List.getElem?_eq_getElem (by omega)] at this
      exact spotless this
    have key : ∀ i, i < len → ∃ b : ArcD, ∃ g o, a = ⟨g, o, none⟩ ∧ Arc5 W g (o + i * 5) b := fun i hlt => by
      obtain ⟨cs', hc, ht⟩ := hi i (by omega)
      rw [hC] at hc
      obtain ⟨_, hcl, hat⟩ := World.cells?_some hc
      obtain ⟨ys, n', _, _, _, _, hf⟩ := DataW.trod_struct Try.underlying114 ht
      match cs', hcl with
      | [v0, v1, v2, v3, v4], _ =>
        have h5 : ys.length = 5 := by assumption
        match ys, h5 with
        | [y0, y1, y2, y3, y4], _ =>
          have f0 : DataW.trod enc Try.prog W 0 (fun _ => true) true n' 3 (([v0, v1, v2, v3, v4].drop 0).take (Try.prog.cellsOf 3)) = some y0 := hf 0 _ rfl
          have f1 : DataW.trod enc Try.prog W 0 (fun _ => true) true n' 3 (([v0, v1, v2, v3, v4].drop 1).take (Try.prog.cellsOf 3)) = some y1 := hf 1 _ rfl
          have f2 : DataW.trod enc Try.prog W 0 (fun _ => true) true n' 3 (([v0, v1, v2, v3, v4].drop 2).take (Try.prog.cellsOf 3)) = some y2 := hf 2 _ rfl
          have f3 : DataW.trod enc Try.prog W 0 (fun _ => true) true n' 3 (([v0, v1, v2, v3, v4].drop 3).take (Try.prog.cellsOf 3)) = some y3 := hf 3 _ rfl
          have f4 : DataW.trod enc Try.prog W 0 (fun _ => true) true n' 3 (([v0, v1, v2, v3, v4].drop 4).take (Try.prog.cellsOf 3)) = some y4 := hf 4 _ rfl
          rw [hI] at f0 f1 f2 f3 f4
          obtain ⟨z0, e0, _⟩ := DataW.trod_int Try.underlying3 f0
          obtain ⟨z1, e1, _⟩ := DataW.trod_int Try.underlying3 f1
          obtain ⟨z2, e2, _⟩ := DataW.trod_int Try.underlying3 f2
          obtain ⟨z3, e3, _⟩ := DataW.trod_int Try.underlying3 f3
          obtain ⟨z4, e4, _⟩ := DataW.trod_int Try.underlying3 f4
          simp at e0 e1 e2 e3 e4
          subst e0 e1 e2 e3 e4
          have c0 := hat 0 (by omega)
          have c1 := hat 1 (by omega)
          have c2 := hat 2 (by omega)
          have c3 := hat 3 (by omega)
          have c4 := hat 4 (by omega)
          rw [add_add] at c0 c1 c2 c3 c4
          obtain ⟨g, o, rfl⟩ := spot (by omega)
          simp only [addr_add] at c0 c1 c2 c3 c4
          exact ⟨⟨z0, z1, z2, z3, z4⟩, g, o, rfl, by simpa using c0, by simpa [Nat.add_assoc] using c1, by simpa [Nat.add_assoc] using c2, by simpa [Nat.add_assoc] using c3, by simpa [Nat.add_assoc] using c4⟩
    obtain ⟨F, hF⟩ := choose_lt (α := ArcD) (p := fun i b => ∃ g o, a = ⟨g, o, none⟩ ∧ Arc5 W g (o + i * 5) b) (fun i hlt => by
      obtain ⟨b, h⟩ := key i hlt
      exact ⟨b, h⟩)
    refine ⟨some a, len, _, (List.range len).map F, hcs, by simp, by omega, fun k b hk => ?_⟩
    have hlt : k < len := by simpa using (List.getElem?_eq_some_iff.1 hk).1
    simp [hlt] at hk
    subst hk
    obtain ⟨g, o, ha, h5⟩ := hF k hlt
    exact ⟨g, o, by rw [ha], h5⟩

set_option maxRecDepth 100000 in
/-- A net that comes in. -/
theorem open_net {H : Type} {enc : TypeId × Value → H} {W : World} {r : Reach} {b0 : Nat} {v : Value} {d : DataW H} {p : List MemPlace} (hv : Value.okWide Try.prog W r b0 24 v)
    (h : DataW.Trod enc Try.prog W 0 (fun _ => true) true 24 v d p) :
    ∃ (m : Int) (A : Option Addr) (n c : Nat) (xs : List ArcD), v = .agg #[.int .i64 m, .slice A n c] ∧ xs.length = n ∧ n ≤ maxLen ∧ ArcsAt W A xs ∧ (Lit.int .i64 m).wf = true := by
  obtain ⟨v0, v1, y0, y1, k, rfl, _, _, h0, h1⟩ := open_agg2 Try.underlying24 (by kernel_rfl) (by kernel_rfl) hv h
  obtain ⟨m, e0, _, hm⟩ := DataW.trod_int Try.underlying3 h0
  injection e0 with e0
  subst e0
  obtain ⟨A, n, c, xs, rfl, hl, hn, hx⟩ := open_arcs h1
  exact ⟨m, A, n, c, xs, rfl, hl, hn, hx, hm⟩

end Go.Proofs.Ytaojognjkiifmaa

namespace Go.Proofs.Ytaojognjkiifmaa
open Go.ChangeShapes Go.WideShapes Go.ChangeAt Go.RowKit

set_option maxRecDepth 100000 in
set_option maxHeartbeats 2000000 in
theorem exactLoadWalk_walk (m0 : Int) (A0 : Option Addr) (n0 c0 : Nat) (xs0 : List ArcD) (z1 : Int) (z2 : Int) (z3 : Int) (w : World) (hn0 : n0 ≤ maxLen) (hl0 : xs0.length = n0) (hx0 : ArcsAt w A0 xs0) :
    Calls Try.prog 14 #[.agg #[.int .i64 m0, .slice A0 n0 c0], .int .i64 z1, .int .i64 z2, .int .i64 z3] w fun e w' => e = .returned (.bool true) ∧ Below w.heap.size w w' := by
  have HX0 := Lib.hid hl0
  clear hl0
  have hP : Past w (w.alloc (.cells #[.int .i64 m0, .slice A0 n0 c0] 24)) := ((Past.refl w).alloc _)
  go_enter Try.func14, Try.ntmps14
  go_wp2_with fail
  refine (szNet_any m0 A0 n0 c0 (1048576) _ (by omega) (by omega) hn0).mono ?_
  rintro e w1 ⟨rfl, hb⟩
  have a0_0 := cell_in (p := ⟨w.heap.size, 0, none⟩) (v := .int .i64 m0) hb (by go_simp)
  have a0_1 := cell_in (p := ⟨w.heap.size, 1, none⟩) (v := .slice A0 n0 c0) hb (by go_simp)
  have hx0 := (hx0.below hP).below hb
  have hP := Past.trans hP hb
  clear hb
  by_cases h20s_0 : (n0 : Int) ≤ 1048576
  rotate_left
  · have hr : roomLeft (1048576) n0 = -1 := by unfold roomLeft; rw [if_pos (by omega)]
    rw [hr]
    go_wp2
    go_ret
    exact ⟨rfl, hP⟩
  have hr : roomLeft (1048576) n0 = 1048576 - n0 := by unfold roomLeft; rw [if_neg (by omega)]
  rw [hr]
  clear hr
  have h20_0 : n0 ≤ 1048576 := by omega
  go_wp2_with fail
  refine (toNet_any m0 A0 n0 c0 xs0 _ h20_0 HX0.out hx0).mono ?_
  rintro e w2 ⟨sg0, rfl, hb, hg, sm0⟩
  have hx0 := hx0.below hb
  have a0_0 := cell_in hb a0_0
  have a0_1 := cell_in hb a0_1
  have hP := Past.trans hP hb
  have s2 := hb.size
  clear hb hg
  go_wp2_with fail
  refine (specLoadWalk_any m0 _ n0 n0 xs0 z1 z2 z3 _ h20_0 HX0.out (sm0.arcs HX0.out)).mono ?_
  rintro e w3 ⟨v4, rfl, hv4, hb⟩
  obtain ⟨ok, hok⟩ : ∃ ok, ok = lwayB m0 xs0 z1 z2 z3 := ⟨_, rfl⟩
  rw [← hok]
  have HK := Lib.hid hok
  clear hok
  have hzl := lwayI_len m0 xs0 z1 z2 z3
  obtain ⟨zs, hzs⟩ : ∃ zs, zs = lwayI m0 xs0 z1 z2 z3 := ⟨_, rfl⟩
  rw [← hzs] at hv4 hzl
  obtain ⟨N, hN⟩ : ∃ N, N = zs.length := ⟨_, rfl⟩
  obtain ⟨A4, c4, rfl, hz, ho4⟩ := hv4.form
  rw [← hN] at hzl
  have HZ := Lib.hid hzs
  have HN := Lib.hid hN
  rw [← hN]
  clear hN hzs hv4 ho4
  have hx0 := hx0.below hb
  have a0_0 := cell_in hb a0_0
  have a0_1 := cell_in hb a0_1
  have sm0 := sm0.below hb
  have hP := Past.trans hP hb
  have s3 := hb.size
  clear hb
  clear sm0
  have hx0E := hx0
  have hzE := hz
  have sb : w.heap.size < w3.heap.size := lt_of_cell a0_0
  have sP := hP.size
  go_wp2_with fail
  refine (toNet_any m0 A0 n0 c0 xs0 _ h20_0 HX0.out hx0).mono ?_
  rintro e w4 ⟨g0, rfl, hb, hg0, hm0⟩
  have sg0 := hm0.1.lt
  have hx0 := hx0.below hb
  have a0_0 := cell_in hb a0_0
  have a0_1 := cell_in hb a0_1
  have hz := hz.below hb
  have hP := Past.trans hP hb
  have s4 := hb.size
  clear hb
  have hb : Past w4 (w4.alloc (.cells #[.int .i64 m0, .slice (some ⟨g0, 0, none⟩) n0 n0] 32)) := (Past.refl _).alloc _
  obtain ⟨w5, hw6⟩ : ∃ u, u = w4.alloc (.cells #[.int .i64 m0, .slice (some ⟨g0, 0, none⟩) n0 n0] 32) := ⟨_, rfl⟩
  go_wp2_with fail
  have p0_0 : w5.cell? ⟨w4.heap.size, 0, none⟩ = some (.int .i64 m0) := by rw [hw6]; go_simp
  have p0_1 : w5.cell? ⟨w4.heap.size, 1, none⟩ = some (.slice (some ⟨g0, 0, none⟩) n0 n0) := by rw [hw6]; go_simp
  rw [← hw6] at hb ⊢
  have sx0 : w4.heap.size < w5.heap.size := lt_of_cell p0_0
  clear hw6
  have hx0 := hx0.below hb
  have a0_0 := cell_in hb a0_0
  have a0_1 := cell_in hb a0_1
  have hz := hz.below hb
  have hm0 := hm0.below hb
  have hP := Past.trans hP hb
  have s5 := hb.size
  clear hb
  refine (implLoadWalk_any m0 _ n0 n0 xs0 z1 z2 z3 _ h20_0 HX0.out (hm0.arcs HX0.out)).mono ?_
  rintro e w6 ⟨v7, rfl, hv7, hb⟩
  rw [← HK.out]
  rw [← HZ.out] at hv7
  obtain ⟨A7, c7, rfl, hi, ho⟩ := hv7.form
  rw [← HN.out] at ho
  rw [← HN.out]
  clear hv7
  have hx0 := hx0.below hb
  have a0_0 := cell_in hb a0_0
  have a0_1 := cell_in hb a0_1
  have hz := hz.below hb
  have hm0 := hm0.below hb
  have p0_0 := cell_in hb p0_0
  have p0_1 := cell_in hb p0_1
  have hP := Past.trans hP hb
  have s6 := hb.size
  clear hb
  go_wp2_with fail
  refine (eqIntS_same A7 A4 N c7 c4 zs _ hzl HN.out.symm hi hz).mono ?_
  rintro e w7 ⟨rfl, hb⟩
  have hx0 := hx0.below hb
  have a0_0 := cell_in hb a0_0
  have a0_1 := cell_in hb a0_1
  have hz := hz.below hb
  have hm0 := hm0.below hb
  have p0_0 := cell_in hb p0_0
  have p0_1 := cell_in hb p0_1
  have hi := hi.below hb
  have ho := ho.below hb
  have hP := Past.trans hP hb
  have s7 := hb.size
  clear hb
  have hq := (hm0.arcs HX0.out)
  go_wp2_with fail
  go_region_held3 (fun w' => w'.cell? ⟨w.heap.size, 0, none⟩ = some (.int .i64 m0) ∧ w'.cell? ⟨w.heap.size, 1, none⟩ = some (.slice A0 n0 c0) ∧ w'.cell? ⟨w4.heap.size, 0, none⟩ = some (.int .i64 m0) ∧ w'.cell? ⟨w4.heap.size, 1, none⟩ = some (.slice (some ⟨g0, 0, none⟩) n0 n0)) (go_keep)
    (first
      | (go_at_call 18; refine (toNet_any m0 A0 n0 c0 xs0 _ h20_0 HX0.out hx0.drew).mono ?_; rintro e w8 ⟨g9, rfl, hb9, hg9, hm9⟩; have a0_0 := cell_in hb9 a0_0; have a0_1 := cell_in hb9 a0_1; have p0_0 := cell_in hb9 p0_0; have p0_1 := cell_in hb9 p0_1)
      | (go_at_call 22; refine (eqNet_same m0 _ _ n0 n0 n0 xs0 _ h20_0 HX0.out (hq.drew.below hb9) (hm9.arcs HX0.out)).mono ?_; rintro e w9 ⟨rfl, hb10⟩; have a0_0 := cell_in hb10 a0_0; have a0_1 := cell_in hb10 a0_1; have p0_0 := cell_in hb10 p0_0; have p0_1 := cell_in hb10 p0_1))
  have hb : Past w7 w9 := (Past.refl w7).drew.trans (Past.trans hb9 hb10)
  clear hb9 hb10 hq hm9 hg9
  have hx0 := hx0.below hb
  have hz := hz.below hb
  have hm0 := hm0.below hb
  have hi := hi.below hb
  have ho := ho.below hb
  have hP := Past.trans hP hb
  have s9 := hb.size
  clear hb
  clear p0_0 p0_1
  have hr0 := hm0.1
  clear hm0
  go_wp2_with fail
  refine (markNet_any m0 (some ⟨g0, 0, none⟩) n0 n0 (1) g0 52 _ h20_0 _ (by first | rfl | (push_cast; omega)) (by omega) (.inr ⟨g0, n0 * 5, rfl, Nat.le_refl _, hr0, by omega⟩ : OwnAt _ g0 (some ⟨g0, 0, none⟩) 52 5 n0)).mono ?_
  rintro e w10 ⟨rfl, hb, _⟩
  have hb' : w9.grownBy w10 (some g0) := hb
  have hP : Past w w10 := below_marked hP hb (.inr ⟨g0, n0 * 5, rfl, Nat.le_refl _, hr0, by omega⟩ : OwnAt _ g0 (some ⟨g0, 0, none⟩) 52 5 n0) (by omega)
  have hx0 := ArcsAt.old hx0E hx0 hb' (by omega)
  have a0_0 := cell_far hb' a0_0 (by simp only [ne_eq]; omega)
  have a0_1 := cell_far hb' a0_1 (by simp only [ne_eq]; omega)
  have hz := IntsAt.old hzE hz hb' (by omega)
  have hi := IntsAt.young (by rw [← HN.out]; exact ho) hi hb' (by omega)
  have ho := ho.young hb' (by omega)
  have s10 := hb'.size
  clear hb hb' hr0
  have hkn : ¬ (((1 : Nat) : Int) + 5 * (n0 : Int) < 0) := by omega
  go_wp2_with fail
  refine (eqIntS_same A7 A4 N c7 c4 zs _ hzl HN.out.symm hi hz).mono ?_
  rintro e w11 ⟨rfl, hb⟩
  have hx0 := hx0.below hb
  have a0_0 := cell_in hb a0_0
  have a0_1 := cell_in hb a0_1
  have hz := hz.below hb
  have hi := hi.below hb
  have ho := ho.below hb
  have hP := Past.trans hP hb
  have s11 := hb.size
  clear hb
  go_wp2_with fail
  refine (markIntS_any A7 N c7 1 w5.heap.size 3 _ hzl _ rfl (by omega) ho).mono ?_
  rintro e w12 ⟨rfl, hb, hk⟩
  have hbl : Below w5.heap.size w11 w12 := below_own hb ho (by omega)
  have hP : Past w w12 := below_marked hP hb ho (by omega)
  clear hi ho
  have hx0 := ArcsAt.under hx0E hx0 hbl (by omega)
  have a0_0 := (hbl.cell (p := ⟨w.heap.size, 0, none⟩) (by simp only; omega)).trans a0_0
  have a0_1 := (hbl.cell (p := ⟨w.heap.size, 1, none⟩) (by simp only; omega)).trans a0_1
  have hz := IntsAt.under hzE hz hbl (by omega)
  clear hb hbl
  go_wp2_with fail
  refine (heldIntS_any A7 N c7 1 _ hzl _ rfl (by omega) hk).mono ?_
  rintro e w_ ⟨rfl, rfl⟩
  have hqn : ¬ (((1 : Nat) : Int) + (N : Int) < 0) := by omega
  go_wp2_with fail
  refine (toNet_any m0 A0 n0 c0 xs0 _ h20_0 HX0.out hx0).mono ?_
  rintro e w13 ⟨tg0, rfl, hb, hg, tm0⟩
  have hx0 := hx0.below hb
  have a0_0 := cell_in hb a0_0
  have a0_1 := cell_in hb a0_1
  have hz := hz.below hb
  have hk := hk.below hb
  have hP := Past.trans hP hb
  have s13 := hb.size
  clear hb hg
  go_wp2_with fail
  refine (implLoadWalk_any m0 _ n0 n0 xs0 z1 z2 z3 _ h20_0 HX0.out (tm0.arcs HX0.out)).mono ?_
  rintro e w14 ⟨v20, rfl, hv20, hb⟩
  rw [← HK.out]
  rw [← HZ.out] at hv20
  obtain ⟨A20, c20, rfl, hi20, ho20⟩ := hv20.form
  rw [← HN.out]
  clear hv20 ho20
  have hx0 := hx0.below hb
  have a0_0 := cell_in hb a0_0
  have a0_1 := cell_in hb a0_1
  have hz := hz.below hb
  have hk := hk.below hb
  have tm0 := tm0.below hb
  have hP := Past.trans hP hb
  have s14 := hb.size
  clear hb
  go_wp2_with fail
  refine (eqIntS_same A20 A4 N c20 c4 zs _ hzl HN.out.symm hi20 hz).mono ?_
  rintro e w15 ⟨rfl, hb⟩
  have hx0 := hx0.below hb
  have a0_0 := cell_in hb a0_0
  have a0_1 := cell_in hb a0_1
  have hz := hz.below hb
  have hk := hk.below hb
  have tm0 := tm0.below hb
  have hP := Past.trans hP hb
  have s15 := hb.size
  clear hb
  go_wp2_with fail
  refine (heldIntS_any A7 N c7 1 _ hzl _ rfl (by omega) hk).mono ?_
  rintro e w_ ⟨rfl, rfl⟩
  go_wp2
  go_ret
  exact ⟨rfl, hP⟩

set_option maxRecDepth 100000 in
theorem exactLoadWalk_lifted (os : Os) (started : os.Started) (H : Type) (enc : TypeId × Value → H) :
    ReturnsInHanded {} Try.checked os 14 .any (Rows.fnExactLoadWalkSpec.pre6 enc Try.prog Try.f14 Rows.fnExactLoadWalkRow.domain false) (Rows.fnExactLoadWalkSpec.post enc Try.prog Try.f14 false true false false) := by
  refine returnsInHanded_of_change (C := Try.checked) own started (by kernel_rfl) Try.func14
    (ChangeSpec.witness6 (enc := enc) (C := Try.checked) false ⟨#[], #[.agg #[.int .i64 0, .slice none 0 0], .int .i64 0, .int .i64 0, .int .i64 0], []⟩ 8 (by kernel_rfl) (by kernel_rfl) (by kernel_rfl) (by kernel_rfl)) ?_
  intro W base args ds gs before hval0 hW hcnd _
  have hval : ∀ (j : Nat) t v, Try.f14.params[j]? = some t → args[j]? = some v → Value.okWide Try.prog W .any base t v := hval0
  have hW' := hW
  obtain ⟨p, q, hA0, hV, rfl, hfz, hnd⟩ := hW
  have hA : DataW.TrodAll enc Try.prog W 0 (fun _ => true) true Try.f14.params.toList args.toList ds p := hA0
  rw [Try.params14] at hA hval
  obtain ⟨v0, vs0, d0, ds0, p0, q0, hargs, rfl, rfl, h0, r0⟩ := trodAll_cons hA
  obtain ⟨v1, vs1, d1, ds1, p1, q1, rfl, rfl, rfl, h1, r1⟩ := trodAll_cons r0
  obtain ⟨v2, vs2, d2, ds2, p2, q2, rfl, rfl, rfl, h2, r2⟩ := trodAll_cons r1
  obtain ⟨v3, vs3, d3, ds3, p3, q3, rfl, rfl, rfl, h3, r3⟩ := trodAll_cons r2
  obtain ⟨rfl, rfl, rfl⟩ := trodAll_nil r3
  obtain rfl : args = #[v0, v1, v2, v3] := by cases args; simp_all
  obtain ⟨rfl, rfl⟩ := trodVars_none hV
  have k0 := h0
  have lt0 := places_lt k0
  have k1 := h1
  have lt1 := places_lt k1
  have k2 := h2
  have lt2 := places_lt k2
  have k3 := h3
  have lt3 := places_lt k3
  obtain ⟨m0, A0, n0, c0, xs0, rfl, hl0, hn0, hx0, _⟩ := open_net (hval 0 24 v0 rfl rfl) h0
  obtain ⟨z1, rfl⟩ := okWide_int Try.underlying3 (hval 1 3 v1 rfl rfl)
  obtain ⟨z2, rfl⟩ := okWide_int Try.underlying3 (hval 2 3 v2 rfl rfl)
  obtain ⟨z3, rfl⟩ := okWide_int Try.underlying3 (hval 3 3 v3 rfl rfl)
  clear hA0 hval0
  refine (exactLoadWalk_walk m0 A0 n0 c0 xs0 z1 z2 z3 W hn0 hl0 hx0).mono fun e W' ⟨he, bel⟩ => ?_
  subst he
  exact ⟨_, rfl, _, _, _, [], _, [], hW', trodAll_mk1 (shut_bool Try.underlying4 _), (trodAll_cons_mk (Below.trod laidOut (by kernel_rfl) (of_decide_eq_true (by kernel_rfl)) k0 bel lt0) (trodAll_cons_mk (Below.trod laidOut (by kernel_rfl) (of_decide_eq_true (by kernel_rfl)) k1 bel lt1) (trodAll_cons_mk (Below.trod laidOut (by kernel_rfl) (of_decide_eq_true (by kernel_rfl)) k2 bel lt2) (trodAll_cons_mk (Below.trod laidOut (by kernel_rfl) (of_decide_eq_true (by kernel_rfl)) k3 bel lt3) trodAll_mk0)))), rfl, bel.frame _, fun h => by cases h⟩

/-- The given statement. -/
theorem exactLoadWalk_proved : Rows.FnExactLoadWalkSaid :=
  OpenClaim.holds_of_wide 14 Try.f14 rfl rfl rfl rfl rfl rfl rfl ⟨rfl, rfl, rfl, rfl, rfl⟩ rfl rfl rfl rfl rfl (by kernel_rfl) Try.func14 (by kernel_rfl)
    (of_decide_eq_true (by kernel_rfl)) (by unfold Func.isWrapper; first | (rw [if_pos (by decide +kernel)]; kernel_rfl) | (rw [if_neg (by decide +kernel)]; exact ⟨rfl, rfl⟩))
    (fun os started H enc _ => exactLoadWalk_lifted os started H enc)

end Go.Proofs.Ytaojognjkiifmaa
