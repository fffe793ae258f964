/-
  push: a heap has one item more. No condition.
-/
import Derived.BigRegion
import Derived.Deep.AppendLies
import Derived.Deep.RegionLaw
import Derived.Deep.DeepCutAuto
import Derived.Test.YtaojognjkiifmacNCh
import Derived.Test.YtaojognjkiifmacQPast
namespace Go.Proofs.Ytaojognjkiifmac
open Go.RowKit

theorem infoOpen : (Try.prog.info? 113).map (fun i => (i.zero, i.size, i.bytes)) = some (some (.agg #[.int .i64 0, .int .i64 0, .int .i64 0]), 3, 24) := by kernel_rfl
theorem newOpen (w : World) (x0 x1 x2 : Value) (t : Nat) : ∀ j u, ([x0, x1, x2] : List Value)[j]? = some u → (w.alloc (.cells #[x0, x1, x2] t)).cell? ((⟨w.heap.size, 0, none⟩ : Addr).add j) = some u := by
  intro j u hu
  rw [Addr.add_lit, Nat.zero_add, cell_of_row _ _ _ _ _ _ (heap_alloc_new w _)]
  simpa using hu

/-- Behind push. -/
def Pushed (w : World) (hp lo : Nat) (v : Value) (H : List OpenD) (a : OpenD) (e : Ending) (w' : World) : Prop :=
  e = .returned (.tuple #[]) ∧ ∃ g cap H', H'.length = H.length + 1 ∧ (∀ x, x ∈ H' ↔ x = a ∨ x ∈ H) ∧ HeapAt w' hp lo (.slice (some ⟨g, 0, none⟩) (H.length + 1) cap) H' ∧ Ch (fun x => x = hp ∨ v.ownBlock = some x) w w' ∧ (v.ownBlock = some g ∨ w.heap.size ≤ g)

/-- Behind the append. -/
def PushCut (w : World) (hp lo : Nat) (v : Value) (H : List OpenD) (a : OpenD) (N : Nat) (_s : Value) (wx : World) : Prop :=
  ∃ g cap, HeapAt wx hp lo (.slice (some ⟨g, 0, none⟩) (N + 1) cap) (H ++ [a]) ∧ Ch (fun x => x = hp ∨ v.ownBlock = some x) w wx ∧ (v.ownBlock = some g ∨ w.heap.size ≤ g)

theorem PushCut.mk {w V w1 : World} {hp lo N g cap : Nat} {v s : Value} {H : List OpenD} {a0 a1 a2 : Int} {o : Obj} (hh : HeapAt V hp lo v H) (hpV : Past w V) (hN : N = H.length) (hsV : V.heap.size = w.heap.size + 1)
    (hown : w1.ownsRow lo 113 3 (.slice (some ⟨g, 0, none⟩) (N + 1) cap) (N + 1) (cellsOpen H ++ [.int .i64 a0, .int .i64 a1, .int .i64 a2])) (hg : (V.alloc o).drew.grownBy w1 v.ownBlock) (hat : v.ownBlock = some g ∨ g = V.heap.size + 1) :
    PushCut w hp lo v H ⟨a0, a1, a2⟩ N s (w1.setCell ⟨hp, 0, none⟩ (.slice (some ⟨g, 0, none⟩) (N + 1) cap)) := by
  have hA := (hh.past ((Past.refl V).alloc o)).drew
  have hr := hA.row.keep (hg.block hp hA.row.lt (fun e => hA.off e.symm))
  have c1 := hg.cell hA.before (fun e => hA.off e.symm)
  have c0 := hg.cell hA.items (fun e => hA.off e.symm)
  have hrow : RowOpen w1 lo (.slice (some ⟨g, 0, none⟩) (N + 1) cap) (H ++ [⟨a0, a1, a2⟩]) := by
    unfold RowOpen
    rw [List.length_append, ← hN, cellsOpen_append]
    exact hown
  have hne : (Value.slice (some ⟨g, 0, none⟩) (N + 1) cap).ownBlock ≠ some hp := fun e => own_ne hrow hh.lt e.symm
  have hc1 : Ch (fun x => x = hp ∨ v.ownBlock = some x) w w1 := by
    refine (Ch.of_past (S := fun x => x = hp ∨ v.ownBlock = some x) (hpV.alloc o).drew).trans (Ch.of_grown (S := fun x => v.ownBlock = some x) hg (fun g e => e)) (fun x _ e => .inr e)
  refine ⟨g, cap, ⟨hr.set _ _, World.cell?_setCell_same _ _ _ c0, (World.cell?_setCell_other _ _ _ _ (by simp)).trans c1, own_far hrow hne _, hh.lt⟩, ?_, ?_⟩
  · exact hc1.grown (g := hp) (grown_set (grown_refl _ _) _ _) (fun _ => .inl rfl)
  · rcases hat with e | e
    · exact .inl e
    · exact .inr (by omega)

set_option maxRecDepth 1000000 in
set_option maxHeartbeats 4000000 in
theorem push_any (hp lo : Nat) (v : Value) (H : List OpenD) (a0 a1 a2 : Int) (w : World) (h : HeapAt w hp lo v H) (hn2 : H.length ≤ 100000000) (hlo : lo ≤ w.heap.size) :
    Calls Try.prog 88 #[.pointer (some ⟨hp, 0, none⟩), .agg #[.int .i64 a0, .int .i64 a1, .int .i64 a2]] w (Pushed w hp lo v H ⟨a0, a1, a2⟩) := by
  obtain ⟨i0, hi, hz0, hz1, hz2⟩ := info_parts infoOpen
  obtain ⟨N, hN⟩ : ∃ N, N = H.length := ⟨_, rfl⟩
  rw [← hN] at hn2
  have HN := Lib.hid hN
  clear hN
  obtain ⟨V, hV⟩ : ∃ V, V = w.alloc (.cells #[.int .i64 a0, .int .i64 a1, .int .i64 a2] 113) := ⟨_, rfl⟩
  have hpV : Past w V := by rw [hV]; exact (Past.refl w).alloc _
  have hsV : V.heap.size = w.heap.size + 1 := by rw [hV]; simp
  have v0 : V.cell? ⟨w.heap.size, 0, none⟩ = some (.int .i64 a0) := by rw [hV]; go_simp
  have v1 : V.cell? ⟨w.heap.size, 1, none⟩ = some (.int .i64 a1) := by rw [hV]; go_simp
  have v2 : V.cell? ⟨w.heap.size, 2, none⟩ = some (.int .i64 a2) := by rw [hV]; go_simp
  have hh := h.past hpV
  have b0 := hh.items
  have hrow : V.ownsRow lo 113 3 v N (cellsOpen H) := by rw [HN.out]; exact hh.rowH
  have HK : Hid (∀ w1, (V.alloc (.cells #[.int .i64 a0, .int .i64 a1, .int .i64 a2] 113)).drew.grownBy w1 v.ownBlock → w1.cell? ⟨hp, 0, none⟩ = some v ∧ w1.frozen? ⟨hp, 0, none⟩ = false ∧ w1.cell? ⟨hp, 1, none⟩ = some (.func (.func 87) #[] #[]) ∧ RowN w1 hp 110 2) := by
    intro w1 hg
    have hA := (hh.past ((Past.refl V).alloc (.cells #[.int .i64 a0, .int .i64 a1, .int .i64 a2] 113))).drew
    have hr := hA.row.keep (hg.block hp hA.row.lt (fun e => hA.off e.symm))
    exact ⟨hg.cell hA.items (fun e => hA.off e.symm), hr.frozen 0, hg.cell hA.before (fun e => hA.off e.symm), hr⟩
  have hNew : (V.alloc (.cells #[.int .i64 a0, .int .i64 a1, .int .i64 a2] 113)).heap[w.heap.size + 1]? = some (.cells #[.int .i64 a0, .int .i64 a1, .int .i64 a2] 113) := by rw [← hsV]; exact heap_alloc_new V _
  have hVs : lo ≤ V.heap.size := by omega
  have f0 := hh.row.frozen 0
  go_enter Try.func88, Try.ntmps88
  go_wp2_with fail
  rw [← hV]
  clear hV
  have hA0 := cell_in ((Past.refl V).alloc (.cells #[.int .i64 a0, .int .i64 a1, .int .i64 a2] 113)) b0
  go_cut [13] (PushCut w hp lo v H ⟨a0, a1, a2⟩ N)
  case first =>
    go_region_law ((refine step_append_lies _ (by rfl) _ _ _ (by rfl) lo 113 i0 _ 3 24 Try.underlying108 hi hz0 hz1 hz2 rfl (by omega) v N (cellsOpen H) (by rfl) ((hrow.alloc _).drew) ⟨w.heap.size + 1, 0, none⟩ 1 1 [.int .i64 a0, .int .i64 a1, .int .i64 a2] (by rfl) (by rfl) (World.news_of_block (cs := #[.int .i64 a0, .int .i64 a1, .int .i64 a2]) (t := 113) (fr := (0, 0)) hNew) (by intro u hu; simp at hu; rcases hu with rfl | rfl | rfl <;> rfl) (by omega) (by unfold maxLen; omega) (by omega) (by simp; omega) (V.heap.size + 1) (by simp) ?_; intro g cap w1 hown1 hgrow hat hlt'; have q0 := (HK.out _ hgrow).1; have q1 := (HK.out _ hgrow).2.1))
    all_goals go_wp2_with fail
    all_goals go_meet
    all_goals exact PushCut.mk hh hpV HN.out hsV hown1 hgrow hat
  case rest =>
    obtain ⟨g, cap, hq, hch, hat⟩ := hcut
    have b0 := hq.items
    clear v0 v1 v2 hA0 hNew HK hrow f0 hi hz0 hz1 hz2
    have hH : (H ++ [(⟨a0, a1, a2⟩ : OpenD)]).length = N + 1 := by rw [List.length_append, ← HN.out]; rfl
    have hm : ∀ x, x ∈ H ++ [(⟨a0, a1, a2⟩ : OpenD)] ↔ x = ⟨a0, a1, a2⟩ ∨ x ∈ H := fun x => by rw [List.mem_append, List.mem_singleton]; exact Or.comm
    obtain ⟨H1, hH1⟩ : ∃ H1, H1 = H ++ [(⟨a0, a1, a2⟩ : OpenD)] := ⟨_, rfl⟩
    rw [← hH1] at hq hH hm
    have HM := Lib.hid hm
    have HL := Lib.hid hH
    clear hm hH hH1
    have wN : IntKind.i64.wrap ((N : Int) + 1 - 1) = (N : Int) := by rw [IntWalk.i64_in _ (by omega)]; omega
    have wN' : IntKind.i64.wrap (N : Int) = (N : Int) := IntWalk.i64_in _ (by omega)
    go_wp2
    go_loopw [4] (fun i wr => ∃ (k : Nat) (H' : List OpenD), i = .int .i64 k ∧ k ≤ N ∧ H'.length = N + 1 ∧ (∀ x, x ∈ H' ↔ x ∈ H1) ∧ HeapAt wr hp lo (.slice (some ⟨g, 0, none⟩) (N + 1) cap) H' ∧ Ch (fun x => x = g) wc wr) (fun i _ => (intOf i).toNat)
    case atStart => exact ⟨N, H1, by go_num, by omega, HL.out, fun x => Iff.rfl, hq, Ch.refl _ _⟩
    case round =>
      obtain ⟨k, H', rfl, hk, hl, hm, hh, hch2⟩ := hrel
      have HM2 := Lib.hid hm
      have HL2 := Lib.hid hl
      clear hm hl
      have b0 := hh.items
      have b1 := hh.before
      have hdone : ∀ wz, Past wr wz → Pushed w hp lo v H ⟨a0, a1, a2⟩ (.returned (.tuple #[])) wz := fun wz hz =>
        ⟨rfl, g, cap, H', by rw [HL2.out, ← HN.out], fun x => (HM2.out x).trans (HM.out x), by rw [← HN.out]; exact hh.past hz, hch.trans (hch2.past hz) (fun x hx e => by subst e; rcases hat with e | e; exact .inr e; omega), hat⟩
      have DONE := Lib.hid hdone
      clear hdone
      by_cases hk0 : 0 < k
      · obtain ⟨q, hq1⟩ : ∃ q, q = k - 1 := ⟨_, rfl⟩
        obtain ⟨p, hp1⟩ : ∃ p, p = q / 2 := ⟨_, rfl⟩
        have hw1 : IntKind.i64.wrap ((k : Int) - 1) = (q : Int) := by rw [IntWalk.i64_in _ (by omega)]; omega
        have hw2 : (q : Int) / 2 = (p : Int) := by omega
        have hw3 : (q : Int).tdiv 2 = (p : Int) := by rw [Int.tdiv_eq_ediv_of_nonneg (by omega)]; omega
        have hw4 : IntKind.i64.wrap (p : Int) = (p : Int) := IntWalk.i64_in _ (by omega)
        have hpk : p < k := by omega
        have hk0' : 0 < (k : Int) := by omega
        obtain ⟨⟨x0, x1, x2⟩, hx⟩ : ∃ a, H'[k]? = some a := ⟨_, List.getElem?_eq_getElem (by have := HL2.out; omega)⟩
        obtain ⟨⟨y0, y1, y2⟩, hy⟩ : ∃ a, H'[p]? = some a := ⟨_, List.getElem?_eq_getElem (by have := HL2.out; omega)⟩
        obtain ⟨d0, d1, d2⟩ := hh.rowH.get HL2.out hx
        obtain ⟨e0, e1, e2⟩ := hh.rowH.get HL2.out hy
        simp only at d0 d1 d2 e0 e1 e2
        have i0 : (0 : Int) ≤ (k : Int) := by omega
        have i1 : (k : Int) < (N : Int) + 1 := by omega
        have i2 : (0 : Int) ≤ (p : Int) := by omega
        have i3 : (p : Int) < (N : Int) + 1 := by omega
        have i4 : k < N + 1 := by omega
        have i5 : p < N + 1 := by omega
        have C1 := Lib.hid (fun q : PastOf wr => sooner_any x0 x1 x2 y0 y1 y2 q.W)
        have B0 := past_cell b0
        have B1 := past_cell b1
        have D0 := past_cell d0
        have D1 := past_cell d1
        have D2 := past_cell d2
        have E0 := past_cell e0
        have E1 := past_cell e1
        have E2 := past_cell e2
        have HS := Lib.hid (swap_mem hx hy)
        clear hx hy hq1 hp1
        obtain ⟨bb, hbb⟩ : ∃ bb, bb = soonerB ⟨x0, x1, x2⟩ ⟨y0, y1, y2⟩ := ⟨_, rfl⟩
        rw [← hbb] at C1
        clear hbb
        go_wp2_with fail
        refine wp_region_past (by kernel_rfl) (by kernel_rfl) ?_
        repeat (quiet_step (with_reducible exact rfl))
        quiet_step ((go_at_call 87; exact past_call (C1.out _)))
        repeat (quiet_step (with_reducible exact rfl))
        refine wpQuiet_nil ?_
        rintro _ ⟨⟨W8, hW8⟩, rfl⟩
        cases bb with
        | false =>
          go_wp2
          refine bodyPost_ret (results_none rfl _ _ _) rfl ?_
          exact DONE.out _ hW8
        | true =>
          have h8 := hh.past hW8
          have b0 := h8.items
          have d0 := cell_in hW8 d0
          have d1 := cell_in hW8 d1
          have d2 := cell_in hW8 d2
          have e0 := cell_in hW8 e0
          have e1 := cell_in hW8 e1
          have e2 := cell_in hW8 e2
          have z0 := h8.rowH.frozen HL2.out (k * 3)
          have z1 := h8.rowH.frozen HL2.out (k * 3 + 1)
          have z2 := h8.rowH.frozen HL2.out (k * 3 + 2)
          have y0' := h8.rowH.frozen HL2.out (p * 3)
          have y1' := h8.rowH.frozen HL2.out (p * 3 + 1)
          have y2' := h8.rowH.frozen HL2.out (p * 3 + 2)
          have hgp : g ≠ hp := fun e => h8.off (by rw [e]; rfl)
          clear B0 B1 D0 D1 D2 E0 E1 E2
          go_wp2_with fail
          go_region
          go_wp2
          go_roundw
          case rel => exact ⟨p, _, rfl, by omega, by rw [List.length_set, List.length_set]; exact HL2.out, fun x => (HS.out x).trans (HM2.out x), (h8.swap HL2.out).1, (hch2.past hW8).grown (h8.swap HL2.out).2 (fun _ => rfl)⟩
          case measure => simp [intOf]; omega
      · obtain rfl : k = 0 := by omega
        go_wp2
        go_end0
        exact DONE.out _ (Past.refl _)

end Go.Proofs.Ytaojognjkiifmac
