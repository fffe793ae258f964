/-
  pop: one item of a heap that is not empty. No condition.
-/
import Derived.Test.YtaojognjkiifmacNSink
import Derived.StillTailTactics
namespace Go.Proofs.Ytaojognjkiifmac
open Go.RowKit

/-- Behind pop. -/
def Popped (w : World) (hp lo g n cap : Nat) (H : List OpenD) (e : Ending) (w' : World) : Prop :=
  ∃ a0 a1 a2 H', e = .returned (.agg #[.int .i64 a0, .int .i64 a1, .int .i64 a2]) ∧ H'.length = n ∧ (∀ x, x ∈ H ↔ x = ⟨a0, a1, a2⟩ ∨ x ∈ H') ∧ HeapAt w' hp lo (.slice (some ⟨g, 0, none⟩) n cap) H' ∧ Ch (fun x => x = hp ∨ x = g) w w'

set_option maxRecDepth 1000000 in
set_option maxHeartbeats 4000000 in
theorem pop_any (hp lo g n cap : Nat) (H : List OpenD) (w : World) (h : HeapAt w hp lo (.slice (some ⟨g, 0, none⟩) (n + 1) cap) H) (hn : H.length = n + 1) (hn2 : n ≤ 99999999) :
    Calls Try.prog 89 #[.pointer (some ⟨hp, 0, none⟩)] w (Popped w hp lo g n cap H) := by
  have HN := Lib.hid hn
  have hgp : g ≠ hp := fun e => h.off (by rw [e]; rfl)
  have hcap : n + 1 ≤ cap := by
    rcases h.rowH.2 with ⟨e, _⟩ | ⟨g', cap', cur, e, _, _, hc, _, _, _⟩
    · cases e
    · injection e with e1 e2 e3
      subst e3
      rw [hn] at hc
      exact hc
  obtain ⟨⟨a0, a1, a2⟩, ha⟩ : ∃ a, H[0]? = some a := ⟨_, List.getElem?_eq_getElem (by omega)⟩
  obtain ⟨⟨y0, y1, y2⟩, hy⟩ : ∃ a, H[n]? = some a := ⟨_, List.getElem?_eq_getElem (by omega)⟩
  have HP := Lib.hid (pop_mem hn ha hy)
  obtain ⟨V, hV⟩ : ∃ V, V = (w.alloc (.cells #[.int .i64 0, .int .i64 0, .int .i64 0] 113)).alloc (.cells #[.int .i64 a0, .int .i64 a1, .int .i64 a2] 113) := ⟨_, rfl⟩
  have hpV : Past w V := by rw [hV]; exact ((Past.refl w).alloc _).alloc _
  have hsV : V.heap.size = w.heap.size + 2 := by rw [hV]; simp
  have v0 : V.cell? ⟨w.heap.size + 1, 0, none⟩ = some (.int .i64 a0) := by rw [hV]; go_simp
  have v1 : V.cell? ⟨w.heap.size + 1, 1, none⟩ = some (.int .i64 a1) := by rw [hV]; go_simp
  have v2 : V.cell? ⟨w.heap.size + 1, 2, none⟩ = some (.int .i64 a2) := by rw [hV]; go_simp
  have r0 : RowN V w.heap.size 113 3 := by
    have r : RowN (w.alloc (.cells #[.int .i64 0, .int .i64 0, .int .i64 0] 113)) w.heap.size 113 3 := ⟨_, heap_alloc_new w _, rfl⟩
    rw [hV]
    exact r.keep (((Past.refl _).alloc _).block _ r.lt)
  have hw0 := h.row.lt
  have hgw := (World.ownsRow.lt h.rowH g rfl).2
  have hh := h.past hpV
  obtain ⟨d0, d1, d2⟩ := h.rowH.get hn ha
  have b0 := h.items
  simp only [Nat.zero_mul, Nat.zero_add] at d0 d1 d2
  have i0 : (0 : Int) < (n : Int) + 1 := by omega
  have i0' : 0 < n + 1 := by omega
  have wN : IntKind.i64.wrap ((n : Int) + 1 - 1) = (n : Int) := by rw [IntWalk.i64_in _ (by omega)]; omega
  have wN' : IntKind.i64.wrap (n : Int) = (n : Int) := IntWalk.i64_in _ (by omega)
  clear h hn ha
  go_enter Try.func89, Try.ntmps89
  go_wp2_with fail
  rw [← hV]
  clear hV
  obtain ⟨e0, e1, e2⟩ := hh.rowH.get HN.out hy
  simp only at e0 e1 e2
  have b0 := hh.items
  have z0 := hh.rowH.frozen HN.out 0
  have z1 := hh.rowH.frozen HN.out 1
  have z2 := hh.rowH.frozen HN.out 2
  obtain ⟨d0, d1, d2⟩ := hh.rowH.get (j := 0) HN.out (by rw [List.getElem?_eq_getElem (by have := HN.out; omega)])
  simp only [Nat.zero_mul, Nat.zero_add] at d0 d1 d2
  have j0 : (0 : Int) ≤ (n : Int) := by omega
  have j1 : (n : Int) < (n : Int) + 1 := by omega
  have j2 : n < n + 1 := by omega
  obtain ⟨rw1, gw1⟩ := hh.rowH.put HN.out 0 y0 y1 y2
  simp only [Nat.zero_mul, Nat.zero_add] at rw1 gw1
  have h1 := hh.items_ rw1 gw1
  have hl1 : (H.set 0 (⟨y0, y1, y2⟩ : OpenD)).length = n + 1 := by rw [List.length_set]; exact HN.out
  have c1 := (Ch.of_past (S := fun x => x = hp ∨ x = g) hpV).grown gw1 (fun _ => .inr rfl)
  have fz := hh.row.frozen 0
  have nq1 : w.heap.size ≠ g := by omega
  have nq2 : w.heap.size + 1 ≠ g := by omega
  have nq3 : w.heap.size ≠ hp := by omega
  have nq4 : w.heap.size + 1 ≠ hp := by omega
  have hcap' : (n : Int) ≤ (cap : Int) := by omega
  have HY := Lib.hid hy
  clear hy
  go_region
  have h1d := h1.drew
  have c1d := c1.drew
  have v0 := (World.cell?_setCell_other _ ⟨g, 2, none⟩ _ (.int .i64 y2) (by intro e; injection e; omega)).trans ((World.cell?_setCell_other _ ⟨g, 1, none⟩ _ (.int .i64 y1) (by intro e; injection e; omega)).trans ((World.cell?_setCell_other _ ⟨g, 0, none⟩ _ (.int .i64 y0) (by intro e; injection e; omega)).trans v0))
  have v1 := (World.cell?_setCell_other _ ⟨g, 2, none⟩ _ (.int .i64 y2) (by intro e; injection e; omega)).trans ((World.cell?_setCell_other _ ⟨g, 1, none⟩ _ (.int .i64 y1) (by intro e; injection e; omega)).trans ((World.cell?_setCell_other _ ⟨g, 0, none⟩ _ (.int .i64 y0) (by intro e; injection e; omega)).trans v1))
  have v2 := (World.cell?_setCell_other _ ⟨g, 2, none⟩ _ (.int .i64 y2) (by intro e; injection e; omega)).trans ((World.cell?_setCell_other _ ⟨g, 1, none⟩ _ (.int .i64 y1) (by intro e; injection e; omega)).trans ((World.cell?_setCell_other _ ⟨g, 0, none⟩ _ (.int .i64 y0) (by intro e; injection e; omega)).trans v2))
  have r1 := ((r0.set ⟨g, 0, none⟩ (.int .i64 y0)).set ⟨g, 1, none⟩ (.int .i64 y1)).set ⟨g, 2, none⟩ (.int .i64 y2)
  obtain ⟨X, hX⟩ : ∃ X, X = (((V.setCell ⟨g, 0, none⟩ (.int .i64 y0)).setCell ⟨g, 1, none⟩ (.int .i64 y1)).setCell ⟨g, 2, none⟩ (.int .i64 y2)).drew := ⟨_, rfl⟩
  have v0 : X.cell? ⟨w.heap.size + 1, 0, none⟩ = some (.int .i64 a0) := by rw [hX]; exact v0
  have v1 : X.cell? ⟨w.heap.size + 1, 1, none⟩ = some (.int .i64 a1) := by rw [hX]; exact v1
  have v2 : X.cell? ⟨w.heap.size + 1, 2, none⟩ = some (.int .i64 a2) := by rw [hX]; exact v2
  have r1 : RowN X w.heap.size 113 3 := by rw [hX]; exact r1
  rw [← hX] at h1d c1d ⊢
  clear hX h1 c1 r0 rw1 gw1 hh e0 e1 e2 z0 z1 z2 d0 d1 d2 b0 fz hpV
  have b0 := h1d.items
  have fz := h1d.row.frozen 0
  have h2 := h1d.setItems (h1d.rowH.drop hl1)
  have c2 := c1d.grown (g := hp) (grown_set (grown_refl _ _) 0 (.slice (some ⟨g, 0, none⟩) n cap)) (fun _ => .inl rfl)
  have hl2 : ((H.set 0 (⟨y0, y1, y2⟩ : OpenD)).take n).length = n := by rw [List.length_take, hl1]; omega
  have v0 := (World.cell?_setCell_other X ⟨hp, 0, none⟩ _ (.slice (some ⟨g, 0, none⟩) n cap) (by intro e; injection e; omega)).trans v0
  have v1 := (World.cell?_setCell_other X ⟨hp, 0, none⟩ _ (.slice (some ⟨g, 0, none⟩) n cap) (by intro e; injection e; omega)).trans v1
  have v2 := (World.cell?_setCell_other X ⟨hp, 0, none⟩ _ (.slice (some ⟨g, 0, none⟩) n cap) (by intro e; injection e; omega)).trans v2
  have r2 := r1.set ⟨hp, 0, none⟩ (.slice (some ⟨g, 0, none⟩) n cap)
  go_wp2_with fail
  refine (sink_any hp lo g n cap _ _ h2 hl2 (by omega)).mono ?_
  rintro e w3 ⟨rfl, H', hl', hm', h3, hc3⟩
  have v0 := hc3.cell v0 (by simp only; omega)
  have v1 := hc3.cell v1 (by simp only; omega)
  have v2 := hc3.cell v2 (by simp only; omega)
  have r3 := hc3.rowN r2 (by omega)
  obtain ⟨u0, q0⟩ := r3.cell (i := 0) (by omega)
  obtain ⟨u1, q1⟩ := r3.cell (i := 1) (by omega)
  obtain ⟨u2, q2⟩ := r3.cell (i := 2) (by omega)
  have z0 := r3.frozen 0
  have z1 := r3.frozen 1
  have z2 := r3.frozen 2
  have c4 := c2.trans hc3 (fun x _ e => .inr e)
  have c5 := ((c4.grown (g := w.heap.size) (grown_set (grown_refl _ _) 0 (.int .i64 a0)) (fun h => absurd h (by omega))).grown (g := w.heap.size) (grown_set (grown_refl _ _) 1 (.int .i64 a1)) (fun h => absurd h (by omega))).grown (g := w.heap.size) (grown_set (grown_refl _ _) 2 (.int .i64 a2)) (fun h => absurd h (by omega))
  have h4 := ((h3.ch (S := fun x => x = w.heap.size) (Ch.of_grown (grown_set (grown_refl _ _) 0 (.int .i64 a0)) (fun g e => by injection e with e; exact e.symm)) (by omega) (fun g' e => by have : g = g' := Option.some.inj e; show ¬ g' = w.heap.size; omega)).ch (S := fun x => x = w.heap.size) (Ch.of_grown (grown_set (grown_refl _ _) 1 (.int .i64 a1)) (fun g e => by injection e with e; exact e.symm)) (by omega) (fun g' e => by have : g = g' := Option.some.inj e; show ¬ g' = w.heap.size; omega)).ch (S := fun x => x = w.heap.size) (Ch.of_grown (grown_set (grown_refl _ _) 2 (.int .i64 a2)) (fun g e => by injection e with e; exact e.symm)) (by omega) (fun g' e => by have : g = g' := Option.some.inj e; show ¬ g' = w.heap.size; omega)
  have HM := Lib.hid hm'
  have HL := Lib.hid hl'
  clear hm' hl'
  go_wp2
  exact bodyPost_ret (v := .agg #[.int .i64 a0, .int .i64 a1, .int .i64 a2]) (by simp [results, Try.results89, go_sem, q0, q1, q2]) rfl ⟨a0, a1, a2, H', rfl, HL.out, fun x => (HP.out x).trans (or_congr Iff.rfl (HM.out x).symm), h4, c5⟩

end Go.Proofs.Ytaojognjkiifmac
