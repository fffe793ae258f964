/-
  lengthsFrom: the lengths of the shortest ways from a node. No condition.
-/
import Derived.Sort.LoopGhostIn
import Derived.Laws.EntriesVeiled
import Derived.Test.YtaojognjkiifmacNRep
import Derived.Test.YtaojognjkiifmacNMem
import Derived.Test.YtaojognjkiifmacNArcs
namespace Go.Proofs.Ytaojognjkiifmac
open Go.RowKit Go.Shelf

attribute [local go_sem] Oper.semAt_some


theorem rowLen_of_heap {W : World} {g lo n : Nat} {L : List LenD} (h : W.heap[g]? = some (.cells (cellsLen L).toArray 105 (0, 0))) (hl : L.length = n) (hlo : lo ≤ g) (hn : n ≤ 1048576) : RowLen W lo (.slice (some ⟨g, 0, none⟩) n n) L := by
  unfold RowLen
  rw [hl]
  have hc : (cellsLen L).length = n * 2 := by rw [cellsLen_length, hl]
  exact ⟨hc, .inr ⟨g, n, (cellsLen L).toArray, rfl, hlo, h, Nat.le_refl _, by unfold maxLen; omega, by simpa using hc, by rw [List.toList_toArray, ← hc, List.take_length]⟩⟩

theorem RowLen.lower {w : World} {lo lo' : Nat} {v : Value} {L : List LenD} (h : RowLen w lo v L) (hl : lo' ≤ lo) : RowLen w lo' v L := by
  refine ⟨h.1, ?_⟩
  rcases h.2 with h0 | ⟨g, cap, cur, hv, hlo, r⟩
  · exact .inl h0
  · exact .inr ⟨g, cap, cur, hv, by omega, r⟩
/-- A loop over an iterator that is over. -/
def mkD (r : Nat) : Deferred := { target := .collected r, args := #[] }
/-- The frame between two rounds. -/
def lFrame (w : World) (M S k cap LB : Nat) (B : Option Addr) (u : Nat → Value) (ds : List Deferred) : Act :=
  { tmps := (.agg #[.int .i64 (M : Int), .slice B k cap] :: .int .i64 (S : Int) :: .pointer (some ⟨w.heap.size, 0, none⟩) :: undef :: .slice none 0 0 :: .pointer (some ⟨LB, 0, none⟩) :: .pointer (some ⟨LB + 1, 0, none⟩) :: u 7 :: u 8 :: u 9 :: u 10 :: .agg #[.int .i64 99999, .int .i64 0] :: .slice (some ⟨w.heap.size + 1, 0, none⟩) 1 1 :: .pointer (some ⟨w.heap.size, 0, none⟩) :: .int .i64 (M : Int) :: .slice (some ⟨w.heap.size + 1 + 1, 0, none⟩) M M :: .slice (some ⟨w.heap.size + 1 + 1, 0, none⟩) M M :: .int .i64 (S : Int) :: .agg #[.int .i64 0, .int .i64 0] :: .pointer (some ⟨w.heap.size + 1 + 1, S * 2, none⟩) :: .agg #[.slice none 0 0, .func (.func 87) #[] #[]] :: .int .i64 (S : Int) :: .agg #[.int .i64 (S : Int), .int .i64 0, .int .i64 0] :: .tuple #[] :: u 24 :: u 25 :: u 26 :: u 27 :: u 28 :: u 29 :: u 30 :: u 31 :: u 32 :: u 33 :: u 34 :: u 35 :: u 36 :: u 37 :: u 38 :: u 39 :: u 40 :: u 41 :: u 42 :: u 43 :: u 44 :: u 45 :: u 46 :: u 47 :: u 48 :: u 49 :: u 50 :: u 51 :: u 52 :: u 53 :: u 54 :: u 55 :: u 56 :: u 57 :: u 58 :: u 59 :: u 60 :: u 61 :: u 62 :: u 63 :: u 64 :: u 65 :: u 66 :: u 67 :: undef :: []).toArray, defers := ds }
theorem lFrame_mk {w : World} {M S k cap LB : Nat} {B : Option Addr} (t : Array Value) (ds : List Deferred) (h : t = (lFrame w M S k cap LB B (fun i => t.getD i undef) ds).tmps) : ∃ u, (Act.mk t ds) = lFrame w M S k cap LB B u ds :=
  ⟨fun i => t.getD i undef, by rw [lFrame]; congr 1⟩

/-- The frame of a round behind the comparison. -/
def bFrame (p2 p5 p6 p7 p8 p9 p10 p57 : Value) (u : Nat → Value) : Act :=
  { tmps := (u 0 :: u 1 :: p2 :: u 3 :: u 4 :: p5 :: p6 :: p7 :: p8 :: p9 :: p10 :: u 11 :: u 12 :: u 13 :: u 14 :: u 15 :: u 16 :: u 17 :: u 18 :: u 19 :: u 20 :: u 21 :: u 22 :: u 23 :: u 24 :: u 25 :: u 26 :: u 27 :: u 28 :: u 29 :: u 30 :: u 31 :: u 32 :: u 33 :: u 34 :: u 35 :: u 36 :: u 37 :: u 38 :: u 39 :: u 40 :: u 41 :: u 42 :: u 43 :: u 44 :: u 45 :: u 46 :: u 47 :: u 48 :: u 49 :: u 50 :: u 51 :: u 52 :: u 53 :: u 54 :: u 55 :: u 56 :: p57 :: u 58 :: u 59 :: u 60 :: u 61 :: u 62 :: u 63 :: u 64 :: u 65 :: u 66 :: u 67 :: u 68 :: []).toArray, defers := [] }
theorem bFrame_mk {p2 p5 p6 p7 p8 p9 p10 p57 : Value} (t : Array Value) (h : t = (bFrame p2 p5 p6 p7 p8 p9 p10 p57 (fun i => t.getD i undef)).tmps) : ∃ u, (Act.mk t []) = bFrame p2 p5 p6 p7 p8 p9 p10 p57 u :=
  ⟨fun i => t.getD i undef, by rw [bFrame]; congr 1⟩

/-- The marks are taken one by one. -/
theorem leaves_marks {F : Fence} {n : Nat} {P : Program} {fn : Func} {tmps : Array Value} {R : Ending → World → Prop} : ∀ (rs : List Nat) (W : World), rs.Nodup → (∀ r ∈ rs, W.heap[r]? = some (.deferred (some []))) →
    (∀ W', Ch (fun x => x ∈ rs) W W' → ∃ v, (results fn tmps).run P W' = .ok v W' ∧ R (.returned v) W') → LeavesInM F n P fn tmps R (rs.map mkD) .returning W
  | [], W, _, _, h => h W (Ch.refl _ _)
  | r :: rs, W, hn, hd, h => by
    obtain ⟨hnr, hn'⟩ := List.nodup_cons.1 hn
    refine ⟨by simp, .inl ⟨r, W.putObj r (.deferred none), rfl, run_takeDeferred (hd r List.mem_cons_self), leaves_marks rs _ hn' (fun r' hr' => ?_) (fun W' hc => ?_)⟩⟩
    · have hd' := hd r' (List.mem_cons_of_mem _ hr')
      rw [(grownBy_putObj' W r (.deferred none)).block r' (Array.getElem?_eq_some_iff.1 hd').1 (fun e => by injection e with e; exact hnr (e ▸ hr'))]
      exact hd'
    · exact h W' ((Ch.of_grown (S := fun x => x ∈ r :: rs) (grownBy_putObj' W r (.deferred none)) (fun g e => by injection e with e; rw [← e]; exact List.mem_cons_self)).trans hc (fun x _ hx => List.mem_cons_of_mem _ hx))

/-- The lengths of the shortest ways, in new memory. -/
def LensG (w : World) (M S : Nat) (xs : List ArcD) (e : Ending) (w' : World) : Prop :=
  ∃ g L, e = .returned (.slice (some ⟨g, 0, none⟩) M M) ∧ RowLen w' w.heap.size (.slice (some ⟨g, 0, none⟩) M M) L ∧ L.length = M ∧ Labs M xs S L ∧ AllOpen M xs L [] ∧ Below w.heap.size w w'

/-- What holds between two rounds. -/
structure LState (w wr : World) (M S k cap LB : Nat) (B : Option Addr) (xs : List ArcD) (q : Nat) (L : List LenD) (H : List OpenD) (g cp : Nat) (rs : List Nat) : Prop where
  mem : LMem w wr (M : Int) B k cap (w.heap.size + 1 + 1) LB (LB + 1) (LB + 2) M L H g cp rs
  labs : Labs M xs S L
  opens : AllOpen M xs L H
  items : ∀ x ∈ H, 0 ≤ x.x0 ∧ x.x0 < M ∧ x.x1 < 99999
  meas : 2 * ranks L + H.length ≤ q
  small : 2 * ranks L + H.length ≤ 99999999
  nodup : rs.Nodup
  since : ∀ r ∈ rs, w.heap.size ≤ r
def LLoop (w : World) (M S k cap LB : Nat) (B : Option Addr) (xs : List ArcD) (q : Nat) (a : Act) (wr : World) : Prop :=
  ∃ L H g cp rs, (∃ u, a = lFrame w M S k cap LB B u (rs.map mkD)) ∧ LState w wr M S k cap LB B xs q L H g cp rs

/-- What holds between two rounds of the inner loop. -/
structure RState (w W : World) (M S k cap LB X : Nat) (B : Option Addr) (xs : List ArcD) (V : Nat) (a1 a2 : Int) (q : Nat) (rs : List Nat) (pre : List Int) (L : List LenD) (H : List OpenD) (g cp : Nat) : Prop where
  mem : LMem w W (M : Int) B k cap (w.heap.size + 1 + 1) LB (LB + 1) (LB + 2) M L H g cp rs
  labs : Labs M xs S L
  opens : PreOpen M xs L H V pre
  items : ∀ x ∈ H, 0 ≤ x.x0 ∧ x.x0 < M ∧ x.x1 < 99999
  meas : 2 * ranks L + H.length ≤ q
  lab0 : lab L V = ⟨a1, a2⟩
  x0 : W.cell? ⟨X, 0, none⟩ = some (.int .i64 (V : Int))
  x1 : W.cell? ⟨X, 1, none⟩ = some (.int .i64 a1)
  x2 : W.cell? ⟨X, 2, none⟩ = some (.int .i64 a2)
  off : g < X ∨ X + 3 ≤ g
  base : X + 3 ≤ W.heap.size
  xb : LB + 2 ≤ X

section
variable {w W W' : World} {M S k cap LB X : Nat} {B : Option Addr} {xs : List ArcD} {V : Nat} {a1 a2 : Int} {q : Nat} {rs : List Nat} {pre : List Int} {L : List LenD} {H : List OpenD} {g cp : Nat}
theorem RState.turn {row : Option Nat} (h : RState w W M S k cap LB X B xs V a1 a2 q rs pre L H g cp) (hrs : ∀ r ∈ rs, r < X + 3) (hg : W.grownBy W' row) (hr : ∀ r, row = some r → X + 3 ≤ r ∧ ∃ o : Obj, W.heap[r]? = some o ∧ o.isCells = false) : RState w W' M S k cap LB X B xs V a1 a2 q rs pre L H g cp := by
  have hxb := h.xb
  have hord := h.mem.ord
  exact ⟨h.mem.turn hg hr (by omega) hrs, h.labs, h.opens, h.items, h.meas, h.lab0, cell_kept h.x0 hg (fun r e => (hr r e).2), cell_kept h.x1 hg (fun r e => (hr r e).2), cell_kept h.x2 hg (fun r e => (hr r e).2), h.off, Nat.le_trans h.base hg.size, h.xb⟩
theorem RState.skip {j : Nat} {a : ArcD} (h : RState w W M S k cap LB X B xs V a1 a2 q rs pre L H g cp) (hp : Past W W') (ha : xs[j]? = some a) (hn : shorter L a = false) : RState w W' M S k cap LB X B xs V a1 a2 q rs (pre ++ [(j : Int)]) L H g cp :=
  ⟨h.mem.later hp, h.labs, h.opens.skip ha hn, h.items, h.meas, h.lab0, cell_in hp h.x0, cell_in hp h.x1, cell_in hp h.x2, h.off, Nat.le_trans h.base hp.size, h.xb⟩
theorem RState.keeps (h : RState w W M S k cap LB X B xs V a1 a2 q rs pre L H g cp) (c : Ch (fun x => x = w.heap.size + 1 + 1 ∨ x = LB + 1 ∨ x = g) W W') : KeepsFrom (X + 3) W W' ∧ KArcs w.heap.size (X + 1) (X + 2) W W' := by
  have hord := h.mem.ord
  have hxb := h.xb
  have hoff := h.off
  have hbase := h.base
  have hglt := h.mem.glt
  refine ⟨⟨c.size, fun b o hb ho hc => ?_⟩, c.below (by omega) (fun x hx e => by omega), c.block _ (by omega) (by omega), c.block _ (by omega) (by omega)⟩
  rw [c.block b (Array.getElem?_eq_some_iff.1 ho).1 ?_]
  · exact ho
  · rintro (e | e | e)
    · omega
    · omega
    · subst e
      obtain ⟨cs, hcs⟩ := cells_of_own h.mem.heap.rowH (q := b) rfl
      rw [hcs] at ho
      injection ho with ho
      rw [← ho] at hc
      cases hc
theorem RState.push {j t : Nat} {f c l d : Int} {W1 : World} {e : Ending} (h : RState w W M S k cap LB X B xs V a1 a2 q rs pre L H g cp) (hp : Past W W1) (hin : ArcsIn M xs) (hne : ∀ a ∈ xs, a.f ≠ a.t) (hM8 : M ≤ 17) (hSM : S < M) (hpre : ∀ j ∈ pre, ∀ b, xs[j.toNat]? = some b → b.f = V)
    (ha : xs[j]? = some ⟨f, (t : Int), c, l, d⟩) (hf : f = (V : Int)) (hV : lab L V ≠ farL) (hn : shorter L ⟨f, (t : Int), c, l, d⟩ = true)
    (hpu : Pushed ((W1.setCell ⟨w.heap.size + 1 + 1, t * 2, none⟩ (.int .i64 (a1 + c))).setCell ⟨w.heap.size + 1 + 1, t * 2 + 1, none⟩ (.int .i64 (a2 + 1))) (LB + 1) (LB + 2) (.slice (some ⟨g, 0, none⟩) H.length cp) H ⟨(t : Int), a1 + c, a2 + 1⟩ e W') :
    ∃ L' H' g' cp', RState w W' M S k cap LB X B xs V a1 a2 q rs (pre ++ [(j : Int)]) L' H' g' cp' ∧ KeepsFrom (X + 3) W W' ∧ KArcs w.heap.size (X + 1) (X + 2) W W' := by
  subst hf
  have hm := List.mem_of_getElem? ha
  have hord := h.mem.ord
  have hxb := h.xb
  have hbase := h.base
  have hglt := h.mem.glt
  have hoff := h.off
  obtain ⟨m1, g1⟩ := (h.mem.later hp).put t (a1 + c) (a2 + 1)
  obtain ⟨_, g', cp', H', hl', hm', hh', hc', hat⟩ := hpu
  have hat' : g = g' ∨ W.heap.size ≤ g' := by
    rcases hat with e | e
    · exact .inl (Option.some.inj e)
    · exact .inr (Nat.le_trans (Nat.le_trans hp.size g1.size) e)
  have cS : Ch (fun x => x = w.heap.size + 1 + 1 ∨ x = LB + 1 ∨ x = g) W W' := by
    refine ((Ch.of_past (S := fun x => x = w.heap.size + 1 + 1 ∨ x = LB + 1 ∨ x = g) hp).grown g1 (fun _ => .inl rfl)).trans hc' (fun x _ e => ?_)
    rcases e with e | e
    · exact .inr (.inl e)
    · exact .inr (.inr (Option.some.inj e).symm)
  have m2 := m1.chH hc' (fun x e => by
    rcases e with e | e
    · exact .inl e
    · exact .inr (Option.some.inj e).symm) (by rw [hl']; exact hh')
  have hmid : (⟨(t : Int), a1 + c, a2 + 1⟩ : OpenD) = item (t : Int) (plusL (lab L (V : Int)) ⟨(V : Int), (t : Int), c, l, d⟩) := by rw [h.lab0]; rfl
  have hset : L.set t ⟨a1 + c, a2 + 1⟩ = setL L ⟨(V : Int), (t : Int), c, l, d⟩ := by unfold setL; simp only [Int.toNat_natCast]; rw [h.lab0]; rfl
  rw [hset] at m2
  have hS : 0 ≤ (S : Int) ∧ (S : Int) < (M : Int) := by omega
  have hr := ranks_step h.labs hin hS (by omega) hm hV hn
  have hb := hin _ hm
  simp only at hb
  have hX : ¬ (X = w.heap.size + 1 + 1 ∨ X = LB + 1 ∨ X = g) := by omega
  have hpo := h.opens.push (H' := H') hpre h.labs.len hin ha rfl (hne _ hm) hn (fun x => by rw [hm' x, hmid])
  refine ⟨_, H', g', cp', ⟨m2, h.labs.step hin hS hm hV hn, hpo, fun x hx => ?_, ?_, ?_, cS.cell h.x0 hX, cS.cell h.x1 hX, cS.cell h.x2 hX, by omega, Nat.le_trans h.base cS.size, h.xb⟩, h.keeps cS⟩
  · rcases (hm' x).1 hx with rfl | hx
    · have hbd := h.labs.bound hin hS (by omega) V (by omega) (by omega)
      have h6 := hbd.2.2.2.2.resolve_left hV
      rw [h.lab0] at h6
      simp only at h6 ⊢
      omega
    · exact h.items x hx
  · have := h.meas
    omega
  · rw [← hset]
    have hVt : (V : Int) ≠ (t : Int) := hne _ hm
    have := lab_set L (t : Int) (V : Int) ⟨a1 + c, a2 + 1⟩ (by omega) (by have := h.labs.len; omega) (by omega)
    rw [Int.toNat_natCast, if_neg hVt] at this
    rw [this]
    exact h.lab0
end

set_option maxRecDepth 1000000 in
set_option maxHeartbeats 4000000 in
theorem lengths_in (M S : Nat) (B : Option Addr) (k cap : Nat) (xs : List ArcD) (w : World) (hkk : k ≤ 400) (hxk : xs.length = k) (hx : ArcsAt w B xs) (hin : ArcsIn M xs) (hne : ∀ a ∈ xs, a.f ≠ a.t) (hM1 : 1 ≤ M) (hM8 : M ≤ 17) (hSM : S < M) :
    CallsIn Fence.wide 4 Try.prog 56 #[.agg #[.int .i64 (M : Int), .slice B k cap], .int .i64 (S : Int)] w (LensG w M S xs) := by
  have hSM' : (S : Int) < (M : Int) := by omega
  have hS0 : (0 : Int) ≤ (S : Int) := by omega
  refine callsIn_of_wp_marks Try.func56 rfl trivial ?_ rfl
  simp only [Try.ntmps56, List.size_toArray, List.length_cons, List.length_nil, Nat.reduceAdd, Nat.reduceSub, Array.replicate_succ, Array.replicate_zero, List.push_toArray, List.append_toArray, List.nil_append, List.cons_append]
  gi_wp2_with fail
  refine ⟨trivial, ?_⟩
  refine (callsIn_wide.2 (repeat_any (w.heap.size + 1) M 99999 0 _ hM1 hM8 (by go_simp) (by go_simp))).mono ?_
  rintro e w1 ⟨rfl, hr1, hb1⟩
  have n0 := cell_in (p := ⟨w.heap.size, 0, none⟩) (v := .int .i64 (M : Int)) hb1 (by go_simp)
  have n1 := cell_in (p := ⟨w.heap.size, 1, none⟩) (v := .slice B k cap) hb1 (by go_simp)
  have hpw : Past w w1 := (((Past.refl w).alloc _).alloc _).trans hb1
  simp only [World.size_alloc] at hr1
  have hlr : (List.replicate M (⟨99999, 0⟩ : LenD)).length = M := List.length_replicate ..
  have row1 := rowLen_of_heap (lo := w.heap.size + 1 + 1) hr1 hlr (Nat.le_refl _) (by omega)
  have hgS : (List.replicate M (⟨99999, 0⟩ : LenD))[S]? = some ⟨99999, 0⟩ := by rw [List.getElem?_replicate, if_pos hSM]
  obtain ⟨q0, q1⟩ := row1.get hlr hgS
  simp only at q0 q1
  have z0 := row1.frozen hlr (S * 2)
  have z1 := row1.frozen hlr (S * 2 + 1)
  have hlw1 : w.heap.size + 1 + 1 < w1.heap.size := lt_of_cell q0
  clear hb1 hgS
  gi_wp2_with fail
  obtain ⟨r2, g2⟩ := row1.put hlr S 0 0
  obtain ⟨X1, hX1⟩ : ∃ X1, X1 = (w1.setCell ⟨w.heap.size + 1 + 1, S * 2, none⟩ (.int .i64 0)).setCell ⟨w.heap.size + 1 + 1, S * 2 + 1, none⟩ (.int .i64 0) := ⟨_, rfl⟩
  rw [← hX1] at r2 g2 ⊢
  have hX1s : X1.heap.size = w1.heap.size := by rw [hX1]; simp
  have n0 := cell_far g2 n0 (by simp only [ne_eq]; omega)
  have n1 := cell_far g2 n1 (by simp only [ne_eq]; omega)
  have hpX1 : Past w X1 := Below.grown hpw g2 hpw.size (fun k e => by injection e with e; omega)
  clear hX1 q0 q1 z0 z1 row1 hr1 hpw
  obtain ⟨X, hX⟩ : ∃ X, X = (X1.alloc (.cells #[.slice (some ⟨w.heap.size + 1 + 1, 0, none⟩) M M] 69)).alloc (.cells #[.slice none 0 0, .func (.func 87) #[] #[]] 110) := ⟨_, rfl⟩
  have hpX : Past X1 X := by rw [hX]; exact ((Past.refl X1).alloc _).alloc _
  have hXs : X.heap.size = w1.heap.size + 2 := by rw [hX]; simp [hX1s]
  have bx : X.cell? ⟨w1.heap.size, 0, none⟩ = some (.slice (some ⟨w.heap.size + 1 + 1, 0, none⟩) M M) := by rw [hX, ← hX1s]; go_simp
  have hq : HeapAt X (w1.heap.size + 1) (w1.heap.size + 2) (.slice none 0 0) [] := by
    rw [hX, ← hX1s]
    exact ⟨⟨_, by have := heap_alloc_new (X1.alloc (.cells #[.slice (some ⟨w.heap.size + 1 + 1, 0, none⟩) M M] 69)) (.cells #[.slice none 0 0, .func (.func 87) #[] #[]] 110); rw [World.size_alloc] at this; exact this, rfl⟩, by go_simp, by go_simp, World.ownsRow_nil _ _ _ _, by omega⟩
  have n0 := cell_in hpX n0
  have n1 := cell_in hpX n1
  have r2 := Ch.own (S := fun _ => False) (Ch.of_past hpX) r2 (fun _ _ e => e)
  have hpX := hpX1.trans hpX
  rw [← hX]
  clear hX g2 hpX1 hX1s
  refine ⟨trivial, ?_⟩
  refine (callsIn_wide.2 (push_any (w1.heap.size + 1) (w1.heap.size + 2) _ [] (S : Int) 0 0 _ hq (by simp) (by omega))).mono ?_
  rintro e w2 ⟨rfl, g, cp, H, hHl, hHm, hh2, hch2, hat⟩
  have hmem : LMem w w2 (M : Int) B k cap (w.heap.size + 1 + 1) w1.heap.size (w1.heap.size + 1) (w1.heap.size + 2) M ((List.replicate M (⟨99999, 0⟩ : LenD)).set S ⟨0, 0⟩) H g cp [] := by
    have no : ∀ x, x ≠ w1.heap.size + 1 → ¬ (x = w1.heap.size + 1 ∨ (Value.slice none 0 0).ownBlock = some x) := fun x hx e => by
      rcases e with e | e
      · exact hx e
      · cases e
    refine ⟨hch2.cell n0 (no _ (by simp only [ne_eq]; omega)), hch2.cell n1 (no _ (by simp only [ne_eq]; omega)), hch2.cell bx (no _ (by simp)), hch2.own r2 (fun q e => ?_), by rw [hHl]; exact hh2, hpX.belowTrans (hch2.below (by omega) (fun x hx => no x (by omega))), fun r hr => by simp at hr, by omega, by rw [List.length_set]; exact hlr⟩
    have : w.heap.size + 1 + 1 = q := Option.some.inj e
    exact no q (by omega)
  clear hq hch2 hh2 n0 n1 bx r2 hpX hat hlr
  gi_wp2_with fail
  have hstart : LState w w2 M S k cap w1.heap.size B xs (2 * ranks ((List.replicate M (⟨99999, 0⟩ : LenD)).set S ⟨0, 0⟩) + H.length) ((List.replicate M (⟨99999, 0⟩ : LenD)).set S ⟨0, 0⟩) H g cp [] := by
    have e1 : H.length = 1 := hHl
    have hS : 0 ≤ (S : Int) ∧ (S : Int) < (M : Int) := by omega
    have hl := labs_start M xs (S : Int) hS
    have ho := open_start M xs (S : Int) hS
    have hr := ranks_start M (S : Int) hM8
    simp only [Int.toNat_natCast, farL, farI] at hl ho hr
    have hme : ∀ x, x ∈ H ↔ x = ⟨(S : Int), 0, 0⟩ := fun x => by rw [hHm x]; simp
    refine ⟨hmem, hl, fun v h0 h1 => ?_, fun x hx => ?_, Nat.le_refl _, by omega, List.nodup_nil, fun r hr => by simp at hr⟩
    · rcases ho v h0 h1 with q | q | q
      · exact .inl q
      · exact .inr (.inl ((hme _).2 (by simpa using q)))
      · exact .inr (.inr q)
    · rw [(hme x).1 hx]; simp only; omega
  have HX := Lib.hid hx
  clear hmem hHm hHl hx
  refine wpIn_loop_ghost_k (LLoop w M S k cap w1.heap.size B xs) _ ⟨_, H, g, cp, [], lFrame_mk _ _ (by rfl), hstart⟩ ?_
  clear hstart
  rintro q a wr ⟨L, H, g, cp, rs, ⟨u, rfl⟩, hst⟩ J K hJ hK
  simp only [lFrame]
  have hbx := hst.mem.bx
  have hit := hst.mem.heap.items
  cases hHn : H.length with
  | zero =>
    rw [hHn] at hit
    have hH0 : H = [] := List.eq_nil_of_length_eq_zero hHn
    subst hH0
    gi_wp2
    refine leaves_marks rs _ hst.nodup hst.mem.defs (fun W' hc => ⟨_, results_tmp rfl _ _ _, ?_⟩)
    refine ⟨w.heap.size + 1 + 1, L, rfl, ?_, hst.mem.len, hst.labs, hst.opens, ?_⟩
    · refine RowLen.lower (hc.own hst.mem.row (fun x e hx => ?_)) (by omega)
      have : w.heap.size + 1 + 1 = x := Option.some.inj e
      exact (hst.mem.rg x hx).2.2 this.symm
    · exact hst.mem.past.belowTrans (hc.below hst.mem.past.size (fun x hx hr => by have := hst.since x hr; omega))
  | succ n =>
    have hheap := hst.mem.heap
    have hsm := hst.small
    rw [hHn] at hit hheap hsm
    have i0 : (0 : Int) < (n : Int) + 1 := by omega
    have i0' : 0 < n + 1 := by omega
    gi_wp2_with fail
    refine ⟨trivial, ?_⟩
    refine (callsIn_wide.2 (pop_any (w1.heap.size + 1) (w1.heap.size + 2) g n cp H _ hheap hHn (by omega))).mono ?_
    rintro e w3 ⟨a0, a1, a2, H', rfl, hl', hm', hh', hc'⟩
    have hmem3 : LMem w w3 (M : Int) B k cap (w.heap.size + 1 + 1) w1.heap.size (w1.heap.size + 1) (w1.heap.size + 2) M L H' g cp rs := hst.mem.chH hc' (fun x e => e) (by rw [hl']; exact hh')
    have hin0 := hst.items _ ((hm' _).2 (.inl rfl))
    simp only at hin0
    obtain ⟨V, rfl⟩ : ∃ V : Nat, a0 = V := ⟨a0.toNat, by omega⟩
    have hVM : V < M := by omega
    obtain ⟨⟨l0, l1⟩, hlv⟩ : ∃ a, L[V]? = some a := ⟨_, List.getElem?_eq_getElem (by rw [hst.mem.len]; exact hVM)⟩
    have hlab : lab L (V : Int) = ⟨l0, l1⟩ := by unfold lab; rw [Int.toNat_natCast, List.getD_eq_getElem?_getD, hlv]; rfl
    have hpa : Past w3 (w3.alloc (.cells #[.int .i64 (V : Int), .int .i64 a1, .int .i64 a2] 113)) := (Past.refl w3).alloc _
    have hmem4 := hmem3.later hpa
    have bx := hmem4.bx
    have n0 := hmem4.n0
    have n1 := hmem4.n1
    obtain ⟨c0, c1⟩ := hmem4.row.get hmem4.len hlv
    simp only at c0 c1
    have j0 : (0 : Int) ≤ (V : Int) := by omega
    have j1 : (V : Int) < (M : Int) := by omega
    clear hbx hit
    gi_wp2_with fail
    by_cases e0 : a1 = l0
    · subst e0
      by_cases e0 : a2 = l1
      · subst e0
        gi_region
        gi_wp2_with fail
        refine ⟨trivial, ?_⟩
        refine (callsIn_wide.2 (arcsFrom_any (M : Int) (V : Int) B k cap _)).mono ?_
        rintro e w5 ⟨rfl, hw5⟩
        have hs5 : w5.heap.size = w3.heap.size + 3 := by rw [hw5]; simp
        have hp5 : Past (w3.alloc (.cells #[.int .i64 (V : Int), .int .i64 a1, .int .i64 a2] 113)) w5 := by rw [hw5]; exact (((Past.refl _).drew).alloc _).alloc _
        have x0 : w5.cell? ⟨w3.heap.size, 0, none⟩ = some (.int .i64 (V : Int)) := cell_in hp5 (by go_simp)
        have x1 : w5.cell? ⟨w3.heap.size, 1, none⟩ = some (.int .i64 a1) := cell_in hp5 (by go_simp)
        have x2 : w5.cell? ⟨w3.heap.size, 2, none⟩ = some (.int .i64 a2) := cell_in hp5 (by go_simp)
        have hmem5 := hmem4.later hp5
        have hC : ArcsC (w3.heap.size + 1) (w3.heap.size + 2) (M : Int) (V : Int) B k cap xs w5 := ⟨by rw [hw5]; go_simp, by rw [hw5]; go_simp, by rw [hw5]; go_simp, HX.out.below hmem5.past⟩
        have hglt := hmem3.glt
        have hlb : w1.heap.size + 1 < w3.heap.size := hmem3.heap.row.lt
        have hmq := hst.meas
        have hrs : ∀ r ∈ rs, r < w3.heap.size + 3 := fun r hr => by
          have := (Array.getElem?_eq_some_iff.1 (hmem3.defs r hr)).1
          omega
        have hR0 : RState w w5 M S k cap w1.heap.size w3.heap.size B xs V a1 a2 (2 * ranks L + H'.length) rs [] L H' g cp :=
          ⟨hmem5, hst.labs, hst.opens.takePre hm', fun x hx => hst.items x ((hm' x).2 (.inr hx)), Nat.le_refl _, hlab, x0, x1, x2, .inl hglt.2, by omega, by omega⟩
        simp only [World.size_alloc, World.size_drew]
        clear hw5 x0 x1 x2 hmem5 bx n0 n1 c0 c1 hmem4
        gi_wp2_with fail
        obtain ⟨L0, hL0⟩ : ∃ L0, L0 = L := ⟨_, rfl⟩
        rw [← hL0] at hR0
        refine wpIn_rangeFunc_ownG rfl (by omega) (gf := 110) (lb := #[.pointer (some ⟨w3.heap.size + 1, 0, none⟩), .pointer (some ⟨w3.heap.size + 2, 0, none⟩)]) rfl trivial (enters_of Try.func110 (by kernel_rfl) rfl)
          (arcsK_stops Fence.wide 3 trivial rfl (by omega) (w3.heap.size + 1) (w3.heap.size + 2) w.heap.size (M : Int) (V : Int) B k cap xs hxk (by omega) w HX.out (Nat.le_refl _) w5 hC)
          (fun h k => h.trans k) (fun W l o o' hl ho hc hw => ⟨belowK_b (w := w5) (by have := hmem3.ord; omega) W l o o' hl ho hc hw, World.putObj_heap_other (by omega), World.putObj_heap_other (by omega)⟩) (Below.refl _ _) (fun _ => rfl)
          (fun pre W => ∃ L H g cp, RState w W M S k cap w1.heap.size w3.heap.size B xs V a1 a2 (2 * ranks L0 + H'.length) rs (nums pre) L H g cp)
          (fun _ _ _ => False)
          (fun pre A B row hs hg hr => by
            obtain ⟨L, H, g, cp, h⟩ := hs
            exact ⟨L, H, g, cp, h.turn hrs hg (fun r e => by have := hr r e; rw [hs5] at this; exact this)⟩)
          (fun _ _ _ _ _ hs _ _ => hs)
          ⟨L0, H', g, cp, hR0⟩
          (fun x => { tmps := (.agg #[.int .i64 (M : Int), .slice B k cap] :: .int .i64 (S : Int) :: .pointer (some ⟨w.heap.size, 0, none⟩) :: undef :: .slice none 0 0 :: .pointer (some ⟨w1.heap.size, 0, none⟩) :: .pointer (some ⟨w1.heap.size + 1, 0, none⟩) :: .pointer (some ⟨w3.heap.size, 0, none⟩) :: .int .i64 x.1 :: u 9 :: u 10 :: .agg #[.int .i64 99999, .int .i64 0] :: .slice (some ⟨w.heap.size + 1, 0, none⟩) 1 1 :: .pointer (some ⟨w.heap.size, 0, none⟩) :: .int .i64 (M : Int) :: .slice (some ⟨w.heap.size + 1 + 1, 0, none⟩) M M :: .slice (some ⟨w.heap.size + 1 + 1, 0, none⟩) M M :: .int .i64 (S : Int) :: .agg #[.int .i64 0, .int .i64 0] :: .pointer (some ⟨w.heap.size + 1 + 1, S * 2, none⟩) :: .agg #[.slice none 0 0, .func (.func 87) #[] #[]] :: .int .i64 (S : Int) :: .agg #[.int .i64 (S : Int), .int .i64 0, .int .i64 0] :: .tuple #[] :: .pointer (some ⟨w1.heap.size + 1, 0, none⟩) :: .slice (some ⟨g, 0, none⟩) (n + 1) cp :: .int .i64 ((n : Int) + 1) :: .bool true :: .agg #[.int .i64 (V : Int), .int .i64 a1, .int .i64 a2] :: .pointer (some ⟨w3.heap.size, 1, none⟩) :: .agg #[.int .i64 a1, .int .i64 a2] :: .slice (some ⟨w.heap.size + 1 + 1, 0, none⟩) M M :: .pointer (some ⟨w3.heap.size, 0, none⟩) :: .int .i64 (V : Int) :: .pointer (some ⟨w.heap.size + 1 + 1, V * 2, none⟩) :: .agg #[.int .i64 a1, .int .i64 a2] :: .bool false :: .agg #[.int .i64 (M : Int), .slice B k cap] :: .pointer (some ⟨w3.heap.size, 0, none⟩) :: .int .i64 (V : Int) :: .func (.func 110) #[] #[.pointer (some ⟨w3.heap.size + 1, 0, none⟩), .pointer (some ⟨w3.heap.size + 2, 0, none⟩)] :: .int .i64 x.1 :: u 42 :: u 43 :: u 44 :: u 45 :: u 46 :: u 47 :: u 48 :: u 49 :: u 50 :: u 51 :: u 52 :: u 53 :: u 54 :: u 55 :: u 56 :: u 57 :: u 58 :: u 59 :: u 60 :: u 61 :: u 62 :: u 63 :: u 64 :: u 65 :: u 66 :: u 67 :: undef :: []).toArray, defers := [] }) ?assign ?body ?done ?stop
        case assign =>
          intro l x W K hK
          gi_wp2
          exact hK
        case body =>
          rintro l pre ⟨x, j, ⟨f, t, c, l', d⟩, rfl, ha, hf⟩ W ⟨L, H, g, cp, hR⟩ hlt
          have hf : f = (V : Int) := hf
          subst hf
          have hb := hin _ (List.mem_of_getElem? ha)
          simp only at hb
          obtain ⟨T, rfl⟩ : ∃ T : Nat, t = (T : Int) := ⟨t.toNat, by omega⟩
          have hjk : j < k := by rw [← hxk]; exact (List.getElem?_eq_some_iff.1 ha).1
          obtain ⟨bb, oo, rfl, c0, c1, c2, c3, c4⟩ := (HX.out.below hR.mem.past) j _ ha
          have n1 := hR.mem.n1
          have x1 := hR.x1
          have x2 := hR.x2
          have hTM : T < M := by omega
          have hTM' : (T : Int) < (M : Int) := by omega
          have hT0 : (0 : Int) ≤ (T : Int) := by omega
          obtain ⟨⟨y0, y1⟩, hy⟩ : ∃ a, L[T]? = some a := ⟨_, List.getElem?_eq_getElem (by rw [hR.mem.len]; exact hTM)⟩
          have hpA : Past W (W.alloc (.cells #[.int .i64 (V : Int), .int .i64 (T : Int), .int .i64 c, .int .i64 l', .int .i64 d] 88)) := (Past.refl W).alloc _
          have x1 := cell_in hpA x1
          have x2 := cell_in hpA x2
          have hj0 : (0 : Int) ≤ (j : Int) := by omega
          have hjk' : (j : Int) < (k : Int) := by omega
          gi_wp2_with fail
          refine ⟨trivial, ?_⟩
          have hSS : 0 ≤ (S : Int) ∧ (S : Int) < (M : Int) := by omega
          have hbV := hR.labs.bound hin hSS (by omega) (V : Int) (by omega) (by omega)
          rw [hR.lab0] at hbV
          simp only [farI] at hbV
          refine (CallsIn.inRound l (callsIn_wide.2 (plus_any a1 a2 (V : Int) (T : Int) c l' d _ (by omega) (by omega) (by omega)))).mono ?_
          rintro e W2 ⟨rfl, hb2⟩
          have q0 := cell_in (p := ⟨W.heap.size, 0, none⟩) (v := .int .i64 (V : Int)) hb2 (by go_simp)
          have q1 := cell_in (p := ⟨W.heap.size, 1, none⟩) (v := .int .i64 (T : Int)) hb2 (by go_simp)
          have hp2 := hpA.trans hb2
          have hWs : W.heap.size < W2.heap.size := lt_of_cell q0
          clear hb2 q0 x1 x2 n1 c0 c1 c2 c3 c4
          have hp3 : Past W (W2.alloc (.cells #[.int .i64 (a1 + c), .int .i64 (a2 + 1)] 105)) := hp2.alloc _
          have hp3' : Past W2 (W2.alloc (.cells #[.int .i64 (a1 + c), .int .i64 (a2 + 1)] 105)) := (Past.refl _).alloc _
          have q1 := cell_in hp3' q1
          have bx := cell_in hp3 hR.mem.bx
          obtain ⟨r0, r1⟩ := (hR.mem.later hp3).row.get hR.mem.len hy
          simp only at r0 r1
          gi_wp2_with fail
          have hlT : lab L (T : Int) = ⟨y0, y1⟩ := by unfold lab; rw [Int.toNat_natCast, List.getD_eq_getElem?_getD, hy]; rfl
          have hsh : shorter L ⟨(V : Int), (T : Int), c, l', d⟩ = lessB ⟨a1 + c, a2 + 1⟩ ⟨y0, y1⟩ := by unfold shorter plusL; simp only; rw [hR.lab0, hlT]
          refine wpIn_mono (Q := fun e a W4 => e = .normal ∧ Past (W2.alloc (.cells #[.int .i64 (a1 + c), .int .i64 (a2 + 1)] 105)).drew W4 ∧ ∃ u, a = bFrame (.pointer (some ⟨w.heap.size, 0, none⟩)) (.pointer (some ⟨w1.heap.size, 0, none⟩)) (.pointer (some ⟨w1.heap.size + 1, 0, none⟩)) (.pointer (some ⟨w3.heap.size, 0, none⟩)) (.int .i64 (j : Int)) (.pointer (some ⟨W.heap.size, 0, none⟩)) (.pointer (some ⟨W2.heap.size, 0, none⟩)) (.bool (lessB ⟨a1 + c, a2 + 1⟩ ⟨y0, y1⟩)) u) ?less ?_
          case less =>
            gi_region_with (refine ⟨trivial, ?_⟩; refine (CallsIn.inRound l (callsIn_wide.2 (less_any (a1 + c) (a2 + 1) y0 y1 _))).mono ?_; rintro e W4 ⟨rfl, hb4⟩)
            all_goals exact ⟨rfl, hb4, bFrame_mk _ (by rfl)⟩
          rintro e a4 W4 ⟨rfl, hb4, u4, rfl⟩
          simp only [bFrame]
          have hp4 : Past W W4 := hp3.drew.trans hb4
          have q1 := cell_in (W := (W2.alloc (.cells #[.int .i64 (a1 + c), .int .i64 (a2 + 1)] 105)).drew) hb4 q1
          have o0 := cell_in (p := ⟨W2.heap.size, 0, none⟩) (v := .int .i64 (a1 + c)) hb4 (by go_simp)
          have o1 := cell_in (p := ⟨W2.heap.size, 1, none⟩) (v := .int .i64 (a2 + 1)) hb4 (by go_simp)
          have hmem6 := hR.mem.later hp4
          have bx := hmem6.bx
          obtain ⟨r0, r1⟩ := hmem6.row.get hmem6.len hy
          simp only at r0 r1
          have z0 := hmem6.row.frozen hmem6.len (T * 2)
          have z1 := hmem6.row.frozen hmem6.len (T * 2 + 1)
          clear hp3' hb4
          have hord := hR.mem.ord
          have hbase := hR.base
          have hxb := hR.xb
          cases hB : lessB ⟨a1 + c, a2 + 1⟩ ⟨y0, y1⟩ with
          | false =>
            gi_wp2
            have cS : Ch (fun x => x = w.heap.size + 1 + 1 ∨ x = w1.heap.size + 1 ∨ x = g) W W4 := Ch.of_past hp4
            exact ⟨by rw [hs5]; exact (hR.keeps cS).1, (hR.keeps cS).2, L, H, g, cp, by rw [nums_snoc]; exact hR.skip hp4 ha (hsh.trans hB)⟩
          | true =>
            have hput := (hmem6.put T (a1 + c) (a2 + 1)).1
            have hpre : ∀ i ∈ nums pre, ∀ b, xs[i.toNat]? = some b → b.f = (V : Int) := fun i hi b hb => by
              obtain ⟨⟨i', i2, a', e1, e2, e3⟩, _, e4⟩ := List.mem_map.1 hi
              simp only at e4
              subst e1
              rw [← e4, Int.toNat_natCast, e2] at hb
              injection hb with hb
              rw [← hb]
              exact e3
            have hV : lab L (V : Int) ≠ farL := fun e => by
              rw [hR.lab0] at e
              unfold farL farI at e
              injection e with e
              omega
            have hHl : H.length ≤ 100000000 := by
              have := hR.meas
              rw [hL0] at this
              omega
            gi_wp2_with fail
            refine ⟨trivial, ?_⟩
            refine (CallsIn.inRound l (callsIn_wide.2 (push_any (w1.heap.size + 1) (w1.heap.size + 2) _ H (T : Int) (a1 + c) (a2 + 1) _ hput.heap hHl (by have := hp4.size; simp; omega)))).mono ?_
            intro e W5 hpu
            obtain rfl := hpu.1
            obtain ⟨L', H2, g2, cp2, hR2, hk1, hk2⟩ := hR.push hp4 hin hne hM8 hSM hpre ha rfl hV (hsh.trans hB) hpu
            gi_wp2
            exact ⟨by rw [hs5]; exact hk1, hk2, L', H2, g2, cp2, by rw [nums_snoc]; exact hR2⟩
        case done =>
          rintro D ys W hD hys ⟨L', H2, g2, cp2, hR⟩ hDd
          have hst2 : LState w W M S k cap w1.heap.size B xs (2 * ranks L' + H2.length) L' H2 g2 cp2 (D :: rs) := by
            refine ⟨⟨hR.mem.n0, hR.mem.n1, hR.mem.bx, hR.mem.row, hR.mem.heap, hR.mem.past, fun r hr => ?_, hR.mem.ord, hR.mem.len⟩, hR.labs, hR.opens.all (fun i a hi hf => ?_), hR.items, Nat.le_refl _, ?_, List.nodup_cons.2 ⟨fun hr => ?_, hst.nodup⟩, fun r hr => ?_⟩
            · rcases List.mem_cons.1 hr with rfl | hr
              · exact hDd
              · exact hR.mem.defs r hr
            · rw [hys]
              exact outTo_all xs (V : Int) k i a (by rw [← hxk]; exact (List.getElem?_eq_some_iff.1 hi).1) hi hf
            · have := hR.meas
              rw [hL0] at this
              omega
            · have := hrs D hr
              omega
            · rcases List.mem_cons.1 hr with rfl | hr
              · have := hmem3.ord
                omega
              · exact hst.since r hr
          have hlq : 2 * ranks L' + H2.length < q := by
            have := hR.meas
            rw [hL0] at this
            omega
          clear hR
          gi_wp2
          exact Handed.intro _ hlq (hJ _ _ _ ⟨L', H2, g2, cp2, D :: rs, lFrame_mk _ _ (by rfl), hst2⟩)
        case stop =>
          rintro D c pre W _ _ h _
          exact h.elim
      · have e0' : (a2 == l1) = false := by simpa using e0
        have hmq := hst.meas
        have hst' : LState w (w3.alloc (.cells #[.int .i64 (V : Int), .int .i64 a1, .int .i64 a2] 113)).drew M S k cap w1.heap.size B xs (2 * ranks L + H'.length) L H' g cp rs :=
          ⟨hmem4.later (Past.refl _).drew, hst.labs, hst.opens.stale hm' (by rw [hlab]; intro e; injection e with e1 e2; first | exact e0 e1 | exact e0 e2), fun x hx => hst.items x ((hm' x).2 (.inr hx)), Nat.le_refl _, by omega, hst.nodup, hst.since⟩
        have hlq : 2 * ranks L + H'.length < q := by omega
        clear hlab hlv hm' hh' hc' hmem3 hmem4 hst
        gi_region
        gi_wp2
        exact Handed.intro _ hlq (hJ _ _ _ ⟨L, H', g, cp, rs, lFrame_mk _ _ (by rfl), hst'⟩)
    · have e0' : (a1 == l0) = false := by simpa using e0
      have hmq := hst.meas
      have hst' : LState w (w3.alloc (.cells #[.int .i64 (V : Int), .int .i64 a1, .int .i64 a2] 113)).drew M S k cap w1.heap.size B xs (2 * ranks L + H'.length) L H' g cp rs :=
        ⟨hmem4.later (Past.refl _).drew, hst.labs, hst.opens.stale hm' (by rw [hlab]; intro e; injection e with e1 e2; first | exact e0 e1 | exact e0 e2), fun x hx => hst.items x ((hm' x).2 (.inr hx)), Nat.le_refl _, by omega, hst.nodup, hst.since⟩
      have hlq : 2 * ranks L + H'.length < q := by omega
      clear hlab hlv hm' hh' hc' hmem3 hmem4 hst
      gi_region
      gi_wp2
      exact Handed.intro _ hlq (hJ _ _ _ ⟨L, H', g, cp, rs, lFrame_mk _ _ (by rfl), hst'⟩)

theorem lengths_any (M S : Nat) (B : Option Addr) (k cap : Nat) (xs : List ArcD) (w : World) (hkk : k ≤ 400) (hxk : xs.length = k) (hx : ArcsAt w B xs) (hin : ArcsIn M xs) (hne : ∀ a ∈ xs, a.f ≠ a.t) (hM1 : 1 ≤ M) (hM8 : M ≤ 17) (hSM : S < M) :
    Calls Try.prog 56 #[.agg #[.int .i64 (M : Int), .slice B k cap], .int .i64 (S : Int)] w (LensG w M S xs) :=
  (callsIn_wide (n := 4)).1 (lengths_in M S B k cap xs w hkk hxk hx hin hne hM1 hM8 hSM)

end Go.Proofs.Ytaojognjkiifmac
