/-
  The net whose nodes are arcs: impl.lineNet. No condition.
-/
import Derived.Sort.LoopGhostIn
import Derived.Laws.EntriesVeiled
import Derived.Test.YtaojognjkiifmaaNLen
import Derived.Test.YtaojognjkiifmaaOrdCh
import Derived.Test.YtaojognjkiifmaaLineS
import Derived.Test.YtaojognjkiifmaaTOk
namespace Go.Proofs.Ytaojognjkiifmaa
open Go.RowKit Go.Shelf Go.Maps

attribute [local go_sem] Oper.semAt_some

/-- The line net, in new memory. -/
def LineG (w : World) (n : Nat) (xs : List ArcD) (ts : List TurnD) (e : Ending) (w' : World) : Prop :=
  ∃ v, e = .returned (.agg #[.int .i64 (n : Int), v]) ∧ ResA w' w.heap.size v (lineL xs ts) ∧ Below w.heap.size w w'

/-- The frame between two rounds. -/
def nFrame (V X : Nat) (m : Int) (A : Option Addr) (n c : Nat) (B : Option Addr) (l cb P i : Nat) (u : Nat → Value) (ds : List Deferred) : Act :=
  { tmps := (.agg #[.int .i64 m, .slice A n c] :: .slice B l cb :: .pointer (some ⟨V, 0, none⟩) :: undef :: .pointer (some ⟨V + 1, 0, none⟩) :: .pointer (some ⟨X, 0, none⟩) :: .pointer (some ⟨X + 1, 0, none⟩) :: u 7 :: u 8 :: u 9 :: u 10 :: .slice B l cb :: .map (some P) :: .pointer (some ⟨V, 1, none⟩) :: .slice A n c :: .int .i64 (n : Int) :: .agg #[.int .i64 (n : Int), .slice none 0 0] :: .pointer (some ⟨V, 1, none⟩) :: .slice A n c :: .int .i64 (n : Int) :: .int .i64 (i : Int) :: u 21 :: u 22 :: u 23 :: u 24 :: u 25 :: u 26 :: u 27 :: u 28 :: u 29 :: u 30 :: u 31 :: u 32 :: u 33 :: u 34 :: u 35 :: u 36 :: u 37 :: u 38 :: u 39 :: u 40 :: u 41 :: u 42 :: u 43 :: u 44 :: u 45 :: u 46 :: u 47 :: u 48 :: u 49 :: u 50 :: u 51 :: u 52 :: u 53 :: undef :: []).toArray, defers := ds }
theorem nFrame_mk {V X : Nat} {m : Int} {A : Option Addr} {n c : Nat} {B : Option Addr} {l cb P i : Nat} (t : Array Value) (ds : List Deferred) (h : t = (nFrame V X m A n c B l cb P i (fun i => t.getD i undef) ds).tmps) : ∃ u, (Act.mk t ds) = nFrame V X m A n c B l cb P i u ds :=
  ⟨fun i => t.getD i undef, by rw [nFrame]; congr 1⟩

/-- What comes of the arcs that an iterator has told so far. -/
def rowP (xs : List ArcD) (ts : List TurnD) (i : Nat) (p : List Int) : List ArcD := p.flatMap fun y => lineArc xs ts i y.toNat
theorem rowP_snoc (xs : List ArcD) (ts : List TurnD) (i : Nat) (p : List Int) (y : Int) : rowP xs ts i (p ++ [y]) = rowP xs ts i p ++ lineArc xs ts i y.toNat := by simp [rowP]
theorem rowP_all {xs : List ArcD} (ts : List TurnD) {i : Nat} {a : ArcD} (ha : xs[i]? = some a) : ∀ n, n ≤ xs.length → rowP xs ts i (outTo xs a.t n) = rowL xs ts i n
  | 0, _ => rfl
  | n + 1, hn => by
    have ih := rowP_all ts ha n (by omega)
    obtain ⟨b, hb⟩ : ∃ b, xs[n]? = some b := ⟨_, List.getElem?_eq_getElem (by omega)⟩
    rw [rowL, ← ih]
    cases he : (b.f == a.t) with
    | true => rw [outTo_hit hb he, rowP_snoc]; simp
    | false => rw [outTo_miss hb he, lineArc_turn ha hb (by simp at he; exact fun e => he e.symm), List.append_nil]
theorem rowP_len (xs : List ArcD) (ts : List TurnD) (i : Nat) : ∀ p : List Int, (rowP xs ts i p).length ≤ p.length
  | [] => by simp [rowP]
  | y :: p => by
    have h1 := rowP_len xs ts i p
    have h2 := lineArc_len xs ts i y.toNat
    simp only [rowP, List.flatMap_cons, List.length_append, List.length_cons] at *
    omega

/-- What holds between two rounds. -/
def LnLoop (w w1 : World) (m : Int) (A : Option Addr) (n c : Nat) (xs : List ArcD) (B : Option Addr) (l cb : Nat) (ts : List TurnD) (P : Nat) (q : Nat) (a : Act) (wr : World) : Prop :=
  ∃ (i : Nat) (v : Value) (rs : List Nat), i ≤ n ∧ n - i ≤ q ∧ (∃ u, a = nFrame w.heap.size w1.heap.size m A n c B l cb P i u (rs.map mkD)) ∧ LSt (w1.heap.size + 1) w1 wr n v (lineTo xs ts n i) ∧
    wr.cell? ⟨w1.heap.size, 0, none⟩ = some (.map (some P)) ∧ (∀ r ∈ rs, wr.heap[r]? = some (.deferred (some []))) ∧ rs.Nodup ∧ (∀ r ∈ rs, w1.heap.size + 2 ≤ r)
/-- What holds between two rounds of the inner loop; Y: the box of the arc's number. -/
structure LnIn (w1 W : World) (X Y n : Nat) (i : Nat) (P : Nat) (rs : List Nat) (v : Value) (L : List ArcD) : Prop where
  st : LSt (X + 1) w1 W n v L
  costs : W.cell? ⟨X, 0, none⟩ = some (.map (some P))
  num : W.cell? ⟨Y, 0, none⟩ = some (.int .i64 (i : Int))
  defs : ∀ r ∈ rs, W.heap[r]? = some (.deferred (some []))
  off : ∀ b, v.ownBlock = some b → b < Y ∨ Y + 4 ≤ b
  base : Y + 4 ≤ W.heap.size

section
variable {w1 W W' : World} {X Y n i P : Nat} {rs : List Nat} {v : Value} {L : List ArcD}
theorem LnIn.turn {row : Option Nat} (h : LnIn w1 W X Y n i P rs v L) (hXY : w1.heap.size ≤ Y) (hrs : ∀ r ∈ rs, r < Y + 4) (hg : W.grownBy W' row) (hr : ∀ r, row = some r → Y + 4 ≤ r ∧ ∃ o : Obj, W.heap[r]? = some o ∧ o.isCells = false) : LnIn w1 W' X Y n i P rs v L := by
  have no : ∀ x cs t f, W.heap[x]? = some (.cells cs t f) → some x ≠ row := fun x cs t f hx e => by
    obtain ⟨_, o, ho, hc⟩ := hr x e.symm
    rw [hx] at ho
    injection ho with ho
    rw [← ho] at hc
    cases hc
  refine ⟨⟨cell_kept h.st.o0 hg (fun r e => (hr r e).2), cell_kept h.st.o1 hg (fun r e => (hr r e).2), ?_, ?_, Below.grown h.st.past hg h.st.past.size (fun r e => by have := (hr r e).1; omega)⟩, cell_kept h.costs hg (fun r e => (hr r e).2), cell_kept h.num hg (fun r e => (hr r e).2), fun r hr' => ?_, h.off, Nat.le_trans h.base hg.size⟩
  · obtain ⟨cs, hcs, hl⟩ := h.st.row
    exact h.st.row.keep (hg.block _ h.st.row.lt (no _ _ _ _ hcs))
  · refine World.ownsRow.kept h.st.own hg ?_
    cases hv : v.ownBlock with
    | none => simp
    | some b =>
      obtain ⟨cs, hcs⟩ := cells_of_own h.st.own hv
      exact .inr (no _ _ _ _ hcs)
  · have hd := h.defs r hr'
    rw [hg.block r (Array.getElem?_eq_some_iff.1 hd).1 (fun e => by have := (hr r e.symm).1; have := hrs r hr'; omega)]
    exact hd
end

/-- One arc more. -/
theorem LnIn.fill {w1 W : World} {X Y n i P : Nat} {rs : List Nat} {v : Value} {L : List ArcD} (h : LnIn w1 W X Y n i P rs v L) (a : ArcD) (n0 : Nat) (hn0 : n0 ≤ X + 1) (hL : L.length ≤ 1000) (hX : w1.heap.size ≤ X) (hXY : X + 1 < Y) (hrs : ∀ r ∈ rs, X + 2 ≤ r) :
    ∃ v1 w9, (Builtin.append_ #[30, 30] 30 #[v, .slice (some ⟨W.heap.size, 0, none⟩) 1 1]).run Try.prog (W.drew.alloc (.cells #[.int .i64 a.f, .int .i64 a.t, .int .i64 a.c, .int .i64 a.l, .int .i64 a.d] 52)) = .ok v1 w9 ∧
      (∃ A2 k c2, v1 = .slice A2 k c2) ∧ (∀ p u, p.block < X + 2 ∨ (Y ≤ p.block ∧ p.block < Y + 4) → W.cell? p = some u → w9.cell? p = some u) ∧
      (∃ u, w9.cell? ⟨X + 1, 1, none⟩ = some u) ∧ w9.frozen? ⟨X + 1, 1, none⟩ = false ∧ LnIn w1 (w9.setCell ⟨X + 1, 1, none⟩ v1) X Y n i P rs v1 (L ++ [a]) ∧
      KeepsFrom (Y + 4) W (w9.setCell ⟨X + 1, 1, none⟩ v1) ∧ (∀ k, k < X + 1 ∨ (Y ≤ k ∧ k < Y + 4) → (w9.setCell ⟨X + 1, 1, none⟩ v1).heap[k]? = W.heap[k]?) ∧ Below n0 W (w9.setCell ⟨X + 1, 1, none⟩ v1) := by
  obtain ⟨i0, hi, hz0, hz1, hz2⟩ := info_parts infoArc
  have hown := h.st.own
  have hsz := h.base
  have hownA : (W.drew.alloc (.cells #[.int .i64 a.f, .int .i64 a.t, .int .i64 a.c, .int .i64 a.l, .int .i64 a.d] 52)).ownsRow (X + 1 + 1) 52 5 v L.length (cellsOf L) := World.ownsRow.alloc (w := W.drew) hown _
  obtain ⟨v1, w9, hr, h2, h3, _, h5⟩ := run_append_own_at (P := Try.prog) (W.drew.alloc (.cells #[.int .i64 a.f, .int .i64 a.t, .int .i64 a.c, .int .i64 a.l, .int .i64 a.d] 52)) (X + 1 + 1) 30 30 52 i0 _ 5 40 Try.underlying30 hi hz0 hz1 hz2 rfl (by omega) v L.length (cellsOf L) hownA ⟨W.heap.size, 0, none⟩ 1 1 [.int .i64 a.f, .int .i64 a.t, .int .i64 a.c, .int .i64 a.l, .int .i64 a.d] rfl (five_news W.drew _ _ _ _ _ _) (cellsOf_one [a]) (by unfold maxLen; omega) (by omega) (by simp; omega)
  obtain ⟨u9, z9, hS9⟩ := h.st.put (a := a) (wa := W.drew.alloc (.cells #[.int .i64 a.f, .int .i64 a.t, .int .i64 a.c, .int .i64 a.l, .int .i64 a.d] 52)) (by omega) (((Past.refl W).drew).alloc _) h3 h2 rfl rfl
  have hs1 : (W.drew.alloc (.cells #[.int .i64 a.f, .int .i64 a.t, .int .i64 a.c, .int .i64 a.l, .int .i64 a.d] 52)).heap.size = W.heap.size + 1 := by simp
  have off : ∀ k, k < X + 2 ∨ (Y ≤ k ∧ k < Y + 4) → some k ≠ v.ownBlock := fun k hk e => by
    rcases hk with hk | hk
    · exact own_ne hown (g := k) (by omega) e
    · have := h.off k e.symm; omega
  have old : ∀ k, k < W.heap.size → (W.drew.alloc (.cells #[.int .i64 a.f, .int .i64 a.t, .int .i64 a.c, .int .i64 a.l, .int .i64 a.d] 52)).heap[k]? = W.heap[k]? := fun k hk => Below.heap_alloc W.drew _ k hk
  have hX1 : X + 1 < W.heap.size := by omega
  have far : ∀ p u, p.block < X + 2 ∨ (Y ≤ p.block ∧ p.block < Y + 4) → W.cell? p = some u → w9.cell? p = some u := fun p u hp hc => h3.cell (cell_in (((Past.refl W).drew).alloc _) hc) (off _ hp)
  have h9 : ∀ k, k < W.heap.size → some k ≠ v.ownBlock → k ≠ X + 1 → (w9.setCell ⟨X + 1, 1, none⟩ v1).heap[k]? = W.heap[k]? := fun k hk hne hx => (Below.heap_setCell _ _ _ _ hx).trans ((h3.block k (by omega) hne).trans (old k hk))
  have hsz9 : W.heap.size ≤ (w9.setCell ⟨X + 1, 1, none⟩ v1).heap.size := by have := h3.size; rw [hs1] at this; simp; omega
  refine ⟨v1, w9, hr, ?_, far, u9, z9, ⟨hS9, ?_, ?_, fun r hr' => ?_, fun b e => ?_, by omega⟩, ⟨hsz9, fun k o hk ho hc => ?_⟩, fun k hk => h9 k (by omega) (off k (by omega)) (by omega), ?_⟩
  · obtain ⟨g, c, e, _⟩ := World.ownsRow.form h2 (by omega)
    exact ⟨_, _, _, e⟩
  · exact (World.cell?_setCell_other _ _ _ _ (by simp)).trans (far _ _ (.inl (by simp)) h.costs)
  · exact (World.cell?_setCell_other _ _ _ _ (by intro e; injection e; omega)).trans (far _ _ (.inr (by simp)) h.num)
  · have hd := h.defs r hr'
    refine (h9 r (Array.getElem?_eq_some_iff.1 hd).1 (fun e => ?_) (by have := hrs r hr'; omega)).trans hd
    obtain ⟨cs, hcs⟩ := cells_of_own hown e.symm
    rw [hcs] at hd
    cases hd
  · rcases h5 with e5 | e5
    · exact h.off b (e5.symm.trans e)
    · rw [e5] at e
      injection e with e
      omega
  · refine (h9 k (Array.getElem?_eq_some_iff.1 ho).1 (fun e => ?_) (by omega)).trans ho
    obtain ⟨cs, hcs⟩ := cells_of_own hown e.symm
    rw [hcs] at ho
    injection ho with ho
    rw [← ho] at hc
    cases hc
  · refine Below.setCell (Below.grown (Below.alloc (Below.drew (Below.refl n0 W)) (by simp; omega) _) h3 (by rw [hs1]; omega) (fun b e => by have := (hown.lt b e).1; omega)) (by simpa using hn0) _

set_option maxRecDepth 1000000 in
set_option maxHeartbeats 4000000 in
theorem line_in (m : Int) (A : Option Addr) (n c : Nat) (xs : List ArcD) (B : Option Addr) (l cb : Nat) (ts : List TurnD) (w : World) (hn : n ≤ 16) (hnx : xs.length = n) (hx : ArcsAt w A xs) (hl : l ≤ 1048576) (hlt : ts.length = l) (ht : TurnsAt w B ts) (hT : turnsB m xs ts = true) :
    CallsIn Fence.wide 4 Try.prog 63 #[.agg #[.int .i64 m, .slice A n c], .slice B l cb] w (LineG w n xs ts) := by
  have HX := Lib.hid hnx
  have HL := Lib.hid hlt
  have HT := Lib.hid hT
  clear hnx hlt hT
  have hb0 : Past w ((w.alloc (.cells #[.int .i64 m, .slice A n c] 32)).alloc (.cells #[.int .i64 0, .slice none 0 0] 32)) := ((Past.refl _).alloc _).alloc _
  have h16 : xs.length ≤ 16 := by rw [HX.out]; exact hn
  refine callsIn_of_wp_marks Try.func63 rfl trivial ?_ rfl
  simp only [Try.ntmps63, List.size_toArray, List.length_cons, List.length_nil, Nat.reduceAdd, Nat.reduceSub, Array.replicate_succ, Array.replicate_zero, List.push_toArray, List.append_toArray, List.nil_append, List.cons_append]
  gi_wp2_with fail
  refine ⟨trivial, ?_⟩
  refine (callsIn_wide.2 (turnCosts_any B l cb ts _ hl HL.out (ht.below hb0) (fun t hm => turn_wf h16 (List.all_eq_true.1 (turnsB_all HT.out).2.2.1 t hm)))).mono ?_
  rintro e w1 ⟨P, D, rfl, hown, hM, hb1⟩
  have b0 := cell_in (p := ⟨w.heap.size, 0, none⟩) (v := .int .i64 m) hb1 (by go_simp)
  have b1 := cell_in (p := ⟨w.heap.size, 1, none⟩) (v := .slice A n c) hb1 (by go_simp)
  have e0 := cell_in (p := ⟨w.heap.size + 1, 0, none⟩) (v := .int .i64 0) hb1 (by go_simp)
  have e1 := cell_in (p := ⟨w.heap.size + 1, 1, none⟩) (v := .slice none 0 0) hb1 (by go_simp)
  have hrc0 : RowN w1 (w.heap.size + 1) 32 2 := by
    refine RowN.keep (w := ((w.alloc (.cells #[.int .i64 m, .slice A n c] 32)).alloc (.cells #[.int .i64 0, .slice none 0 0] 32))) ⟨#[.int .i64 0, .slice none 0 0], ?_, rfl⟩ (hb1.block _ (by simp))
    have := heap_alloc_new (w.alloc (.cells #[.int .i64 m, .slice A n c] 32)) (.cells #[.int .i64 0, .slice none 0 0] 32)
    simpa using this
  have hp1 := hb0.trans hb1
  have HD := Lib.hid hM.vals
  clear hM hb0 hb1 h16
  have b1A := fun (o : Obj) => cell_in ((Past.refl w1).alloc o) b1
  have b1B := fun (o o' : Obj) => cell_in (((Past.refl w1).alloc o).alloc o') b1
  gi_wp2_with fail
  have hst0 : LSt (w1.heap.size + 1) w1 ((w1.alloc (.cells #[.map (some P)] 100)).alloc (.cells #[.int .i64 (n : Int), .slice none 0 0] 32)) n (.slice none 0 0) (lineTo xs ts n 0) := by
    refine ⟨by go_simp, by go_simp, ⟨_, by have := heap_alloc_new (w1.alloc (.cells #[.map (some P)] 100)) (.cells #[.int .i64 (n : Int), .slice none 0 0] 32); simpa using this, rfl⟩, World.ownsRow_nil _ _ _ _, ((Past.refl w1).alloc _).alloc _⟩
  have hc0 : ((w1.alloc (.cells #[.map (some P)] 100)).alloc (.cells #[.int .i64 (n : Int), .slice none 0 0] 32)).cell? ⟨w1.heap.size, 0, none⟩ = some (.map (some P)) := by go_simp
  refine wpIn_loop_ghost_k (LnLoop w w1 m A n c xs B l cb ts P) n ⟨0, .slice none 0 0, [], Nat.zero_le _, by omega, nFrame_mk _ _ (by rfl), hst0, hc0, by simp, List.nodup_nil, by simp⟩ ?_
  clear hst0 hc0 b1A b1B
  rintro q a wr ⟨i, v, rs, hin, hiq, ⟨u, rfl⟩, hS, hcb, hdf, hnd, hsi⟩ J K hJ hK
  simp only [nFrame]
  have b0r := cell_in hS.past b0
  have b1r := cell_in hS.past b1
  by_cases hlt : i < n
  · obtain ⟨⟨f, t, ca, la, da⟩, ha⟩ : ∃ a, xs[i]? = some a := ⟨_, List.getElem?_eq_getElem (by have := HX.out; omega)⟩
    obtain ⟨g, o, rfl, c0, c1, c2, c3, c4⟩ := ((hx.below hp1).below hS.past) i _ ha
    have HA := Lib.hid ha
    have i0 : (0 : Int) ≤ (i : Int) := by omega
    have i1 : (i : Int) < (n : Int) := by omega
    have b1A := fun (o : Obj) => cell_in ((Past.refl wr).alloc o) b1r
    have b1B := fun (o o' : Obj) => cell_in (((Past.refl wr).alloc o).alloc o') b1r
    have b0B := fun (o o' : Obj) => cell_in (((Past.refl wr).alloc o).alloc o') b0r
    clear ha
    gi_wp2_with fail
    refine ⟨trivial, ?_⟩
    refine (callsIn_wide.2 (arcsFrom_any m t (some ⟨g, o, none⟩) n c _)).mono ?_
    rintro e w5 ⟨rfl, hw5⟩
    clear b1A b1B b0B c0 c1 c2 c3 c4
    have hs5 : w5.heap.size = wr.heap.size + 4 := by rw [hw5]; simp
    have hp5 : Past wr w5 := by rw [hw5]; exact ((((Past.refl _).alloc _).alloc _).alloc _).alloc _
    have hnum : w5.cell? ⟨wr.heap.size, 0, none⟩ = some (.int .i64 (i : Int)) := by rw [hw5]; go_simp
    have hS5 := hS.later hp5
    have hcb5 := cell_in hp5 hcb
    have hdf5 : ∀ r ∈ rs, w5.heap[r]? = some (.deferred (some [])) := fun r hr => (hp5.block r (Array.getElem?_eq_some_iff.1 (hdf r hr)).1).trans (hdf r hr)
    have hC : ArcsC (wr.heap.size + 1 + 1) (wr.heap.size + 1 + 1 + 1) m t (some ⟨g, o, none⟩) n c xs w5 := ⟨by rw [hw5]; go_simp, by rw [hw5]; go_simp, by rw [hw5]; go_simp, ((hx.below hp1).below hS.past).below hp5⟩
    simp only [World.size_alloc]
    clear hw5
    gi_wp2_with fail
    have hrs : ∀ r ∈ rs, r < wr.heap.size + 4 := fun r hr => by have := (Array.getElem?_eq_some_iff.1 (hdf r hr)).1; omega
    have hXr : w1.heap.size + 1 < wr.heap.size := hS.row.lt
    have hw0 := hp1.size
    have hI0 : LnIn w1 w5 w1.heap.size wr.heap.size n i P rs v (lineTo xs ts n i) := ⟨hS5, hcb5, hnum, hdf5, fun b e => .inl (hS.own.lt b e).2, by omega⟩
    refine wpIn_rangeFunc_ownG rfl (by omega) (gf := 100) (lb := #[.pointer (some ⟨wr.heap.size + 1 + 1, 0, none⟩), .pointer (some ⟨wr.heap.size + 1 + 1 + 1, 0, none⟩)]) rfl trivial (enters_of Try.func100 (by kernel_rfl) rfl)
      (arcsK_stops Fence.wide 3 trivial rfl (by omega) (wr.heap.size + 1 + 1) (wr.heap.size + 1 + 1 + 1) w.heap.size m t (some ⟨g, o, none⟩) n c xs HX.out (by omega) w hx (Nat.le_refl _) w5 hC)
      (fun h k => h.trans k) (fun W l o o' hl ho hc hw => ⟨belowK_b (w := w5) (by omega) W l o o' hl ho hc hw, World.putObj_heap_other (by omega), World.putObj_heap_other (by omega)⟩) (Below.refl _ _) (fun _ => rfl)
      (fun pre W => ∃ v, LnIn w1 W w1.heap.size wr.heap.size n i P rs v (lineTo xs ts n i ++ rowP xs ts i (nums pre)))
      (fun _ _ _ => False)
      (fun pre A B row hs hg hr => by
        obtain ⟨v, h⟩ := hs
        exact ⟨v, h.turn (by omega) hrs hg (fun r e => by have := hr r e; rw [hs5] at this; exact this)⟩)
      (fun _ _ _ _ _ hs _ _ => hs)
      ⟨v, by simpa [nums, rowP] using hI0⟩
      (fun x => { tmps := (.agg #[.int .i64 m, .slice (some ⟨g, o, none⟩) n c] :: .slice B l cb :: .pointer (some ⟨w.heap.size, 0, none⟩) :: undef :: .pointer (some ⟨w.heap.size + 1, 0, none⟩) :: .pointer (some ⟨w1.heap.size, 0, none⟩) :: .pointer (some ⟨w1.heap.size + 1, 0, none⟩) :: .pointer (some ⟨wr.heap.size, 0, none⟩) :: .pointer (some ⟨wr.heap.size + 1, 0, none⟩) :: .int .i64 x.1 :: u 10 :: .slice B l cb :: .map (some P) :: .pointer (some ⟨w.heap.size, 1, none⟩) :: .slice (some ⟨g, o, none⟩) n c :: .int .i64 (n : Int) :: .agg #[.int .i64 (n : Int), .slice none 0 0] :: .pointer (some ⟨w.heap.size, 1, none⟩) :: .slice (some ⟨g, o, none⟩) n c :: .int .i64 (n : Int) :: .int .i64 (i : Int) :: .bool true :: .int .i64 (i : Int) :: .pointer (some ⟨g, o + i * 5, none⟩) :: .agg #[.int .i64 f, .int .i64 t, .int .i64 ca, .int .i64 la, .int .i64 da] :: .agg #[.int .i64 m, .slice (some ⟨g, o, none⟩) n c] :: .pointer (some ⟨wr.heap.size + 1, 1, none⟩) :: .int .i64 t :: .func (.func 100) #[] #[.pointer (some ⟨wr.heap.size + 1 + 1, 0, none⟩), .pointer (some ⟨wr.heap.size + 1 + 1 + 1, 0, none⟩)] :: .int .i64 x.1 :: u 30 :: u 31 :: u 32 :: u 33 :: u 34 :: u 35 :: u 36 :: u 37 :: u 38 :: u 39 :: u 40 :: u 41 :: u 42 :: u 43 :: u 44 :: u 45 :: u 46 :: u 47 :: u 48 :: u 49 :: u 50 :: u 51 :: u 52 :: u 53 :: undef :: []).toArray, defers := [] }) ?assign ?body ?done ?stop
    case assign =>
      intro l x W K hK
      gi_wp2
      exact hK
    case body =>
      rintro ld pre ⟨x, j, ⟨f', t', c', l', d'⟩, rfl, hb', hf⟩ W ⟨v, hI⟩ hlt'
      have hf : f' = t := hf
      subst hf
      have hjk : j < n := by rw [← HX.out]; exact (List.getElem?_eq_some_iff.1 hb').1
      obtain ⟨bb, oo, eg, d0, d1, d2, d3, d4⟩ := ((hx.below hp1).below hI.st.past) j _ hb'
      injection eg with eg
      injection eg with eg1 eg2
      subst eg1 eg2
      have hcst := hI.costs
      have hnm := hI.num
      have hmap := hown.kept (grown_of_below hI.st.past none) (by simp)
      obtain ⟨Kl, hkey⟩ := pair_key (i : Int) (j : Int) (WalkArith.wf_i64 (by omega)) (WalkArith.wf_i64 (by omega))
      have hrun : (Instr.lookup 100 (.map (some P)) (.agg #[.int .i64 (i : Int), .int .i64 (j : Int)]) false).run Try.prog W = .ok (.int .i64 (costF ts (i : Int) (j : Int))) W := by
        obtain ⟨cc, h1, h2, _⟩ := World.ownsMap.lookup_int (w := W) (q := .i64) (t := 100) (e := 3) hmap pairLaw Try.underlying100 Try.underlying3 (by kernel_rfl) hkey
        rw [HD.out (i : Int) (j : Int) Kl hkey, ← HL.out, costLT_all ts _ _ (turnsB_all HT.out).2.2.2] at h2
        have h3 : costF ts (i : Int) (j : Int) = cc := by simpa using h2
        rw [h1, h3]
      have hcb' := costF_bd (turnsB_all HT.out).2.2.1 (i : Int) (j : Int)
      obtain ⟨C, hCC⟩ : ∃ C, C = costF ts (i : Int) (j : Int) := ⟨_, rfl⟩
      rw [← hCC] at hrun hcb'
      have HCC := Lib.hid hCC
      have HB' := Lib.hid hb'
      clear hCC hkey hmap d0 d1 d3 d4
      have hrow : (nums (xs := xs) (node := f') pre).length ≤ n := by rw [nums_length]; omega
      by_cases hneg : C = -1
      · have q1 : (C != -1) = false := by simpa using hneg
        have HN : Hid (lineTo xs ts n i ++ rowP xs ts i (nums pre ++ [(j : Int)]) = lineTo xs ts n i ++ rowP xs ts i (nums pre)) := by
          rw [Hid, rowP_snoc, Int.toNat_natCast, lineArc_no HA.out HB'.out (by rw [← HCC.out]; omega), List.append_nil]
        clear hneg
        gi_wp2
        exact ⟨⟨Nat.le_refl _, fun b o _ ho _ => ho⟩, ⟨Below.refl _ _, rfl, rfl⟩, v, by rw [nums_snoc, HN.out]; exact hI⟩
      · have q1 : (C != -1) = true := by simpa using hneg
        gi_wp2_with fail
        have hbw := cell_in hI.st.past b1
        have o1 := hI.st.o1
        have hgl : g < w.heap.size := by
          obtain ⟨g3, o3, e3, h3, _⟩ := hx j _ HB'.out
          injection e3 with e3
          injection e3 with e4 e5
          subst e4
          exact lt_of_cell h3
        have hbo := ((netB_iff _ _).1 (turnsB_all HT.out).1).2.2 _ (List.mem_of_getElem? HB'.out)
        simp [arcB, inB_iff] at hbo
        obtain ⟨L, hL⟩ : ∃ L, L = lineTo xs ts n i ++ rowP xs ts i (nums pre) := ⟨_, rfl⟩
        have HN : Hid (lineTo xs ts n i ++ rowP xs ts i (nums pre ++ [(j : Int)]) = L ++ [⟨(i : Int), (j : Int), C + c', 0, 9⟩]) := by
          rw [Hid, rowP_snoc, Int.toNat_natCast, lineArc_hit HA.out HB'.out rfl (by rw [← HCC.out]; omega), ← HCC.out, ← List.append_assoc, hL]
        have hlen : L.length ≤ 1000 := by
          have h1 := lineTo_len xs ts n i
          have h2 := rowP_len xs ts i (nums pre)
          have h3 : i * n ≤ 16 * 16 := Nat.mul_le_mul (by omega) hn
          rw [hL, List.length_append]
          omega
        rw [← hL] at hI
        obtain ⟨v1, w9, hr, ⟨A2, k2, c2, rfl⟩, far, ⟨u9, x9⟩, z9, hI9, hkf, hblk, hbel⟩ := hI.fill ⟨(i : Int), (j : Int), C + c', 0, 9⟩ w.heap.size (by omega) hlen (Nat.le_refl _) hXr hsi
        have s1 : IntKind.i64.wrap (C + c') = C + c' := IntWalk.i64_in _ (by omega)
        generalize hV1 : Value.slice A2 k2 c2 = v1 at hr hI9 hkf hblk hbel
        refine wpIn_region_chain (by kernel_rfl) [13, 14, 16] { tmps := (.agg #[.int .i64 m, .slice (some ⟨g, o, none⟩) n c] :: .slice B l cb :: .pointer (some ⟨w.heap.size, 0, none⟩) :: undef :: .pointer (some ⟨w.heap.size + 1, 0, none⟩) :: .pointer (some ⟨w1.heap.size, 0, none⟩) :: .pointer (some ⟨w1.heap.size + 1, 0, none⟩) :: .pointer (some ⟨wr.heap.size, 0, none⟩) :: .pointer (some ⟨wr.heap.size + 1, 0, none⟩) :: .int .i64 (j : Int) :: .int .i64 C :: .slice B l cb :: .map (some P) :: .pointer (some ⟨w.heap.size, 1, none⟩) :: .slice (some ⟨g, o, none⟩) n c :: .int .i64 (n : Int) :: .agg #[.int .i64 (n : Int), .slice none 0 0] :: .pointer (some ⟨w.heap.size, 1, none⟩) :: .slice (some ⟨g, o, none⟩) n c :: .int .i64 (n : Int) :: .int .i64 (i : Int) :: .bool true :: .int .i64 (i : Int) :: .pointer (some ⟨g, o + i * 5, none⟩) :: .agg #[.int .i64 f, .int .i64 f', .int .i64 ca, .int .i64 la, .int .i64 da] :: .agg #[.int .i64 m, .slice (some ⟨g, o, none⟩) n c] :: .pointer (some ⟨wr.heap.size + 1, 1, none⟩) :: .int .i64 f' :: .func (.func 100) #[] #[.pointer (some ⟨wr.heap.size + 1 + 1, 0, none⟩), .pointer (some ⟨wr.heap.size + 1 + 1 + 1, 0, none⟩)] :: .int .i64 (j : Int) :: .map (some P) :: .int .i64 (i : Int) :: .int .i64 (j : Int) :: .agg #[.int .i64 (i : Int), .int .i64 (j : Int)] :: .int .i64 C :: .int .i64 C :: .bool true :: .pointer (some ⟨w1.heap.size + 1, 1, none⟩) :: v :: .int .i64 (i : Int) :: .int .i64 (j : Int) :: .int .i64 C :: .pointer (some ⟨w.heap.size, 1, none⟩) :: .slice (some ⟨g, o, none⟩) n c :: .int .i64 (j : Int) :: .pointer (some ⟨g, o + j * 5, none⟩) :: .pointer (some ⟨g, o + j * 5 + 2, none⟩) :: .int .i64 c' :: (.int .i64 (C + c')) :: (.agg #[.int .i64 (i : Int), .int .i64 (j : Int), .int .i64 (C + c'), .int .i64 0, .int .i64 9]) :: .slice (some ⟨W.heap.size, 0, none⟩) 1 1 :: v1 :: .pointer (some ⟨w1.heap.size + 1, 1, none⟩) :: u 53 :: undef :: []).toArray, defers := [] } (fun s => ([W.drew, W.drew.alloc (.cells #[.int .i64 (i : Int), .int .i64 (j : Int), .int .i64 (C + c'), .int .i64 0, .int .i64 9] 52), w9, w9.setCell ⟨w1.heap.size + 1, 1, none⟩ v1] : List World).getD s W) rfl (by kernel_rfl) (by decide) rfl rfl ?base ?eachop ?fin
        case base =>
          intro t ht
          iterate 37 (rcases t with _ | t; · rfl)
          rcases t with _ | t; · exact absurd rfl (ht 0 _ rfl)
          rcases t with _ | t; · exact absurd rfl (ht 1 _ rfl)
          rcases t with _ | t; · exact absurd rfl (ht 2 _ rfl)
          rcases t with _ | t; · exact absurd rfl (ht 3 _ rfl)
          rcases t with _ | t; · exact absurd rfl (ht 4 _ rfl)
          rcases t with _ | t; · exact absurd rfl (ht 5 _ rfl)
          rcases t with _ | t; · exact absurd rfl (ht 6 _ rfl)
          rcases t with _ | t; · exact absurd rfl (ht 7 _ rfl)
          rcases t with _ | t; · exact absurd rfl (ht 8 _ rfl)
          rcases t with _ | t; · exact absurd rfl (ht 9 _ rfl)
          rcases t with _ | t; · exact absurd rfl (ht 10 _ rfl)
          rcases t with _ | t; · exact absurd rfl (ht 11 _ rfl)
          rcases t with _ | t; · exact absurd rfl (ht 12 _ rfl)
          rcases t with _ | t; · exact absurd rfl (ht 13 _ rfl)
          rcases t with _ | t; · exact absurd rfl (ht 14 _ rfl)
          rcases t with _ | t; · exact absurd rfl (ht 15 _ rfl)
          rfl
        case eachop =>
          have g0 : ∀ s, s < 3 → (([W.drew, W.drew.alloc (.cells #[.int .i64 (i : Int), .int .i64 (j : Int), .int .i64 (C + c'), .int .i64 0, .int .i64 9] 52), w9, w9.setCell ⟨w1.heap.size + 1, 1, none⟩ v1] : List World).getD s W).cell? ⟨w1.heap.size + 1, 1, none⟩ = some v ∧
              (([W.drew, W.drew.alloc (.cells #[.int .i64 (i : Int), .int .i64 (j : Int), .int .i64 (C + c'), .int .i64 0, .int .i64 9] 52), w9, w9.setCell ⟨w1.heap.size + 1, 1, none⟩ v1] : List World).getD s W).cell? ⟨wr.heap.size, 0, none⟩ = some (.int .i64 (i : Int)) ∧
              (([W.drew, W.drew.alloc (.cells #[.int .i64 (i : Int), .int .i64 (j : Int), .int .i64 (C + c'), .int .i64 0, .int .i64 9] 52), w9, w9.setCell ⟨w1.heap.size + 1, 1, none⟩ v1] : List World).getD s W).cell? ⟨w.heap.size, 1, none⟩ = some (.slice (some ⟨g, o, none⟩) n c) ∧
              (([W.drew, W.drew.alloc (.cells #[.int .i64 (i : Int), .int .i64 (j : Int), .int .i64 (C + c'), .int .i64 0, .int .i64 9] 52), w9, w9.setCell ⟨w1.heap.size + 1, 1, none⟩ v1] : List World).getD s W).cell? ⟨g, o + j * 5 + 2, none⟩ = some (.int .i64 c') := by
            intro s hs
            rcases s with _ | _ | _ | s
            · exact ⟨o1, hnm, hbw, d2⟩
            · exact ⟨cell_in (((Past.refl W).drew).alloc _) o1, cell_in (((Past.refl W).drew).alloc _) hnm, cell_in (((Past.refl W).drew).alloc _) hbw, cell_in (((Past.refl W).drew).alloc _) d2⟩
            · exact ⟨far _ _ (.inl (by simp)) o1, far _ _ (.inr (by simp)) hnm, far _ _ (.inl (by simp; omega)) hbw, far _ _ (.inl (by simp; omega)) d2⟩
            · omega
          generalize hWS : ([W.drew, W.drew.alloc (.cells #[.int .i64 (i : Int), .int .i64 (j : Int), .int .i64 (C + c'), .int .i64 0, .int .i64 9] 52), w9, w9.setCell ⟨w1.heap.size + 1, 1, none⟩ v1] : List World) = wl at g0 ⊢
          have q0 : ∀ s, s < 3 → (wl.getD s W).cell? ⟨w1.heap.size + 1, 1, none⟩ = some v := fun s h => (g0 s h).1
          have q1 : ∀ s, s < 3 → (wl.getD s W).cell? ⟨wr.heap.size, 0, none⟩ = some (.int .i64 (i : Int)) := fun s h => (g0 s h).2.1
          have q2 : ∀ s, s < 3 → (wl.getD s W).cell? ⟨w.heap.size, 1, none⟩ = some (.slice (some ⟨g, o, none⟩) n c) := fun s h => (g0 s h).2.2.1
          have q3 : ∀ s, s < 3 → (wl.getD s W).cell? ⟨g, o + j * 5 + 2, none⟩ = some (.int .i64 c') := fun s h => (g0 s h).2.2.2
          have j0 : (0 : Int) ≤ (j : Int) := by omega
          have j1 : (j : Int) < (n : Int) := by omega
          refine ⟨?o0, ?o1, ?o2, ?o3, ?o4, ?o5, ?o6, ?o7, ?o8, ?o9, ?o10, ?o11, ?o12, ?o13, ?o14, ?o15, ?o16, trivial⟩
          case o13 => refine opAt_writer 0 (by decide) rfl (.inl ?_); subst hWS; go_simp
          case o14 =>
            refine opAt_writer 1 (by decide) rfl (.inl ?_)
            subst hWS
            unfold execOp
            simp only [resolve, invoke, builtin, Sem.run_bind, Sem.run_pure, Result.andThen_ok, List.map_toArray, List.map_cons, List.map_nil]
            refine Eq.trans (congrArg (fun r => Result.andThen r _) hr) ?_
            rfl
          case o16 => refine opAt_writer 2 (by decide) rfl (.inr ⟨rfl, ?_⟩); subst hWS hV1; go_simp
          all_goals refine opAt_quiet (by decide) fun s hs => .inl ?_
          all_goals have hs : s < 3 := hs
          all_goals have q0 := q0 s hs
          all_goals have q1 := q1 s hs
          all_goals have q2 := q2 s hs
          all_goals have q3 := q3 s hs
          all_goals clear hWS g0 far x9 z9 hI9 hkf hblk hbel hr
          all_goals generalize wl.getD s W = ww at *
          all_goals go_simp
        case fin =>
          exact ⟨by rw [hs5]; exact hkf, ⟨hbel, hblk _ (.inr (by omega)), hblk _ (.inr (by omega))⟩, _, by rw [nums_snoc, HN.out]; exact hI9⟩
    case done =>
      rintro Dd ys W hD hys ⟨v', hI⟩ hDd
      have hL : lineTo xs ts n i ++ rowP xs ts i (nums ys) = lineTo xs ts n (i + 1) := by
        rw [lineTo, hys, rowP_all ts HA.out n (by rw [HX.out]; exact Nat.le_refl _)]
      rw [hL] at hI
      have hI1 := hI.st
      have hI2 := hI.costs
      have hI3 := hI.defs
      clear hI hL
      gi_wp2
      refine Handed.intro (n - (i + 1)) (by omega) (hJ _ _ _ ⟨i + 1, v', Dd :: rs, by omega, Nat.le_refl _, nFrame_mk _ _ (by rfl), hI1, hI2, fun r hr => ?_, List.nodup_cons.2 ⟨fun hr => ?_, hnd⟩, fun r hr => ?_⟩)
      · rcases List.mem_cons.1 hr with rfl | hr
        · exact hDd
        · exact hI3 r hr
      · have := hrs Dd hr
        omega
      · rcases List.mem_cons.1 hr with rfl | hr
        · omega
        · exact hsi r hr
    case stop =>
      rintro D c pre W _ _ h _
      exact h.elim
  · obtain rfl : i = n := by omega
    have e0r := cell_in hS.past e0
    have e1r := cell_in hS.past e1
    have hrc : RowN w1 (w.heap.size + 1) 32 2 := hrc0
    have rr := hrc.keep (hS.past.block _ hrc.lt)
    have z0r := rr.frozen 0
    have z1r := rr.frozen 1
    have sv : w.heap.size + 1 < w1.heap.size := lt_of_cell e0
    obtain ⟨D, hD⟩ : ∃ D, D = (lineTo xs ts i i).length := ⟨_, rfl⟩
    obtain ⟨A2, c2, rfl, hx9, _⟩ := (show ResA wr (w1.heap.size + 1 + 1) v (lineTo xs ts i i) from hS.own).form
    have hown := hS.own
    have o0 := hS.o0
    have o1 := hS.o1
    rw [← hD] at hown o1
    have HDD := Lib.hid hD
    have HS := Lib.hid hS
    have HLL : Hid (lineTo xs ts i i = lineL xs ts) := by rw [Hid, lineL, HX.out]
    clear hS hD
    gi_wp2
    have hbl : Past w ((wr.setCell ⟨w.heap.size + 1, 0, none⟩ (.int .i64 (i : Int))).setCell ⟨w.heap.size + 1, 1, none⟩ (.slice A2 D c2)) := Below.setCell (Below.setCell (hp1.trans HS.out.past) (by simp) _) (by simp) _
    have hblk : ∀ r, r ≠ w.heap.size + 1 → ((wr.setCell ⟨w.heap.size + 1, 0, none⟩ (.int .i64 (i : Int))).setCell ⟨w.heap.size + 1, 1, none⟩ (.slice A2 D c2)).heap[r]? = wr.heap[r]? := fun r hr => (Below.heap_setCell _ _ _ _ hr).trans (Below.heap_setCell _ _ _ _ hr)
    refine leaves_marks rs _ hnd (fun r hr => (hblk r (by have := hsi r hr; omega)).trans (hdf r hr)) (fun W' hc => ⟨.agg #[.int .i64 (i : Int), .slice A2 D c2], ?_, ⟨_, rfl, ?_, ?_⟩⟩)
    · have nr : ¬ (w.heap.size + 1 ∈ rs) := fun h => by have := hsi _ h; omega
      have q0 := hc.cell (p := ⟨w.heap.size + 1, 0, none⟩) ((World.cell?_setCell_other _ _ _ _ (by simp)).trans (World.cell?_setCell_same wr ⟨w.heap.size + 1, 0, none⟩ (.int .i64 (i : Int)) e0r)) nr
      have q1 := hc.cell (p := ⟨w.heap.size + 1, 1, none⟩) (World.cell?_setCell_same (wr.setCell ⟨w.heap.size + 1, 0, none⟩ (.int .i64 (i : Int))) ⟨w.heap.size + 1, 1, none⟩ (.slice A2 D c2) ((World.cell?_setCell_other _ _ _ _ (by simp)).trans e1r)) nr
      simp [results, Try.results63, go_sem, q0, q1]
    · have h1 : ((wr.setCell ⟨w.heap.size + 1, 0, none⟩ (.int .i64 (i : Int))).setCell ⟨w.heap.size + 1, 1, none⟩ (.slice A2 D c2)).ownsRow (w1.heap.size + 1 + 1) 52 5 (.slice A2 D c2) D (cellsOf (lineTo xs ts i i)) :=
        own_far (own_far hown (fun e => own_ne hown (g := w.heap.size + 1) (by omega) e.symm) _) (fun e => own_ne hown (g := w.heap.size + 1) (by omega) e.symm) _
      have h2 := hc.own h1 (fun x e hx => by
        obtain ⟨cs, hcs⟩ := cells_of_own h1 e
        have hd := (hblk x (by have := (h1.lt x e).1; omega)).trans (hdf x hx)
        rw [hcs] at hd
        cases hd)
      rw [← HLL.out]
      refine ResA.lower (lo := w1.heap.size + 1 + 1) ?_ (by have := hp1.size; omega)
      unfold ResA
      rw [← HDD.out]
      exact h2
    · exact hbl.belowTrans (hc.below hbl.size (fun x hx hr => by have := hsi x hr; have := hp1.size; omega))

end Go.Proofs.Ytaojognjkiifmaa
