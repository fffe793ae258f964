/-
  How much of each arc can be gone for no more, as the program goes: impl.ReachArcs. No condition.
-/
import Derived.Test.YtgeoheeibebmcabOrdCh
import Derived.Test.YtgeoheeibebmcabRInI
import Derived.Test.YtgeoheeibebmcabNRepI
import Derived.Test.YtgeoheeibebmcabRArcS
namespace Go.Proofs.Ytgeoheeibebmcab
open Go.RowKit Go.Shelf

attribute [local go_sem] Oper.semAt_some

/-- How far one comes on an arc that begins where one is for so much. -/
def goI (most z : Int) (a : ArcD) : Int := if most - z < a.c then most - z else a.c

/-- What is written while the arcs of a node come. -/
structure GoneS (W0 W : World) (GG n : Nat) (xs : List ArcD) (nd most z : Int) (L : List Int) (pre : List Int) : Prop where
  row : ∃ L', L'.length = n ∧ RowI W GG L' ∧ ∀ (i : Nat) a, xs[i]? = some a → L'[i]? = if a.f = nd ∧ (i : Int) ∈ pre then some (goI most z a) else L[i]?
  grown : W0.grownBy W (some GG)

theorem GoneS.turn {W0 W W' : World} {GG n : Nat} {xs : List ArcD} {nd most z : Int} {L pre : List Int} {row : Option Nat} (h : GoneS W0 W GG n xs nd most z L pre) (hg : W.grownBy W' row) (hr : ∀ r, row = some r → W0.heap.size ≤ r ∧ ∃ o : Obj, W.heap[r]? = some o ∧ o.isCells = false) : GoneS W0 W' GG n xs nd most z L pre := by
  obtain ⟨⟨L', h1, h2, h3⟩, h4⟩ := h
  have hlt := h2.1.lt
  refine ⟨⟨L', h1, h2.keep (hg.block GG hlt (fun e => ?_)), h3⟩, ⟨hg.os.trans h4.os, hg.tape.trans h4.tape, hg.output.trans h4.output, Nat.le_trans h4.size hg.size, fun i hi hn => (hg.block i (by have := h4.size; omega) (fun e => ?_)).trans (h4.block i hi hn)⟩⟩
  · obtain ⟨_, o, ho, hc⟩ := hr GG e.symm
    obtain ⟨cs, hcs, _⟩ := h2.1
    rw [hcs] at ho
    injection ho with ho
    rw [← ho] at hc
    cases hc
  · have := (hr i e.symm).1
    omega

set_option maxRecDepth 1000000 in
set_option maxHeartbeats 4000000 in
theorem reachArcs1_in (M nd : Nat) (most z : Int) (A : Option Addr) (n c : Nat) (xs : List ArcD) (Bn Bm Bg GG : Nat) (L : List Int) (wE W : World) (hnx : xs.length = n) (hn : n ≤ 16) (hE : ArcsAt wE A xs) (hx : ArcsAt W A xs)
    (hle : wE.heap.size ≤ GG) (hz0 : 0 ≤ z) (hzm : z ≤ most) (hmost : most ≤ 9223372036854775807)
    (b0 : W.cell? ⟨Bn, 0, none⟩ = some (.int .i64 (M : Int))) (b1 : W.cell? ⟨Bn, 1, none⟩ = some (.slice A n c)) (bm : W.cell? ⟨Bm, 0, none⟩ = some (.int .i64 most)) (bg : W.cell? ⟨Bg, 0, none⟩ = some (.slice (some ⟨GG, 0, none⟩) n n))
    (hnG : Bn ≠ GG) (hmG : Bm ≠ GG) (hgG : Bg ≠ GG) (hl : L.length = n) (hrow : RowI W GG L) :
    CallsIn Fence.wide 4 Try.prog 66 #[.int .i64 (nd : Int), .int .i64 z, .pointer (some ⟨Bn, 0, none⟩), .pointer (some ⟨Bm, 0, none⟩), .pointer (some ⟨Bg, 0, none⟩)] W
      fun e W' => e = .returned (.tuple #[]) ∧ W.grownBy W' (some GG) ∧ ∃ L', L'.length = n ∧ RowI W' GG L' ∧ ∀ (i : Nat) a, xs[i]? = some a → L'[i]? = if a.f = (nd : Int) then some (goI most z a) else L[i]? := by
  have HX := Lib.hid hnx
  have B0 := Lib.hid b0
  have B1 := Lib.hid b1
  have BM := Lib.hid bm
  have BG := Lib.hid bg
  have HROW := Lib.hid hrow
  have hGlt := hrow.1.lt
  have hnlt := lt_of_cell b0
  have hmlt := lt_of_cell bm
  have hglt := lt_of_cell bg
  simp only at hnlt hmlt hglt
  have t1 : IntKind.i64.wrap (most - z) = most - z := IntWalk.i64_in _ (by omega)
  have T1 := Lib.hid t1
  have b0A := fun (o : Obj) => cell_in ((Past.refl W).alloc o) b0
  have b1A := fun (o : Obj) => cell_in ((Past.refl W).alloc o) b1
  clear hnx bm bg hrow t1
  refine callsIn_of_wp_marks Try.func66 rfl trivial ?_ rfl
  simp only [Try.ntmps66, List.size_toArray, List.length_cons, List.length_nil, Nat.reduceAdd, Nat.reduceSub, Array.replicate_succ, Array.replicate_zero, List.push_toArray, List.append_toArray, List.nil_append, List.cons_append]
  gi_wp2_with fail
  refine ⟨trivial, ?_⟩
  refine (callsIn_wide.2 (arcsFrom_any (M : Int) (nd : Int) A n c _)).mono ?_
  rintro e w5 ⟨rfl, hw5⟩
  clear b0A b1A b0 b1
  have hs5 : w5.heap.size = W.heap.size + 3 := by rw [hw5]; simp
  have hp5 : Past W w5 := by rw [hw5]; exact (((Past.refl _).alloc _).alloc _).alloc _
  have hC : ArcsC (W.heap.size + 1) (W.heap.size + 1 + 1) (M : Int) (nd : Int) A n c xs w5 := ⟨by rw [hw5]; go_simp, by rw [hw5]; go_simp, by rw [hw5]; go_simp, hx.below hp5⟩
  have hcz : w5.cell? ⟨W.heap.size, 0, none⟩ = some (.int .i64 z) := by rw [hw5]; go_simp
  have HCZ := Lib.hid hcz
  have hG0 : GoneS w5 w5 GG n xs (nd : Int) most z L [] := ⟨⟨L, hl, HROW.out.below hp5, fun i a _ => by simp⟩, grown_refl _ _⟩
  simp only [World.size_alloc]
  clear hw5 hcz
  gi_wp2_with fail
  refine wpIn_rangeFunc_ownG rfl (by omega) (gf := 112) (lb := #[.pointer (some ⟨W.heap.size + 1, 0, none⟩), .pointer (some ⟨W.heap.size + 1 + 1, 0, none⟩)]) rfl trivial (enters_of Try.func112 (by kernel_rfl) rfl)
    (arcsK_stops Fence.wide 3 trivial rfl (by omega) (W.heap.size + 1) (W.heap.size + 1 + 1) wE.heap.size (M : Int) (nd : Int) A n c xs HX.out (by omega) wE hE (Nat.le_refl _) w5 hC)
    (fun h k => h.trans k) (fun V l o o' hl ho hc hw => ⟨belowK_b (w := w5) (by omega) V l o o' hl ho hc hw, World.putObj_heap_other (by omega), World.putObj_heap_other (by omega)⟩) (Below.refl _ _) (fun _ => rfl)
    (fun pre V => GoneS w5 V GG n xs (nd : Int) most z L (nums pre))
    (fun _ _ _ => False)
    (fun pre A B row hs hg hr => hs.turn hg hr)
    (fun _ _ _ _ _ hs _ _ => hs)
    (by simpa [nums] using hG0)
    (fun x => { tmps := #[.int .i64 (nd : Int), .int .i64 z, .pointer (some ⟨Bn, 0, none⟩), .pointer (some ⟨Bm, 0, none⟩), .pointer (some ⟨Bg, 0, none⟩), undef, .pointer (some ⟨W.heap.size, 0, none⟩), .int .i64 x.1, .agg #[.int .i64 (M : Int), .slice A n c], .int .i64 (nd : Int), .func (.func 112) #[] #[.pointer (some ⟨W.heap.size + 1, 0, none⟩), .pointer (some ⟨W.heap.size + 1 + 1, 0, none⟩)], .int .i64 x.1, undef, undef, undef, undef, undef, undef, undef, undef, undef, undef, undef, undef, undef], defers := [] }) ?assign ?body ?done ?stop
  case assign =>
    intro l x V K hK
    gi_wp2
    exact hK
  case body =>
    rintro ld pre ⟨x, j, ⟨f, t, c', l', d'⟩, rfl, hb', hf⟩ V hI hlt'
    have hf : f = (nd : Int) := hf
    subst hf
    have hjk : j < n := by rw [← HX.out]; exact (List.getElem?_eq_some_iff.1 hb').1
    obtain ⟨⟨L', h1, h2, h3⟩, h4⟩ := hI
    have p0 : V.cell? ⟨Bn, 1, none⟩ = some (.slice A n c) := cell_far h4 (cell_in hp5 B1.out) hnG
    have p1 : V.cell? ⟨Bm, 0, none⟩ = some (.int .i64 most) := cell_far h4 (cell_in hp5 BM.out) hmG
    have p2 : V.cell? ⟨Bg, 0, none⟩ = some (.slice (some ⟨GG, 0, none⟩) n n) := cell_far h4 (cell_in hp5 BG.out) hgG
    have p3 : V.cell? ⟨W.heap.size, 0, none⟩ = some (.int .i64 z) := cell_far h4 HCZ.out (by simp only [ne_eq]; omega)
    obtain ⟨g, o, rfl, d0, d1, d2, d3, d4⟩ := hx j _ hb'
    have hgE : g ≠ GG := by
      obtain ⟨g3, o3, e3, q3, _⟩ := hE j _ hb'
      injection e3 with e3
      injection e3 with e4 e5
      subst e4
      have := lt_of_cell q3
      simp only at this
      omega
    have p4 : V.cell? ⟨g, o + j * 5 + 2, none⟩ = some (.int .i64 c') := cell_far h4 (cell_in hp5 d2) hgE
    obtain ⟨y, hy⟩ : ∃ y, L'[j]? = some y := ⟨_, List.getElem?_eq_getElem (by omega)⟩
    obtain ⟨gr, og, er, p5⟩ := h2.2 j y hy
    injection er with er
    injection er with er1 er2
    subst er1 er2
    rw [Nat.zero_add] at p5
    have p6 := h2.1.frozen j
    have hset := h2.set j (if most - z < c' then most - z else c') (by omega)
    have hGV := h2.1.lt
    have hV5 := h4.size
    have hT := T1.out
    have j0 : (0 : Int) ≤ (j : Int) := by omega
    have j1 : (j : Int) < (n : Int) := by omega
    obtain ⟨mn, hmn⟩ : ∃ mn, mn = (if most - z < c' then most - z else c') := ⟨_, rfl⟩
    have hmin : (if most - z < c' then most - z else c') = mn := hmn.symm
    have hmin2 : min c' (most - z) = mn := by rw [hmn]; split <;> omega
    rw [hmin] at hset
    have HSET := Lib.hid hset
    have HMN : Hid (goI most z ⟨(nd : Int), t, c', l', d'⟩ = mn) := by rw [Hid, goI, hmn]
    have HP3 := Lib.hid h3
    clear d0 d1 d2 d3 d4 hset hmn h3
    gi_wp2_with fail
    refine wpIn_region_chain (by kernel_rfl) [13] { tmps := #[.int .i64 (nd : Int), .int .i64 z, .pointer (some ⟨Bn, 0, none⟩), .pointer (some ⟨Bm, 0, none⟩), .pointer (some ⟨Bg, 0, none⟩), undef, .pointer (some ⟨W.heap.size, 0, none⟩), .int .i64 (j : Int), .agg #[.int .i64 (M : Int), .slice (some ⟨g, o, none⟩) n c], .int .i64 (nd : Int), .func (.func 112) #[] #[.pointer (some ⟨W.heap.size + 1, 0, none⟩), .pointer (some ⟨W.heap.size + 1 + 1, 0, none⟩)], .int .i64 (j : Int), .slice (some ⟨GG, 0, none⟩) n n, .int .i64 (j : Int), .pointer (some ⟨Bn, 1, none⟩), .slice (some ⟨g, o, none⟩) n c, .int .i64 (j : Int), .pointer (some ⟨g, o + j * 5, none⟩), .pointer (some ⟨g, o + j * 5 + 2, none⟩), .int .i64 c', .int .i64 most, .int .i64 z, .int .i64 (most - z), .int .i64 mn, .pointer (some ⟨GG, j, none⟩)], defers := [] } (fun s => ([V.drew, V.drew.setCell ⟨GG, j, none⟩ (.int .i64 mn)] : List World).getD s V) rfl (by kernel_rfl) (by decide) rfl rfl ?base ?eachop ?fin
    case base =>
      intro t ht
      iterate 12 (rcases t with _ | t; · rfl)
      rcases t with _ | t; · exact absurd rfl (ht 0 _ rfl)
      rcases t with _ | t; · exact absurd rfl (ht 1 _ rfl)
      rcases t with _ | t; · exact absurd rfl (ht 2 _ rfl)
      rcases t with _ | t; · exact absurd rfl (ht 3 _ rfl)
      rcases t with _ | t; · exact absurd rfl (ht 4 _ rfl)
      rcases t with _ | t; · exact absurd rfl (ht 5 _ rfl)
      rcases t with _ | t; · exact absurd rfl (ht 6 _ rfl)
      rcases t with _ | t; · exact absurd rfl (ht 7 _ rfl)
      rcases t with _ | t; · exact absurd rfl (ht 8 _ rfl)
      rcases t with _ | t; · exact absurd rfl (ht 9 _ rfl)
      rcases t with _ | t; · exact absurd rfl (ht 10 _ rfl)
      rcases t with _ | t; · exact absurd rfl (ht 11 _ rfl)
      rcases t with _ | t; · exact absurd rfl (ht 12 _ rfl)
      rfl
    case eachop =>
      refine ⟨?p0, ?p1, ?p2, ?p3, ?p4, ?p5, ?p6, ?p7, ?p8, ?p9, ?p10, ?p11, ?p12, ?p13, trivial⟩
      case p13 => refine opAt_writer 0 (by decide) rfl (.inr ⟨rfl, ?_⟩); go_simp
      all_goals refine opAt_quiet (by decide) fun s hs => .inl ?_
      all_goals obtain rfl : s = 0 := by simp at hs; omega
      all_goals go_simp
    case fin =>
      change KeepsFrom w5.heap.size V (V.drew.setCell ⟨GG, j, none⟩ (.int .i64 mn)) ∧ KArcs wE.heap.size (W.heap.size + 1) (W.heap.size + 1 + 1) V (V.drew.setCell ⟨GG, j, none⟩ (.int .i64 mn)) ∧ GoneS w5 (V.drew.setCell ⟨GG, j, none⟩ (.int .i64 mn)) GG n xs (nd : Int) most z L (nums (pre ++ [_]))
      refine ⟨(show KeepsFrom w5.heap.size V V.drew from ⟨Nat.le_refl _, fun _ _ _ h _ => h⟩).trans ((KeepsOthers.setCell V.drew ⟨GG, j, none⟩ (.int .i64 mn)).from _), ⟨Below.setCell (Below.refl wE.heap.size V).drew (p := ⟨GG, j, none⟩) hle _, Below.heap_setCell V.drew ⟨GG, j, none⟩ _ _ (by simp only [ne_eq]; omega), Below.heap_setCell V.drew ⟨GG, j, none⟩ _ _ (by simp only [ne_eq]; omega)⟩, ⟨L'.set j mn, by rw [List.length_set]; exact h1, HSET.out, fun i a ha => ?_⟩, grown_trans h4 (grown_set (grown_drew (grown_refl V _)) j _)⟩
      rw [nums_snoc]
      by_cases e : i = j
      · subst e
        rw [hb'] at ha
        injection ha with ha
        subst ha
        rw [if_pos ⟨rfl, by simp⟩, List.getElem?_set, if_pos rfl, HMN.out]
        simp
        omega
      · rw [List.getElem?_set, if_neg (fun h => e h.symm), HP3.out i a ha]
        have hmem : (i : Int) ∈ nums pre ++ [(j : Int)] ↔ (i : Int) ∈ nums pre := by simp; omega
        simp only [hmem]
  case done =>
    rintro Dd ys V hD hys hI hDd
    gi_wp2
    have hI2 := hI.turn (grownBy_putObj' V Dd (.deferred none)) (fun r e => by cases e; exact ⟨hD, _, hDd, rfl⟩)
    refine ⟨by simp, .inl ⟨_, _, rfl, run_takeDeferred hDd, ?_⟩⟩
    obtain ⟨⟨L', h1, h2, h3⟩, h4⟩ := hI2
    refine ⟨.tuple #[], by simp [results, Try.results66, go_sem], rfl, grown_trans (grown_of_below hp5 _) h4, L', h1, h2, fun i a ha => ?_⟩
    rw [h3 i a ha, hys]
    have hmem : a.f = (nd : Int) → (i : Int) ∈ outTo xs (nd : Int) n := fun hf => outTo_all xs (nd : Int) n i a (by rw [← HX.out]; exact (List.getElem?_eq_some_iff.1 ha).1) ha hf
    by_cases hf : a.f = (nd : Int)
    · rw [if_pos ⟨hf, hmem hf⟩, if_pos hf]
    · rw [if_neg (fun h => hf h.1), if_neg hf]
  case stop =>
    rintro D c pre W _ _ h _
    exact h.elim

/-- What has been written when the first k nodes have come. -/
def GoneTo (xs : List ArcD) (d : List Int) (most : Int) (k : Nat) (L : List Int) : Prop :=
  ∀ (i : Nat) a, xs[i]? = some a → L[i]? = some (if a.f < (k : Int) then partI d most a else -1)

structure ArcJ (W0 : World) (GG n : Nat) (xs : List ArcD) (d : List Int) (most : Int) (k : Nat) (W : World) : Prop where
  row : ∃ L, L.length = n ∧ RowI W GG L ∧ GoneTo xs d most k L
  grown : W0.grownBy W (some GG)

set_option maxRecDepth 100000 in
set_option maxHeartbeats 1000000 in
theorem implReachArcs_any (m : Int) (A : Option Addr) (n c : Nat) (xs : List ArcD) (s most : Int) (w : World) (hn : n ≤ 1048576) (hnx : xs.length = n) (hx : ArcsAt w A xs) (hmost : most ≤ 9223372036854775807) :
    Calls Try.prog 23 #[.agg #[.int .i64 m, .slice A n c], .int .i64 s, .int .i64 most] w (Gives w (goneI m xs s most)) := by
  have HX := Lib.hid hnx
  clear hnx
  obtain ⟨W0, hW0⟩ : ∃ W0, W0 = ((w.alloc (.cells #[.int .i64 m, .slice A n c] 25)).alloc (.cells #[.int .i64 most] 3)).alloc (.cells #[.int .i64 s] 3) := ⟨_, rfl⟩
  have hpW : Past w W0 := by rw [hW0]; exact (((Past.refl _).alloc _).alloc _).alloc _
  have b0 : W0.cell? ⟨w.heap.size, 0, none⟩ = some (.int .i64 m) := by rw [hW0]; go_simp
  have b1 : W0.cell? ⟨w.heap.size, 1, none⟩ = some (.slice A n c) := by rw [hW0]; go_simp
  have bm : W0.cell? ⟨w.heap.size + 1, 0, none⟩ = some (.int .i64 most) := by rw [hW0]; go_simp
  have hz : IntsAt W0 (some ⟨w.heap.size + 1 + 1, 0, none⟩) [s] := fun k y hk => by
    cases k with
    | zero => simp at hk; subst hk; exact ⟨_, _, rfl, by rw [hW0]; go_simp⟩
    | succ k => simp at hk
  have HW := Lib.hid hW0
  clear hW0
  go_enter Try.func23, Try.ntmps23
  go_wp2_with fail
  rw [← HW.out]
  clear HW
  refine (netHas_any m A n c xs _ 1 1 [s] _ hn HX.out (hx.below hpW) (by omega) rfl hz).mono ?_
  rintro e w1 ⟨rfl, hb1⟩
  have b0 := cell_in hb1 b0
  have b1 := cell_in hb1 b1
  have bm := cell_in hb1 bm
  have hp1 := hpW.trans hb1
  have hH : (netB m xs && [s].all (fun z => inB z 0 (m - 1))) = hereB m xs s := by simp [hereB]
  rw [hH]
  clear hH hb1 hpW hz
  cases hB : hereB m xs s with
  | false =>
    have HB := Lib.hid hB
    clear hB
    go_wp2
    go_ret
    exact ⟨_, rfl, by rw [goneI, HB.out]; exact Res.nil _ _, hp1⟩
  | true =>
    obtain ⟨hN, hs0, hs1⟩ := (hereB_iff _ _ _).1 hB
    obtain ⟨M, rfl, h1, h8⟩ := here_nat hN
    have h16 := ((netB_iff _ _).1 hN).2.1
    rw [HX.out] at h16
    have hds : nearI (M : Int) xs s = nearL M xs s := by rw [nearI, hB, if_pos rfl, Int.toNat_natCast]
    obtain ⟨d, hd⟩ : ∃ d, d = nearL M xs s := ⟨_, rfl⟩
    have hdl : d.length = M := by rw [hd, nearL_length]
    have hdb : ∀ v : Int, 0 ≤ v → v < M → 0 ≤ at_ d v ∧ at_ d v ≤ 99999 := fun v h0 h1 => by rw [hd]; exact nearL_bound (arcsIn_net hN) ⟨by omega, by omega⟩ ⟨h0, h1⟩
    rw [← hd] at hds
    have HB := Lib.hid hB
    have HN := Lib.hid hN
    have HD := Lib.hid hd
    have HDS := Lib.hid hds
    have HDL := Lib.hid hdl
    have HDB := Lib.hid hdb
    clear hB hN hd hds hdl hdb
    have b1A := fun (o : Obj) => cell_in ((Past.refl w1).alloc o) b1
    go_wp2_with fail
    clear b1A
    refine (repeatI_any w1.heap.size n (-1) _ (by omega) (by go_simp)).mono ?_
    rintro e w2 ⟨rfl, hrep, hb2⟩
    rw [World.size_alloc] at hrep ⊢
    have hp12 : Past w1 w2 := ((Past.refl w1).alloc _).trans hb2
    have b0 := cell_in hp12 b0
    have b1 := cell_in hp12 b1
    have bm := cell_in hp12 bm
    have hrow2 := RowI.of_rep hrep
    have hsz2 : w1.heap.size + 1 < w2.heap.size := hrow2.1.lt
    have hw1 : w.heap.size + 1 < w1.heap.size := by have := lt_of_cell (p := ⟨w.heap.size + 1, 0, none⟩) (w := w1) (v := .int .i64 most) (by assumption); exact this
    obtain ⟨W3, hW3⟩ : ∃ W3, W3 = w2.alloc (.cells #[.slice (some ⟨w1.heap.size + 1, 0, none⟩) n n] 28) := ⟨_, rfl⟩
    have hp3 : Past w2 W3 := by rw [hW3]; exact (Past.refl _).alloc _
    have bg : W3.cell? ⟨w2.heap.size, 0, none⟩ = some (.slice (some ⟨w1.heap.size + 1, 0, none⟩) n n) := by rw [hW3]; go_simp
    have hs3 : W3.heap.size = w2.heap.size + 1 := by rw [hW3]; simp
    have HW3 := Lib.hid hW3
    have b0A := fun (o : Obj) => cell_in ((Past.refl w2).alloc o) b0
    have b1A := fun (o : Obj) => cell_in ((Past.refl w2).alloc o) b1
    have bmA := fun (o : Obj) => cell_in ((Past.refl w2).alloc o) bm
    have B0 := Lib.hid (cell_in hp3 b0)
    have B1 := Lib.hid (cell_in hp3 b1)
    have BM := Lib.hid (cell_in hp3 bm)
    have BG := Lib.hid bg
    have hpz : Past w W3 := (hp1.trans hp12).trans hp3
    have hx3 := hx.below hpz
    have hrow3 := hrow2.below hp3
    have HBEL : Hid (∀ V, W3.grownBy V (some (w1.heap.size + 1)) → Below w.heap.size W3 V) := fun V hg => ⟨hg.os, hg.tape, hg.output, hg.size, fun i hi => hg.block i (by omega) (fun e => by injection e with e; omega)⟩
    clear hW3 hrep hb2 hp12 hrow2
    go_wp2_with fail
    clear b0A b1A bmA b0 b1 bm bg
    rw [← HW3.out]
    refine (traverse_any 66 #[.pointer (some ⟨w.heap.size, 0, none⟩), .pointer (some ⟨w.heap.size + 1, 0, none⟩), .pointer (some ⟨w2.heap.size, 0, none⟩)] (M : Int) A n c xs s most _ (enters_of Try.func66 (by kernel_rfl) rfl) hn HX.out hx3 d HDS.out
      (fun _ k V => ArcJ W3 (w1.heap.size + 1) n xs d most k V)
      (fun V hV => ⟨⟨_, by simp, hrow3.below hV, fun i a ha => ?start⟩, grown_of_below hV _⟩)
      (fun B k V hV hk hno => ⟨?skip, hV.grown⟩)
      (fun B k V h1 h2 hk hV hyes => ?call)).mono ?after
    case start =>
      have := arcsIn_net HN.out a (List.mem_of_getElem? ha)
      have hi : i < n := by rw [← HX.out]; exact (List.getElem?_eq_some_iff.1 ha).1
      rw [if_neg (by omega)]
      simp [hi]
    case skip =>
      obtain ⟨L, q1, q2, q3⟩ := hV.row
      refine ⟨L, q1, q2, fun i a ha => ?_⟩
      rw [q3 i a ha]
      by_cases e : a.f = (k : Int)
      · rw [if_neg (by omega), if_pos (by omega), partI, e, hno]
        rfl
      · by_cases e2 : a.f < (k : Int)
        · rw [if_pos e2, if_pos (by omega)]
        · rw [if_neg e2, if_neg (by omega)]
    case call =>
      obtain ⟨⟨L, q1, q2, q3⟩, hg⟩ := hV
      have hh := (rchB_iff _ _).1 hyes
      have hdk := HDB.out (k : Int) (by omega) (by have := HDL.out; omega)
      refine ((callsIn_wide (n := 4)).1 (reachArcs1_in M k most (at_ d (k : Int)) A n c xs w.heap.size (w.heap.size + 1) w2.heap.size (w1.heap.size + 1) L w V HX.out h16 hx (hx.under hx3 (HBEL.out V hg) (Nat.le_refl _)) (by omega) hdk.1 hh.2 hmost
        (cell_far hg B0.out (by simp only [ne_eq]; omega)) (cell_far hg B1.out (by simp only [ne_eq]; omega)) (cell_far hg BM.out (by simp only [ne_eq]; omega)) (cell_far hg BG.out (by simp only [ne_eq]; omega)) (by omega) (by omega) (by omega) q1 q2)).mono ?_
      rintro e V' ⟨rfl, hg', L', r1, r2, r3⟩
      refine ⟨rfl, ⟨⟨L', r1, r2, fun i a ha => ?_⟩, grown_trans hg hg'⟩, hg'.size, fun b hb1 hb2 => hg'.block b (by omega) (fun e => by injection e with e; omega)⟩
      rw [r3 i a ha]
      by_cases e : a.f = (k : Int)
      · rw [if_pos e, if_pos (by omega), partI, e, hyes, if_pos rfl]
        rfl
      · rw [if_neg e, q3 i a ha]
        by_cases e2 : a.f < (k : Int)
        · rw [if_pos e2, if_pos (by omega)]
        · rw [if_neg e2, if_neg (by omega)]
    case after =>
      rintro e w4 ⟨rfl, B, _, _, ⟨L, q1, q2, q3⟩, hg⟩
      have hL : L = goneI (M : Int) xs s most := by
        rw [goneI, HB.out, if_pos rfl, Int.toNat_natCast, ← HD.out]
        apply List.ext_getElem?
        intro i
        by_cases hi : i < n
        · obtain ⟨a, ha⟩ : ∃ a, xs[i]? = some a := ⟨_, List.getElem?_eq_getElem (by rw [HX.out]; exact hi)⟩
          have := arcsIn_net HN.out a (List.mem_of_getElem? ha)
          rw [q3 i a ha, if_pos (by rw [HDL.out]; omega), List.getElem?_map, ha]
          rfl
        · rw [List.getElem?_eq_none (by omega), List.getElem?_eq_none (by rw [List.length_map, HX.out]; omega)]
      have bg := cell_far hg BG.out (by simp only [ne_eq]; omega)
      have hpf : Past w w4 := Below.trans hpz (HBEL.out w4 hg)
      have hres := q2.res q1 (show w.heap.size ≤ w1.heap.size + 1 by omega) (by omega)
      rw [hL] at hres
      go_wp2
      go_ret
      exact ⟨_, rfl, hres, hpf⟩

end Go.Proofs.Ytgeoheeibebmcab
