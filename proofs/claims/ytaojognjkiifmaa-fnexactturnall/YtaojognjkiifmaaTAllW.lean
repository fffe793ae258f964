/-
  What it costs at least to each node where turns cost, as the program goes: impl.TurnAll. No condition.
-/
import Derived.Sort.LoopGhostIn
import Derived.Laws.EntriesVeiled
import Derived.Test.YtaojognjkiifmaaNAll
import Derived.Test.YtaojognjkiifmaaTAllI
import Derived.Test.YtaojognjkiifmaaPTurnW
import Derived.Test.YtaojognjkiifmaaNRepI
import Derived.Test.YtaojognjkiifmaaQPast
namespace Go.Proofs.Ytaojognjkiifmaa
open Go.RowKit Go.Shelf Go.Maps

attribute [local go_sem] Oper.semAt_some

/-- What comes of the arcs that the iterator has told so far. -/
def exArc (xs : List ArcD) (N k : Nat) : List ArcD := match xs[k]? with | some b => [⟨(N : Int), (k : Int), b.c, 0, 0⟩] | none => []
def exP (xs : List ArcD) (N : Nat) (p : List Int) : List ArcD := p.flatMap fun y => exArc xs N y.toNat
theorem exP_snoc (xs : List ArcD) (N : Nat) (p : List Int) (y : Int) : exP xs N (p ++ [y]) = exP xs N p ++ exArc xs N y.toNat := by simp [exP]
theorem exP_all {xs : List ArcD} {s : Int} {N : Nat} : ∀ n, n ≤ xs.length → exP xs N (outTo xs s n) = extraTo xs s N n
  | 0, _ => rfl
  | n + 1, hn => by
    have ih := exP_all (xs := xs) (s := s) (N := N) n (by omega)
    obtain ⟨b, hb⟩ : ∃ b, xs[n]? = some b := ⟨_, List.getElem?_eq_getElem (show n < xs.length by omega)⟩
    rw [extraTo, ← ih, hb]
    cases he : (b.f == s) with
    | true => rw [outTo_hit hb he, exP_snoc]; simp at he; simp [exArc, hb, he]
    | false => rw [outTo_miss hb he]; simp at he; simp [he]
theorem exP_len (xs : List ArcD) (N : Nat) : ∀ p : List Int, (exP xs N p).length ≤ p.length
  | [] => by simp [exP]
  | y :: p => by
    have h1 := exP_len xs N p
    have h2 : (exArc xs N y.toNat).length ≤ 1 := by unfold exArc; split <;> simp
    simp only [exP, List.flatMap_cons, List.length_append, List.length_cons] at *
    omega

theorem extraTo_len (xs : List ArcD) (s : Int) (N : Nat) : ∀ k, (extraTo xs s N k).length ≤ k
  | 0 => by simp [extraTo]
  | k + 1 => by
    have ih := extraTo_len xs s N k
    rw [extraTo, List.length_append]
    cases xs[k]? with
    | none => simp; omega
    | some b => simp only; split <;> simp <;> omega
theorem turnArcs_len (xs : List ArcD) (ts : List TurnD) (s : Int) (h : xs.length ≤ 16) : (turnArcs xs ts s).length ≤ 400 := by
  have h1 := lineL_len xs ts h
  have h2 := extraTo_len xs s xs.length xs.length
  rw [turnArcs, List.length_append]
  omega
theorem turnArcs_ne {m : Int} {xs : List ArcD} {ts : List TurnD} (s : Int) (hn : netB m xs = true) : ∀ a ∈ turnArcs xs ts s, a.f ≠ a.t := fun a ha => by
  rcases List.mem_append.1 ha with ha | ha
  · obtain ⟨i, j, ha⟩ := lineTo_mem _ ha
    obtain ⟨x, b, h1, h2, h3, _, rfl⟩ := lineArc_link ha
    intro e
    simp only at e
    obtain rfl : i = j := by omega
    rw [h1] at h2
    injection h2 with h2
    subst h2
    exact net_ne hn x (List.mem_of_getElem? h1) h3.symm
  · obtain ⟨j, b, h1, h2, _, rfl⟩ := extra_mem _ ha
    simp only
    omega

set_option maxRecDepth 1000000 in
set_option maxHeartbeats 4000000 in
theorem tall_in (m : Int) (A : Option Addr) (n c : Nat) (xs : List ArcD) (B : Option Addr) (l cb : Nat) (ts : List TurnD) (s : Int) (w : World) (hn : n ≤ 1048576) (hnx : xs.length = n) (hx : ArcsAt w A xs) (hl : l ≤ 1048576) (hlt : ts.length = l) (ht : TurnsAt w B ts) :
    CallsIn Fence.wide 4 Try.prog 20 #[.agg #[.int .i64 m, .slice A n c], .slice B l cb, .int .i64 s] w (Gives w (tallI m xs ts s)) := by
  have HX := Lib.hid hnx
  have HL := Lib.hid hlt
  clear hnx hlt
  have hb0 : Past w (w.alloc (.cells #[.int .i64 m, .slice A n c] 32)) := (Past.refl _).alloc _
  refine callsIn_of_wp_marks Try.func20 rfl trivial ?_ rfl
  simp only [Try.ntmps20, List.size_toArray, List.length_cons, List.length_nil, Nat.reduceAdd, Nat.reduceSub, Array.replicate_succ, Array.replicate_zero, List.push_toArray, List.append_toArray, List.nil_append, List.cons_append]
  gi_wp2_with fail
  refine ⟨trivial, ?_⟩
  refine (callsIn_wide.2 (implTurnsOk_any m A n c xs B l cb ts _ hn HX.out (hx.below hb0) hl HL.out (ht.below hb0))).mono ?_
  rintro e w1 ⟨rfl, hb1⟩
  have b0 := cell_in (p := ⟨w.heap.size, 0, none⟩) (v := .int .i64 m) hb1 (by go_simp)
  have b1 := cell_in (p := ⟨w.heap.size, 1, none⟩) (v := .slice A n c) hb1 (by go_simp)
  have hp1 : Past w w1 := hb0.trans hb1
  clear hb0 hb1
  cases hB : turnsB m xs ts with
  | false =>
    have HF : Hid (theretB m xs ts s = false) := by rw [Hid, theretB, hB]; rfl
    clear hB
    gi_wp2_with fail
    refine ⟨trivial, ?_⟩
    gi_wp2
    exact leaves_marks [] _ List.nodup_nil (by simp) (fun W' hc => ⟨.slice none 0 0, by simp [results, Try.results20, go_sem], ⟨_, rfl, by rw [tallI, HF.out]; exact Res.nil _ _, hp1.belowTrans (hc.below hp1.size (by simp))⟩⟩)
  | true =>
  have HT := Lib.hid hB
  have hz : IntsAt (w1.alloc (.cells #[.int .i64 s] 3)) (some ⟨w1.heap.size, 0, none⟩) [s] := fun k y hk => by
    cases k with
    | zero => simp at hk; subst hk; exact ⟨_, _, rfl, by go_simp⟩
    | succ k => simp at hk
  have b0A := fun (o : Obj) => cell_in ((Past.refl w1).alloc o) b0
  have b1A := fun (o : Obj) => cell_in ((Past.refl w1).alloc o) b1
  clear hB
  gi_wp2_with fail
  refine ⟨trivial, ?_⟩
  refine (callsIn_wide.2 (netHas_any m A n c xs _ 1 1 [s] _ hn HX.out ((hx.below hp1).below ((Past.refl w1).alloc _)) (by omega) rfl hz)).mono ?_
  rintro e w2 ⟨rfl, hb2⟩
  have hp12 : Past w1 w2 := ((Past.refl w1).alloc (.cells #[.int .i64 s] 3)).trans hb2
  have b0 := cell_in hp12 b0
  have b1 := cell_in hp12 b1
  have hp2 : Past w w2 := hp1.trans hp12
  clear b0A b1A hb2 hp12 hz
  have hH : (netB m xs && [s].all (fun z => inB z 0 (m - 1))) = inB s 0 (m - 1) := by rw [(turnsB_all HT.out).1]; simp
  rw [hH]
  clear hH
  cases hD : inB s 0 (m - 1) with
  | false =>
    have HF : Hid (theretB m xs ts s = false) := by rw [Hid, theretB, hD, Bool.and_false]
    clear hD
    gi_wp2
    exact leaves_marks [] _ List.nodup_nil (by simp) (fun W' hc => ⟨.slice none 0 0, by simp [results, Try.results20, go_sem], ⟨_, rfl, by rw [tallI, HF.out]; exact Res.nil _ _, hp2.belowTrans (hc.below hp2.size (by simp))⟩⟩)
  | true =>
  have HF : Hid (theretB m xs ts s = true) := by rw [Hid, theretB, HT.out, hD]; rfl
  have hs := (inB_iff _ _ _).1 hD
  have h16 : n ≤ 16 := by rw [← HX.out]; exact ((netB_iff _ _).1 (turnsB_all HT.out).1).2.1
  have hm8 := ((netB_iff _ _).1 (turnsB_all HT.out).1).1
  obtain ⟨M, rfl⟩ : ∃ M : Nat, m = M := ⟨m.toNat, by omega⟩
  clear hD
  gi_wp2_with fail
  refine ⟨trivial, ?_⟩
  refine (callsIn_wide.2 (line_any (M : Int) A n c xs B l cb ts _ h16 HX.out (hx.below hp2) hl HL.out (ht.below hp2) HT.out)).mono ?_
  rintro e w3 ⟨v, rfl, hv, hb3⟩
  have hp23 : Past w2 w3 := hb3
  have hs23 := hp23.size
  have hs02 := hp2.size
  have B0 := Lib.hid b0
  have B1 := Lib.hid b1
  have b0 := cell_in hb3 b0
  have b1 := cell_in hb3 b1
  have hp3 : Past w w3 := hp2.trans hb3
  have s1 : IntKind.i64.wrap ((n : Int) + 1) = (n : Int) + 1 := IntWalk.i64_in _ (by omega)
  obtain ⟨K, hK⟩ : ∃ K, K = (lineL xs ts).length := ⟨_, rfl⟩
  obtain ⟨A2, c2, rfl, hx2, _⟩ := hv.form
  rw [← hK]
  have HK := Lib.hid hK
  have HV := Lib.hid hv
  clear hK hv hb3 hx2
  have b0B := fun (o o' : Obj) => cell_in (((Past.refl w3).alloc o).alloc o') b0
  have b1B := fun (o o' : Obj) => cell_in (((Past.refl w3).alloc o).alloc o') b1
  gi_wp2_with fail
  refine ⟨trivial, ?_⟩
  refine (callsIn_wide.2 (arcsFrom_any (M : Int) s A n c _)).mono ?_
  rintro e w5 ⟨rfl, hw5⟩
  clear b0B b1B
  have hs5 : w5.heap.size = w3.heap.size + 4 := by rw [hw5]; simp
  have hp35 : Past w3 w5 := by rw [hw5]; exact ((((Past.refl _).alloc _).alloc _).alloc _).alloc _
  have hpA : Past (w3.alloc (.cells #[.int .i64 ((n : Int) + 1), .slice A2 K c2] 32)) w5 := by rw [hw5]; exact (((Past.refl _).alloc _).alloc _).alloc _
  have hp5 : Past w w5 := hp3.trans hp35
  have hown3 : w3.ownsRow w2.heap.size 52 5 (.slice A2 K c2) (lineL xs ts).length (cellsOf (lineL xs ts)) := by rw [HK.out]; exact HV.out
  have hT0 : TaIn w2 w5 w3.heap.size n w2.heap.size (.slice A2 K c2) (lineL xs ts) := by
    refine ⟨by rw [hw5]; go_simp, by rw [hw5]; go_simp, by rw [hw5]; go_simp, ?_, World.ownsRow.kept hown3 (grown_of_below hp35 none) (by cases hv : (Value.slice A2 K c2).ownBlock <;> simp), fun b e => .inl (hown3.lt b e).2, by omega, hp23.trans hp35⟩
    exact RowN.keep (w := w3.alloc (.cells #[.int .i64 ((n : Int) + 1), .slice A2 K c2] 32)) ⟨_, heap_alloc_new w3 _, rfl⟩ (hpA.block _ (by simp))
  have hC : ArcsC (w3.heap.size + 1 + 1) (w3.heap.size + 1 + 1 + 1) (M : Int) s A n c xs w5 := ⟨by rw [hw5]; go_simp, by rw [hw5]; go_simp, by rw [hw5]; go_simp, hx.below hp5⟩
  have b0 := cell_in hp35 b0
  have b1 := cell_in hp35 b1
  simp only [World.size_alloc]
  clear hw5 hpA hp35 hown3
  gi_wp2_with fail
  refine wpIn_rangeFunc_ownG rfl (by omega) (gf := 100) (lb := #[.pointer (some ⟨w3.heap.size + 1 + 1, 0, none⟩), .pointer (some ⟨w3.heap.size + 1 + 1 + 1, 0, none⟩)]) rfl trivial (enters_of Try.func100 (by kernel_rfl) rfl)
    (arcsK_stops Fence.wide 3 trivial rfl (by omega) (w3.heap.size + 1 + 1) (w3.heap.size + 1 + 1 + 1) w2.heap.size (M : Int) s A n c xs HX.out (by omega) w2 (hx.below hp2) (Nat.le_refl _) w5 hC)
    (fun h k => h.trans k) (fun W l o o' hl ho hc hw => ⟨belowK_b (w := w5) (by omega) W l o o' hl ho hc hw, World.putObj_heap_other (by omega), World.putObj_heap_other (by omega)⟩) (Below.refl _ _) (fun _ => rfl)
    (fun pre W => ∃ v, TaIn w2 W w3.heap.size n w2.heap.size v (lineL xs ts ++ exP xs n (nums pre)))
    (fun _ _ _ => False)
    (fun pre A B row hs hg hr => by
      obtain ⟨v, h⟩ := hs
      exact ⟨v, h.turn hs23 hg (fun r e => by have := hr r e; rw [hs5] at this; exact this)⟩)
    (fun _ _ _ _ _ hs _ _ => hs)
    ⟨_, by simpa [nums, exP] using hT0⟩
    (fun x => { tmps := (.agg #[.int .i64 (M : Int), .slice A n c] :: .slice B l cb :: .int .i64 s :: .pointer (some ⟨w.heap.size, 0, none⟩) :: undef :: undef :: .slice none 0 0 :: .pointer (some ⟨w3.heap.size, 0, none⟩) :: .pointer (some ⟨w3.heap.size + 1, 0, none⟩) :: .int .i64 x.1 :: undef :: undef :: undef :: undef :: .agg #[.int .i64 (M : Int), .slice A n c] :: .slice B l cb :: .bool true :: .bool false :: .bool false :: .agg #[.int .i64 (M : Int), .slice A n c] :: .int .i64 s :: .slice (some ⟨w1.heap.size, 0, none⟩) 1 1 :: .bool true :: .bool false :: .bool false :: .agg #[.int .i64 (M : Int), .slice A n c] :: .slice B l cb :: .agg #[.int .i64 (n : Int), .slice A2 K c2] :: .pointer (some ⟨w3.heap.size, 0, none⟩) :: .int .i64 (n : Int) :: .pointer (some ⟨w3.heap.size, 0, none⟩) :: .int .i64 (n : Int) :: .int .i64 ((n : Int) + 1) :: .pointer (some ⟨w3.heap.size, 0, none⟩) :: .agg #[.int .i64 (M : Int), .slice A n c] :: .int .i64 s :: .func (.func 100) #[] #[.pointer (some ⟨w3.heap.size + 1 + 1, 0, none⟩), .pointer (some ⟨w3.heap.size + 1 + 1 + 1, 0, none⟩)] :: .int .i64 x.1 :: undef :: undef :: undef :: undef :: undef :: undef :: undef :: undef :: undef :: undef :: undef :: undef :: undef :: undef :: undef :: undef :: undef :: undef :: undef :: undef :: undef :: undef :: undef :: undef :: undef :: undef :: undef :: undef :: undef :: undef :: undef :: undef :: undef :: undef :: undef :: undef :: undef :: undef :: undef :: undef :: undef :: undef :: undef :: undef :: undef :: undef :: undef :: undef :: undef :: undef :: []).toArray, defers := [] }) ?assign ?body ?done ?stop
  case assign =>
    intro l x W K hK
    gi_wp2
    exact hK
  case body =>
    rintro ld pre ⟨x, j, ⟨f', t', c', l', d'⟩, rfl, hb', hf⟩ W ⟨v, hI⟩ hlt'
    have hjk : j < n := by rw [← HX.out]; exact (List.getElem?_eq_some_iff.1 hb').1
    obtain ⟨g, o, rfl, d0, d1, d2, d3, d4⟩ := ((hx.below hp2).below hI.past) j _ hb'
    have hgl : g < w.heap.size := by
      obtain ⟨g3, o3, e3, h3, _⟩ := hx j _ hb'
      injection e3 with e3
      injection e3 with e4 e5
      subst e4
      exact lt_of_cell h3
    have hln := lineL_len xs ts (by rw [HX.out]; exact h16)
    have hbw := cell_in hI.past B1.out
    have o1 := hI.o1
    have hnm := hI.num
    have HN : Hid (lineL xs ts ++ exP xs n (nums pre ++ [(j : Int)]) = (lineL xs ts ++ exP xs n (nums pre)) ++ [⟨(n : Int), (j : Int), c', 0, 0⟩]) := by
      rw [Hid, exP_snoc, Int.toNat_natCast, exArc, hb', ← List.append_assoc]
    have hlen : (lineL xs ts ++ exP xs n (nums pre)).length ≤ 1000 := by
      have h2 := exP_len xs n (nums pre)
      rw [nums_length] at h2
      rw [List.length_append]
      omega
    obtain ⟨v1, w9, hr, ⟨A3, k3, c3, hV1⟩, far, ⟨u9, x9⟩, z9, hI9, hkf, hblk, hbel⟩ := hI.fill ⟨(n : Int), (j : Int), c', 0, 0⟩ (Nat.le_refl _) hs23 hlen
    have hlw : w.heap.size < w2.heap.size := lt_of_cell B1.out
    clear d0 d1 d3 d4
    gi_wp2_with fail
    refine wpIn_region_chain (by kernel_rfl) [11, 12, 14] { tmps := (.agg #[.int .i64 (M : Int), .slice (some ⟨g, o, none⟩) n c] :: .slice B l cb :: .int .i64 s :: .pointer (some ⟨w.heap.size, 0, none⟩) :: undef :: undef :: .slice none 0 0 :: .pointer (some ⟨w3.heap.size, 0, none⟩) :: .pointer (some ⟨w3.heap.size + 1, 0, none⟩) :: .int .i64 (j : Int) :: undef :: undef :: undef :: undef :: .agg #[.int .i64 (M : Int), .slice (some ⟨g, o, none⟩) n c] :: .slice B l cb :: .bool true :: .bool false :: .bool false :: .agg #[.int .i64 (M : Int), .slice (some ⟨g, o, none⟩) n c] :: .int .i64 s :: .slice (some ⟨w1.heap.size, 0, none⟩) 1 1 :: .bool true :: .bool false :: .bool false :: .agg #[.int .i64 (M : Int), .slice (some ⟨g, o, none⟩) n c] :: .slice B l cb :: .agg #[.int .i64 (n : Int), .slice A2 K c2] :: .pointer (some ⟨w3.heap.size, 0, none⟩) :: .int .i64 (n : Int) :: .pointer (some ⟨w3.heap.size, 0, none⟩) :: .int .i64 (n : Int) :: .int .i64 ((n : Int) + 1) :: .pointer (some ⟨w3.heap.size, 0, none⟩) :: .agg #[.int .i64 (M : Int), .slice (some ⟨g, o, none⟩) n c] :: .int .i64 s :: .func (.func 100) #[] #[.pointer (some ⟨w3.heap.size + 1 + 1, 0, none⟩), .pointer (some ⟨w3.heap.size + 1 + 1 + 1, 0, none⟩)] :: .int .i64 (j : Int) :: .pointer (some ⟨w3.heap.size, 1, none⟩) :: v :: .int .i64 (n : Int) :: .int .i64 (j : Int) :: .pointer (some ⟨w.heap.size, 1, none⟩) :: .slice (some ⟨g, o, none⟩) n c :: .int .i64 (j : Int) :: .pointer (some ⟨g, o + j * 5, none⟩) :: .pointer (some ⟨g, o + j * 5 + 2, none⟩) :: .int .i64 c' :: .agg #[.int .i64 (n : Int), .int .i64 (j : Int), .int .i64 c', .int .i64 0, .int .i64 0] :: .slice (some ⟨W.heap.size, 0, none⟩) 1 1 :: v1 :: .pointer (some ⟨w3.heap.size, 1, none⟩) :: undef :: undef :: undef :: undef :: undef :: undef :: undef :: undef :: undef :: undef :: undef :: undef :: undef :: undef :: undef :: undef :: undef :: undef :: undef :: undef :: undef :: undef :: undef :: undef :: undef :: undef :: undef :: undef :: undef :: undef :: undef :: undef :: undef :: undef :: undef :: undef :: []).toArray, defers := [] } (fun s => ([W.drew, W.drew.alloc (.cells #[.int .i64 (n : Int), .int .i64 (j : Int), .int .i64 c', .int .i64 0, .int .i64 0] 52), w9, w9.setCell ⟨w3.heap.size, 1, none⟩ v1] : List World).getD s W) rfl (by kernel_rfl) (by decide) rfl rfl ?base ?eachop ?fin
    case base =>
      intro t ht
      iterate 38 (rcases t with _ | t; · rfl)
      rcases t with _ | t; · exact absurd rfl (ht 0 _ rfl)
      rcases t with _ | t; · exact absurd rfl (ht 1 _ rfl)
      rcases t with _ | t; · exact absurd rfl (ht 2 _ rfl)
      rcases t with _ | t; · exact absurd rfl (ht 3 _ rfl)
      rcases t with _ | t; · exact absurd rfl (ht 4 _ rfl)
      rcases t with _ | t; · exact absurd rfl (ht 5 _ rfl)
      rcases t with _ | t; · exact absurd rfl (ht 6 _ rfl)
      rcases t with _ | t; · exact absurd rfl (ht 7 _ rfl)
      rcases t with _ | t; · exact absurd rfl (ht 8 _ rfl)
      rcases t with _ | t; · exact absurd rfl (ht 9 _ rfl)
      rcases t with _ | t; · exact absurd rfl (ht 10 _ rfl)
      rcases t with _ | t; · exact absurd rfl (ht 11 _ rfl)
      rcases t with _ | t; · exact absurd rfl (ht 12 _ rfl)
      rcases t with _ | t; · exact absurd rfl (ht 13 _ rfl)
      rfl
    case eachop =>
      have g0 : ∀ s, s < 3 → (([W.drew, W.drew.alloc (.cells #[.int .i64 (n : Int), .int .i64 (j : Int), .int .i64 c', .int .i64 0, .int .i64 0] 52), w9, w9.setCell ⟨w3.heap.size, 1, none⟩ v1] : List World).getD s W).cell? ⟨w3.heap.size, 1, none⟩ = some v ∧ (([W.drew, W.drew.alloc (.cells #[.int .i64 (n : Int), .int .i64 (j : Int), .int .i64 c', .int .i64 0, .int .i64 0] 52), w9, w9.setCell ⟨w3.heap.size, 1, none⟩ v1] : List World).getD s W).cell? ⟨w3.heap.size + 1, 0, none⟩ = some (.int .i64 (n : Int)) ∧ (([W.drew, W.drew.alloc (.cells #[.int .i64 (n : Int), .int .i64 (j : Int), .int .i64 c', .int .i64 0, .int .i64 0] 52), w9, w9.setCell ⟨w3.heap.size, 1, none⟩ v1] : List World).getD s W).cell? ⟨w.heap.size, 1, none⟩ = some (.slice (some ⟨g, o, none⟩) n c) ∧ (([W.drew, W.drew.alloc (.cells #[.int .i64 (n : Int), .int .i64 (j : Int), .int .i64 c', .int .i64 0, .int .i64 0] 52), w9, w9.setCell ⟨w3.heap.size, 1, none⟩ v1] : List World).getD s W).cell? ⟨g, o + j * 5 + 2, none⟩ = some (.int .i64 c') := by
        intro s hs
        rcases s with _ | _ | _ | s
        · exact ⟨o1, hnm, hbw, d2⟩
        · exact ⟨cell_in (((Past.refl W).drew).alloc _) o1, cell_in (((Past.refl W).drew).alloc _) hnm, cell_in (((Past.refl W).drew).alloc _) hbw, cell_in (((Past.refl W).drew).alloc _) d2⟩
        · exact ⟨far _ _ (.inr (by simp)) o1, far _ _ (.inr (by simp)) hnm, far _ _ (.inl hlw) hbw, far _ _ (.inl (Nat.lt_of_lt_of_le hgl hs02)) d2⟩
        · omega
      generalize hWS : ([W.drew, W.drew.alloc (.cells #[.int .i64 (n : Int), .int .i64 (j : Int), .int .i64 c', .int .i64 0, .int .i64 0] 52), w9, w9.setCell ⟨w3.heap.size, 1, none⟩ v1] : List World) = wl at g0 ⊢
      have q0 : ∀ s, s < 3 → (wl.getD s W).cell? ⟨w3.heap.size, 1, none⟩ = some v := fun s h => (g0 s h).1
      have q1 : ∀ s, s < 3 → (wl.getD s W).cell? ⟨w3.heap.size + 1, 0, none⟩ = some (.int .i64 (n : Int)) := fun s h => (g0 s h).2.1
      have q2 : ∀ s, s < 3 → (wl.getD s W).cell? ⟨w.heap.size, 1, none⟩ = some (.slice (some ⟨g, o, none⟩) n c) := fun s h => (g0 s h).2.2.1
      have q3 : ∀ s, s < 3 → (wl.getD s W).cell? ⟨g, o + j * 5 + 2, none⟩ = some (.int .i64 c') := fun s h => (g0 s h).2.2.2
      have j0 : (0 : Int) ≤ (j : Int) := by omega
      have j1 : (j : Int) < (n : Int) := by omega
      refine ⟨?p0, ?p1, ?p2, ?p3, ?p4, ?p5, ?p6, ?p7, ?p8, ?p9, ?p10, ?p11, ?p12, ?p13, ?p14, trivial⟩
      case p11 => refine opAt_writer 0 (by decide) rfl (.inl ?_); subst hWS; go_simp
      case p12 =>
        refine opAt_writer 1 (by decide) rfl (.inl ?_)
        subst hWS
        unfold execOp
        simp only [resolve, invoke, builtin, Sem.run_bind, Sem.run_pure, Result.andThen_ok, List.map_toArray, List.map_cons, List.map_nil]
        refine Eq.trans (congrArg (fun r => Result.andThen r _) hr) ?_
        rfl
      case p14 => refine opAt_writer 2 (by decide) rfl (.inr ⟨rfl, ?_⟩); subst hWS hV1; go_simp
      all_goals refine opAt_quiet (by decide) fun s hs => .inl ?_
      all_goals have hs : s < 3 := hs
      all_goals have q0 := q0 s hs
      all_goals have q1 := q1 s hs
      all_goals have q2 := q2 s hs
      all_goals have q3 := q3 s hs
      all_goals clear hWS g0 far x9 z9 hI9 hkf hblk hbel hr
      all_goals generalize wl.getD s W = ww at *
      all_goals go_simp
    case fin =>
      exact ⟨by rw [hs5]; exact hkf, ⟨hbel, hblk _ (.inr (by omega)), hblk _ (.inr (by omega))⟩, _, by rw [nums_snoc, HN.out]; exact hI9⟩
  case done =>
    rintro Dd ys W hD hys ⟨v', hI⟩ hDd
    have hL : lineL xs ts ++ exP xs n (nums ys) = turnArcs xs ts s := by
      rw [turnArcs, hys, ← exP_all (s := s) (N := xs.length) xs.length (Nat.le_refl _), HX.out]
    rw [hL] at hI
    clear hL
    have hM18 : 1 ≤ M ∧ M ≤ 8 := by omega
    have hN := (turnsB_all HT.out).1
    have hTB := (turnsB_all HT.out).2.2.1
    have htl := turnArcs_len xs ts s (by rw [HX.out]; exact h16)
    have hlen : (turnArcs xs ts s).length ≤ 400 := by omega
    obtain ⟨A3, c3, rfl, hx9, _⟩ := (show ResA W w2.heap.size v' (turnArcs xs ts s) from hI.own).form
    obtain ⟨K3, hK3⟩ : ∃ K3, K3 = (turnArcs xs ts s).length := ⟨_, rfl⟩
    have o0 := hI.o0
    have o1 := hI.o1
    have hnm := hI.num
    rw [← hK3] at o1 hlen
    have b0 := cell_in hI.past B0.out
    have b1 := cell_in hI.past B1.out
    have hpA : Past W (W.alloc (.cells #[.int .i64 99999] 3)) := (Past.refl W).alloc _
    have hbs := hI.base
    have hDl : Dd < W.heap.size := (Array.getElem?_eq_some_iff.1 hDd).1
    have hpW := hI.past
    have b0A := fun (o : Obj) => cell_in ((Past.refl W).alloc o) b0
    have b1A := fun (o : Obj) => cell_in ((Past.refl W).alloc o) b1
    clear hI hC hT0
    gi_wp2_with fail
    refine ⟨trivial, ?_⟩
    refine (callsIn_wide.2 (repeatI_any W.heap.size M 99999 _ (by omega) (by go_simp))).mono ?_
    rintro e w6 ⟨rfl, hrow6, hb6⟩
    clear b0A b1A
    have hp6 : Past W w6 := hpA.trans hb6
    have hs6 := hb6.size
    simp only [World.size_alloc] at hrow6 hs6 ⊢
    have hrow6 := RowI.of_rep hrow6
    have o0 := cell_in hp6 o0
    have o1 := cell_in hp6 o1
    have hnm := cell_in hp6 hnm
    have b0 := cell_in hp6 b0
    have b1 := cell_in hp6 b1
    have hx9 := hx9.below hp6
    have hK := Lib.hid hK3.symm
    have e1 : ((n + 1 : Nat) : Int) = (n : Int) + 1 := by omega
    have i0n : (0 : Int) ≤ (n : Int) := by omega
    have i1n : (n : Int) ≤ (n : Int) + 1 := by omega
    have hin : ArcsIn ((n + 1 : Nat) : Int) (turnArcs xs ts s) := by have := turnArcs_in (ts := ts) s hN hTB; rwa [HX.out] at this
    have cL := Lib.hid (fun (q : PastOf w6) => lengths_any (n + 1) n A3 K3 c3 (turnArcs xs ts s) q.W hlen hK.out (hx9.below q.h) hin (turnArcs_ne s hN) (by omega) (by omega) (by omega))
    rw [e1] at cL
    clear hpA hb6 hK3
    gi_wp2_with fail
    simp only [wpIn_wide] at *
    go_region_held3 (fun w' => w'.cell? ⟨w3.heap.size, 0, none⟩ = some (.int .i64 ((n : Int) + 1)) ∧ w'.cell? ⟨w3.heap.size, 1, none⟩ = some (.slice A3 K3 c3) ∧ w'.cell? ⟨w3.heap.size + 1, 0, none⟩ = some (.int .i64 (n : Int))) (go_keep)
      (first
        | (go_at_call 66; (with_reducible refine (cL.out ⟨w6.drew, (Past.refl w6).drew⟩).mono ?_); rintro e w7 ⟨g, L, rfl, hrow, hLl, hlabs, hopen, hb7⟩; have o0 := cell_in hb7 o0; have o1 := cell_in hb7 o1; have hnm := cell_in hb7 hnm))
    have hp67 : Past w6 w7 := (Past.refl w6).drew.trans hb7
    have hg6 : w6.heap.size ≤ g := ((show w7.ownsRow w6.drew.heap.size 88 2 (.slice (some ⟨g, 0, none⟩) (n + 1) (n + 1)) L.length (cellsLen L) from hrow).lt g rfl).1
    have hnear := hlabs.near hin (by omega) (by omega) hopen
    obtain ⟨ds, hds⟩ : ∃ ds, ds = (L.map LenD.x0).take n := ⟨_, rfl⟩
    have hfin : (minTo xs ds (List.replicate M 99999) n).set s.toNat 0 = tallL M xs ts s := by
      have h := tall_of_near (s := s) HT.out rfl (by omega)
      rw [HX.out, ← hnear, ← hds] at h
      exact h
    have hdl : ds.length = n := by rw [hds, List.length_take, List.length_map, hLl]; omega
    have HG := Lib.hid (fun j a (hj : L[j]? = some a) => hrow.get hLl hj)
    have HDS := Lib.hid hds
    have HFIN := Lib.hid hfin
    have hrow7 := hrow6.below hp67
    have hx7 := ((hx.below hp2).below hpW).below (hp6.trans hp67)
    have hpw7 : Past w w7 := (hp2.trans hpW).trans (hp6.trans hp67)
    have hdd7 : w7.heap[Dd]? = some (.deferred (some [])) := ((hp6.trans hp67).block Dd hDl).trans hDd
    have b1 := cell_in hp67 b1
    have hww : w.heap.size ≤ W.heap.size := (hp2.trans hpW).size
    have hin2 := arcsIn_net hN
    have hs7 := hp67.size
    have hs6' : W.heap.size + 1 < w6.heap.size := hrow6.1.lt
    clear hlabs hopen hds hfin hnear hrow cL hin o0 o1 hnm hx9 hb7
    go_wp2
    go_loopw [62] (fun i wr => ∃ j : Nat, j ≤ n ∧ i = .int .i64 j ∧ RowI wr (W.heap.size + 1) (minTo xs ds (List.replicate M 99999) j) ∧ w7.grownBy wr (some (W.heap.size + 1))) (fun i _ => n - (intOf i).toNat)
    case atStart => exact ⟨0, by omega, rfl, hrow7, grown_refl _ _⟩
    case round =>
      obtain ⟨j, hj, rfl, hrw, hg⟩ := hrel
      have b1 := cell_far hg b1 (by show w.heap.size ≠ W.heap.size + 1; omega)
      by_cases hlt : j < n
      · obtain ⟨⟨f, t, c', l', d'⟩, ha⟩ : ∃ a, xs[j]? = some a := ⟨_, List.getElem?_eq_getElem (by have := HX.out; omega)⟩
        obtain ⟨⟨x0, x1⟩, hL⟩ : ∃ a, L[j]? = some a := ⟨_, List.getElem?_eq_getElem (by omega)⟩
        obtain ⟨ga, oa, rfl, a0, a1, a2, a3, a4⟩ := hx7 j _ ha
        have hgl : ga < w.heap.size := by
          obtain ⟨g3, o3, e3, h3, _⟩ := hx j _ ha
          injection e3 with e3
          injection e3 with e4 e5
          subst e4
          exact lt_of_cell h3
        have a1 := cell_far hg a1 (by show ga ≠ W.heap.size + 1; omega)
        obtain ⟨c0, c1⟩ := HG.out j _ hL
        have c0 := cell_far hg c0 (by show g ≠ W.heap.size + 1; omega)
        have c1 := cell_far hg c1 (by show g ≠ W.heap.size + 1; omega)
        have hb := hin2 _ (List.mem_of_getElem? ha)
        simp only at hb a1 c0 c1
        have hml : (minTo xs ds (List.replicate M 99999) j).length = M := by rw [minTo_length, List.length_replicate]
        have hat : at_ ds (j : Int) = x0 := by rw [HDS.out]; unfold at_; simp [hL, hlt]
        have hnx := minTo_next (d := ds) (o := List.replicate M 99999) ha
        rw [hat] at hnx
        simp only at hnx
        obtain ⟨D, hD⟩ : ∃ D, D = minTo xs ds (List.replicate M 99999) j := ⟨_, rfl⟩
        rw [← hD] at hrw hml hnx
        have dt := hrw.at_ (v := t) (by omega) (by omega)
        obtain ⟨q, hq⟩ : ∃ q, q = at_ D t := ⟨_, rfl⟩
        rw [← hq] at dt hnx
        have htl : t.toNat < D.length := by omega
        have z1 := hrw.1.frozen t.toNat
        have HNX := Lib.hid hnx
        have i0 : (0 : Int) ≤ (j : Int) := by omega
        have i1 : (j : Int) < (n : Int) := by omega
        have t0 : (0 : Int) ≤ t := by omega
        have t1 : t < (M : Int) := by omega
        have b1A := fun (o : Obj) => cell_in ((Past.refl wr).alloc o) b1
        have a1A := fun (o : Obj) => cell_in ((Past.refl wr).alloc o) a1
        obtain ⟨W2, hW2⟩ : ∃ W2, W2 = wr.alloc (.cells #[.int .i64 x0, .int .i64 x1] 88) := ⟨_, rfl⟩
        have hrow2 : RowI W2.drew (W.heap.size + 1) D := by rw [hW2]; exact hrw.alloc _
        have dt2 : W2.cell? ⟨W.heap.size + 1, t.toNat, none⟩ = some (.int .i64 q) := by rw [hW2]; exact cell_in ((Past.refl wr).alloc _) dt
        have x2 : W2.cell? ⟨wr.heap.size, 0, none⟩ = some (.int .i64 x0) := by rw [hW2]; go_simp
        have z2 : W2.frozen? ⟨W.heap.size + 1, t.toNat, none⟩ = false := hrow2.1.frozen t.toNat
        have hset2 := hrow2.set t.toNat (min q x0) htl
        have hg2 : w7.grownBy (W2.drew.setCell ⟨W.heap.size + 1, t.toNat, none⟩ (.int .i64 (min q x0))) (some (W.heap.size + 1)) := by rw [hW2]; exact grown_set (grown_trans hg (grown_of_below (((Past.refl wr).alloc _).drew) _)) _ _
        have HSET := Lib.hid hset2
        have HG2 := Lib.hid hg2
        have HW2 := Lib.hid hW2
        clear ha hL hnx hat hD hq a0 a2 a3 a4 hb hset2 hg2 hrow2 hW2 dt z1
        go_wp2_with fail
        rw [← HW2.out]
        clear b1A a1A
        go_still_tail 10, (by kernel_rfl)
        change wpList _ _ _ _ _ W2.drew
        go_wp2
        go_roundw
        case rel => exact ⟨j + 1, by omega, by go_num, by rw [HNX.out]; exact HSET.out, HG2.out⟩
        case measure => simp [intOf]; omega
      · obtain rfl : j = n := by omega
        have hml : (minTo xs ds (List.replicate M 99999) j).length = M := by rw [minTo_length, List.length_replicate]
        have dt := hrw.at_ (v := s) (by omega) (by omega)
        have z1 := hrw.1.frozen s.toNat
        have t0 : (0 : Int) ≤ s := by omega
        have t1 : s < (M : Int) := by omega
        have hset := hrw.set s.toNat 0 (by omega)
        rw [HFIN.out] at hset
        have HSET := Lib.hid hset
        have hfin2 : Past w (wr.setCell ⟨W.heap.size + 1, s.toNat, none⟩ (.int .i64 0)) := Below.grown hpw7 (grown_set hg _ _) hpw7.size (fun r e => by injection e with e; omega)
        have hdd : (wr.setCell ⟨W.heap.size + 1, s.toNat, none⟩ (.int .i64 0)).heap[Dd]? = some (.deferred (some [])) := ((grown_set hg s.toNat (.int .i64 0)).block Dd (Array.getElem?_eq_some_iff.1 hdd7).1 (by intro e; injection e; omega)).trans hdd7
        clear hset
        go_wp2
        refine leaves_marks [Dd] _ (by simp) (fun r hr => by simp at hr; subst hr; exact hdd) (fun W' hc => ⟨.slice (some ⟨W.heap.size + 1, 0, none⟩) M M, by simp [results, Try.results20, go_sem], ⟨_, rfl, ?_, hfin2.belowTrans (hc.below hfin2.size (fun x hx hr => by simp at hr; omega))⟩⟩)
        have h1 := HSET.out.res (n := M) (lo := w.heap.size) (tallL_length M xs ts s) (by omega) (by omega)
        rw [tallI, HF.out, if_pos rfl, Int.toNat_natCast]
        exact hc.own h1 (fun x e hx => by
          simp at hx
          subst hx
          obtain ⟨cs, hcs⟩ := cells_of_own h1 e
          rw [hcs] at hdd
          cases hdd)
  case stop =>
    rintro D c pre W _ _ h _
    exact h.elim

theorem implTurnAll_any (m : Int) (A : Option Addr) (n c : Nat) (xs : List ArcD) (B : Option Addr) (l cb : Nat) (ts : List TurnD) (s : Int) (w : World) (hn : n ≤ 1048576) (hnx : xs.length = n) (hx : ArcsAt w A xs) (hl : l ≤ 1048576) (hlt : ts.length = l) (ht : TurnsAt w B ts) :
    Calls Try.prog 20 #[.agg #[.int .i64 m, .slice A n c], .slice B l cb, .int .i64 s] w (Gives w (tallI m xs ts s)) :=
  (callsIn_wide (n := 4)).1 (tall_in m A n c xs B l cb ts s w hn hnx hx hl hlt ht)

end Go.Proofs.Ytaojognjkiifmaa
