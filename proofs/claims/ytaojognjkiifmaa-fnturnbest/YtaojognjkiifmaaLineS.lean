/-
  A net whose nodes are arcs: spec.TurnNet. No condition.
-/
import Derived.Deep.RegionLaw
import Derived.Test.YtaojognjkiifmaaTWalkS
import Derived.Test.YtaojognjkiifmaaTApp
import Derived.Test.YtaojognjkiifmaaPLine
namespace Go.Proofs.Ytaojognjkiifmaa
open Go.RowKit

/-- The net that is being made, in the block X. -/
structure LSt (X : Nat) (w3 wr : World) (n : Nat) (v : Value) (L : List ArcD) : Prop where
  o0 : wr.cell? ⟨X, 0, none⟩ = some (.int .i64 (n : Int))
  o1 : wr.cell? ⟨X, 1, none⟩ = some v
  row : RowN wr X 32 2
  own : wr.ownsRow (X + 1) 52 5 v L.length (cellsOf L)
  past : Past w3 wr
theorem LSt.later {X n : Nat} {w3 wr w' : World} {v : Value} {L : List ArcD} (h : LSt X w3 wr n v L) (hb : Past wr w') : LSt X w3 w' n v L :=
  ⟨cell_in hb h.o0, cell_in hb h.o1, h.row.keep (hb.block _ h.row.lt), World.ownsRow.kept h.own (grown_of_below hb none) (by cases hv : v.ownBlock <;> simp), h.past.trans hb⟩
theorem LSt.put {X n k : Nat} {w3 wr wa w9 : World} {v v' : Value} {L : List ArcD} {a : ArcD} {cs : List Value} (h : LSt X w3 wr n v L) (hX : w3.heap.size ≤ X) (hp : Past wr wa) (hg : wa.grownBy w9 v.ownBlock)
    (ho : w9.ownsRow (X + 1) 52 5 v' k cs) (hk : k = L.length + 1) (hc : cs = cellsOf L ++ [.int .i64 a.f, .int .i64 a.t, .int .i64 a.c, .int .i64 a.l, .int .i64 a.d]) :
    (∃ u, w9.cell? ⟨X, 1, none⟩ = some u) ∧ w9.frozen? ⟨X, 1, none⟩ = false ∧ LSt X w3 (w9.setCell ⟨X, 1, none⟩ v') n v' (L ++ [a]) := by
  have h1 := h.later hp
  have hne : some X ≠ v.ownBlock := own_ne h1.own (by omega)
  have r9 : RowN w9 X 32 2 := h1.row.keep (hg.block _ h1.row.lt hne)
  have o0 : w9.cell? ⟨X, 0, none⟩ = some (.int .i64 (n : Int)) := (World.cell?_of_block (w := wa) (a := ⟨X, 0, none⟩) (hg.block _ h1.row.lt hne)).trans h1.o0
  have o1 : w9.cell? ⟨X, 1, none⟩ = some v := (World.cell?_of_block (w := wa) (a := ⟨X, 1, none⟩) (hg.block _ h1.row.lt hne)).trans h1.o1
  have hne' : v'.ownBlock ≠ some X := fun e => own_ne ho (g := X) (by omega) e.symm
  have hp9 : Past w3 w9 := Below.grown h1.past hg h1.past.size (fun b e => by have := (h1.own.lt b e).1; omega)
  refine ⟨⟨_, o1⟩, r9.frozen 1, ⟨(World.cell?_setCell_other _ _ _ _ (by simp)).trans o0, World.cell?_setCell_same _ _ _ o1, r9.set _ _, ?_, Below.setCell hp9 hX _⟩⟩
  rw [List.length_append, cellsOf_append]
  subst hk hc
  exact own_far ho hne' _

theorem five_news (w : World) (x0 x1 x2 x3 x4 : Value) (t : Nat) : ∀ j u, ([x0, x1, x2, x3, x4] : List Value)[j]? = some u → (w.alloc (.cells #[x0, x1, x2, x3, x4] t)).cell? ((⟨w.heap.size, 0, none⟩ : Addr).add j) = some u := five_new w x0 x1 x2 x3 x4 t

set_option maxRecDepth 100000 in
set_option maxHeartbeats 8000000 in
theorem specTurnNet_any (m : Int) (A : Option Addr) (n c : Nat) (xs : List ArcD) (B : Option Addr) (l cb : Nat) (ts : List TurnD) (w : World) (hn : n ≤ 1048576) (hnx : xs.length = n) (hx : ArcsAt w A xs) (hl : l ≤ 1048576) (hlt : ts.length = l) (ht : TurnsAt w B ts) :
    Calls Try.prog 36 #[.agg #[.int .i64 m, .slice A n c], .slice B l cb] w (GivesNB w (tnetN m xs ts) (tnetL m xs ts) (tnetB m xs ts)) := by
  have HX := Lib.hid hnx
  have HL := Lib.hid hlt
  clear hnx hlt
  obtain ⟨i0, hi, hz0, hz1, hz2⟩ := info_parts infoArc
  have hb0 : Past w ((w.alloc (.cells #[.int .i64 m, .slice A n c] 32)).alloc (.cells #[.int .i64 0, .slice none 0 0] 32)) := ((Past.refl _).alloc _).alloc _
  go_enter Try.func36, Try.ntmps36
  go_wp2_with fail
  refine (l1Ok_any m A n c xs _ hn HX.out (hx.below hb0)).mono ?_
  rintro e w1 ⟨rfl, hb1⟩
  have b0 := cell_in (p := ⟨w.heap.size, 0, none⟩) (v := .int .i64 m) hb1 (by go_simp)
  have b1 := cell_in (p := ⟨w.heap.size, 1, none⟩) (v := .slice A n c) hb1 (by go_simp)
  have e0 := cell_in (p := ⟨w.heap.size + 1, 0, none⟩) (v := .int .i64 0) hb1 (by go_simp)
  have e1 := cell_in (p := ⟨w.heap.size + 1, 1, none⟩) (v := .slice none 0 0) hb1 (by go_simp)
  have z0 := free_in (p := ⟨w.heap.size + 1, 0, none⟩) (v := .int .i64 0) hb1 (by go_simp) (by go_simp)
  have z1 := free_in (p := ⟨w.heap.size + 1, 1, none⟩) (v := .slice none 0 0) hb1 (by go_simp) (by go_simp)
  have hrc : RowN w1 (w.heap.size + 1) 32 2 := by
    refine RowN.keep (w := ((w.alloc (.cells #[.int .i64 m, .slice A n c] 32)).alloc (.cells #[.int .i64 0, .slice none 0 0] 32))) ⟨#[.int .i64 0, .slice none 0 0], ?_, rfl⟩ (hb1.block _ (by simp))
    have := heap_alloc_new (w.alloc (.cells #[.int .i64 m, .slice A n c] 32)) (.cells #[.int .i64 0, .slice none 0 0] 32)
    simpa using this
  have hp1 := hb0.trans hb1
  clear hb0 hb1
  cases hB : netB m xs with
  | false =>
    have HF : Hid (tnetB m xs ts = false) := tnet_turns (by rw [turnsB_list, hB]; rfl)
    clear hB
    go_wp2
    exact bodyPost_ret (v := .tuple #[.agg #[.int .i64 0, .slice none 0 0], .bool false]) (by simp [results, Try.results36, go_sem, e0, e1]) rfl (givesNB_no HF.out rfl (Below.setCell (Below.setCell hp1 (by simp) _) (by simp) _))
  | true =>
  have HF : Hid (turnsB m xs ts = tlistB xs ts) := by rw [Hid, turnsB_list, hB]; rfl
  have HB := Lib.hid hB
  clear hB
  go_wp2_with fail
  refine (l4Ok_any m A n c xs B l cb ts _ hn HX.out (hx.below hp1) hl HL.out (ht.below hp1)).mono ?_
  rintro e w2 ⟨rfl, hb2⟩
  have b0 := cell_in hb2 b0
  have b1 := cell_in hb2 b1
  have z0 := free_in hb2 e0 z0
  have z1 := free_in hb2 e1 z1
  have e0 := cell_in hb2 e0
  have e1 := cell_in hb2 e1
  have hrc := hrc.keep (hb2.block _ hrc.lt)
  have hp2 := hp1.trans hb2
  clear hb2 hp1
  cases hC : tlistB xs ts with
  | false =>
    have HV : Hid (tnetB m xs ts = false) := tnet_turns (by rw [HF.out, hC])
    clear hC
    go_wp2
    exact bodyPost_ret (v := .tuple #[.agg #[.int .i64 0, .slice none 0 0], .bool false]) (by simp [results, Try.results36, go_sem, e0, e1]) rfl (givesNB_no HV.out rfl (Below.setCell (Below.setCell hp2 (by simp) _) (by simp) _))
  | true =>
  have HT : Hid (turnsB m xs ts = true) := by rw [Hid, HF.out, hC]
  clear hC HF
  cases hD : inB (n : Int) 1 8 with
  | false =>
    have HV : Hid (tnetB m xs ts = false) := tnet_many (by rw [HX.out]; exact hD)
    have cA := fun w => (in_q hD w).mono (R' := fun e w' => e = .returned (.bool _) ∧ w = w') fun _ _ e => ⟨e.1, e.2.symm⟩
    clear hD
    go_wp2_with fail
    refine (cA _).mono ?_
    rintro e w3 ⟨rfl, rfl⟩
    go_wp2
    exact bodyPost_ret (v := .tuple #[.agg #[.int .i64 0, .slice none 0 0], .bool false]) (by simp [results, Try.results36, go_sem, e0, e1]) rfl (givesNB_no HV.out rfl (Below.setCell (Below.setCell hp2 (by simp) _) (by simp) _))
  | true =>
  have cA := fun w => (in_q hD w).mono (R' := fun e w' => e = .returned (.bool _) ∧ w = w') fun _ _ e => ⟨e.1, e.2.symm⟩
  have hn8 := (inB_iff _ _ _).1 hD
  have hn1 : 1 ≤ n := by omega
  have hn88 : n ≤ 8 := by omega
  clear hD hn8
  go_wp2_with fail
  refine (cA _).mono ?_
  rintro e w3 ⟨rfl, rfl⟩
  have hx2 := hx.below hp2
  have ht2 := ht.below hp2
  have sw : w.heap.size + 1 < w2.heap.size := lt_of_cell e0
  have hst0 : LSt w2.heap.size w2 (w2.alloc (.cells #[.int .i64 (n : Int), .slice none 0 0] 32)) n (.slice none 0 0) [] := ⟨by go_simp, by go_simp, ⟨_, heap_alloc_new w2 _, rfl⟩, World.ownsRow_nil _ _ _ _, (Past.refl w2).alloc _⟩
  clear cA hx ht
  go_wp2
  go_loopw [7] (fun q wr => ∃ (i : Nat) (v : Value), i ≤ n ∧ q = .int .i64 i ∧ LSt w2.heap.size w2 wr n v (lineTo xs ts n i)) (fun q _ => n - (intOf q).toNat)
  case atStart => exact ⟨0, _, Nat.zero_le _, rfl, hst0⟩
  case round =>
    obtain ⟨i, v, hi', rfl, hS⟩ := hrel
    have b1r := cell_in hS.past b1
    by_cases hin : i < n
    · go_wp2
      go_loopw [8] (fun q wi => ∃ (k : Nat) (v : Value), k ≤ n ∧ q = .int .i64 k ∧ LSt w2.heap.size w2 wi n v (lineTo xs ts n i ++ rowL xs ts i k)) (fun q _ => n - (intOf q).toNat)
      case atStart => exact ⟨0, v, Nat.zero_le _, rfl, by simpa [rowL] using hS⟩
      case round =>
        clear hS b1r
        obtain ⟨k, v, hk', rfl, hS⟩ := hrel
        have b1r := cell_in hS.past b1
        by_cases hkn : k < n
        · obtain ⟨a, ha⟩ : ∃ a, xs[i]? = some a := ⟨_, List.getElem?_eq_getElem (by have := HX.out; omega)⟩
          obtain ⟨⟨f', t', c', l', d'⟩, hb'⟩ : ∃ a, xs[k]? = some a := ⟨_, List.getElem?_eq_getElem (by have := HX.out; omega)⟩
          obtain ⟨f, t, ca, la, da⟩ := a
          obtain ⟨g, o, rfl, _, d1, _, _, _⟩ := (hx2.below hS.past) i _ ha
          obtain ⟨g', o', eg, f0, _, f2, _, _⟩ := (hx2.below hS.past) k _ hb'
          injection eg with eg
          injection eg with eg1 eg2
          subst eg1 eg2
          have cT := l4Cost_any B l cb ts (i : Int) (k : Int) wr hl HL.out (ht2.below hS.past)
          have hcb := costF_bd (turnsB_all HT.out).2.2.1 (i : Int) (k : Int)
          have hbo := ((netB_iff _ _).1 HB.out).2.2 _ (List.mem_of_getElem? hb')
          have hao := ((netB_iff _ _).1 HB.out).2.2 _ (List.mem_of_getElem? ha)
          simp only [arcB, Bool.and_eq_true, inB_iff, Bool.not_eq_true', beq_eq_false_iff_ne] at hbo hao
          have hc99 : 0 ≤ c' ∧ c' ≤ 99 := hbo.2.2.2.1
          have hfa : f ≠ t := hao.2.2.1
          have HA := Lib.hid ha
          have HB' := Lib.hid hb'
          obtain ⟨C, hC⟩ : ∃ C, C = costF ts (i : Int) (k : Int) := ⟨_, rfl⟩
          rw [← hC] at hcb cT
          have HCC := Lib.hid hC
          have i0' : (0 : Int) ≤ (i : Int) := by omega
          have i1 : (i : Int) < (n : Int) := by omega
          have k0 : (0 : Int) ≤ (k : Int) := by omega
          have k1 : (k : Int) < (n : Int) := by omega
          simp only at d1 f0 f2
          clear ha hb' hC hbo hao
          go_wp2_with fail
          refine cT.mono ?_
          rintro e w4 ⟨rfl, rfl⟩
          clear cT
          by_cases hE : t = f'
          rotate_left
          · have q1 : (t == f') = false := by simpa using hE
            have HN : Hid (lineTo xs ts n i ++ rowL xs ts i (k + 1) = lineTo xs ts n i ++ rowL xs ts i k) := by rw [Hid, rowL, lineArc_turn HA.out HB'.out hE, List.append_nil]
            clear hE
            go_wp2_with fail
            go_quiet (fail)
            go_wp2
            go_roundw
            case rel => exact ⟨k + 1, v, by omega, by go_num, by rw [HN.out]; exact hS.later ((Past.refl _).drewN _)⟩
            case measure => simp [intOf]; omega
          have q1 : (t == f') = true := by simpa using hE
          by_cases hneg : 0 ≤ C
          rotate_left
          · have q2 : ¬ (0 ≤ C) := hneg
            have HN : Hid (lineTo xs ts n i ++ rowL xs ts i (k + 1) = lineTo xs ts n i ++ rowL xs ts i k) := by rw [Hid, rowL, lineArc_no HA.out HB'.out (by rw [← HCC.out]; exact hneg), List.append_nil]
            have q3 : decide (0 ≤ C) = false := decide_eq_false hneg
            clear hE hneg
            go_wp2_with fail
            go_quiet (fail)
            go_wp2
            go_roundw
            case rel => exact ⟨k + 1, v, by omega, by go_num, by rw [HN.out]; exact hS.later ((Past.refl _).drewN _)⟩
            case measure => simp [intOf]; omega
          have q2 : decide (0 ≤ C) = true := decide_eq_true hneg
          have hik : ¬ i = k := fun e => by
            subst e
            have := HA.out.symm.trans HB'.out
            injection this with this
            injection this with h1 h2
            exact hfa (by omega)
          have q3 : ((i : Int) != (k : Int)) = true := by simp; omega
          have HN : Hid (lineTo xs ts n i ++ rowL xs ts i (k + 1) = (lineTo xs ts n i ++ rowL xs ts i k) ++ [⟨(i : Int), (k : Int), C + c', 0, 9⟩]) := by
            rw [Hid, rowL, lineArc_hit HA.out HB'.out hE (by rw [← HCC.out]; exact hneg), ← HCC.out, List.append_assoc]
          have hlen : (lineTo xs ts n i ++ rowL xs ts i k).length ≤ 72 := by
            have h1 := lineTo_len xs ts n i
            have h2 := rowL_len xs ts i k
            have h3 : i * n ≤ 8 * 8 := Nat.mul_le_mul (by omega) hn88
            rw [List.length_append]
            omega
          obtain ⟨L, hL⟩ : ∃ L, L = lineTo xs ts n i ++ rowL xs ts i k := ⟨_, rfl⟩
          rw [← hL] at hS hlen HN
          clear hE hL hik hfa
          go_wp2_with fail
          go_quiet (fail)
          obtain ⟨w5, hw5⟩ : ∃ u, u = wr.drewN nq := ⟨_, rfl⟩
          have hS : LSt w2.heap.size w2 w5 n v L := by rw [hw5]; exact hS.later ((Past.refl _).drewN _)
          have b1r : w5.cell? ⟨w.heap.size, 1, none⟩ = some (.slice (some ⟨g, o, none⟩) n c) := by rw [hw5]; exact b1r
          have f2 : w5.cell? ⟨g, o + k * 5 + 2, none⟩ = some (.int .i64 c') := by rw [hw5]; exact f2
          clear d1 f0 q1 q2 q3
          go_wp2_with fail
          rw [← hw5]
          clear hw5
          obtain ⟨D, hD⟩ : ∃ D, D = L.length := ⟨_, rfl⟩
          have hown : w5.ownsRow (w2.heap.size + 1) 52 5 v D (cellsOf L) := by rw [hD]; exact hS.own
          have hD72 : D ≤ 72 := by omega
          have o1 := hS.o1
          have s1 : IntKind.i64.wrap (C + c') = C + c' := IntWalk.i64_in _ (by omega)
          have HDD := Lib.hid hD
          have HO := Lib.hid hown
          have HS := Lib.hid hS
          have sz5 : w2.heap.size + 1 ≤ w5.heap.size := by have := hS.row.lt; omega
          have hgw : g < w2.heap.size ∨ True := .inr trivial
          have y0 := World.new_ne w5 _ b1r
          have y1 := World.new_ne w5 _ f2
          have y2 := World.new_ne w5 _ o1
          have hgX : g ≠ w2.heap.size := by
            obtain ⟨g3, o3, e3, h3, _⟩ := hx2 k _ HB'.out
            injection e3 with e3
            injection e3 with e4 e5
            subst e4
            have := lt_of_cell h3
            simp only at this
            omega
          have hbX : w.heap.size ≠ w2.heap.size := by omega
          have hq0 : ∀ (u : World) (x : Value), (u.setCell ⟨w2.heap.size, 1, none⟩ x).cell? ⟨w.heap.size, 1, none⟩ = u.cell? ⟨w.heap.size, 1, none⟩ := fun u x => World.cell?_setCell_other _ _ _ _ (by intro e; injection e; omega)
          have hq1 : ∀ (u : World) (x : Value), (u.setCell ⟨w2.heap.size, 1, none⟩ x).cell? ⟨g, o + k * 5 + 2, none⟩ = u.cell? ⟨g, o + k * 5 + 2, none⟩ := fun u x => World.cell?_setCell_other _ _ _ _ (by intro e; injection e; omega)
          have hgl : g < w2.heap.size := by
            obtain ⟨g3, o3, e3, h3, _⟩ := hx2 k _ HB'.out
            injection e3 with e3
            injection e3 with e4 e5
            subst e4
            exact lt_of_cell h3
          clear hS hown hD
          have hnews : ∀ j u, ([.int .i64 (i : Int), .int .i64 (k : Int), .int .i64 (C + c'), .int .i64 0, .int .i64 9] : List Value)[j]? = some u → (w5.drew.alloc (.cells #[.int .i64 (i : Int), .int .i64 (k : Int), .int .i64 (C + c'), .int .i64 0, .int .i64 9] 52)).cell? ((⟨w5.heap.size, 0, none⟩ : Addr).add j) = some u := five_news w5.drew _ _ _ _ _ _
          have hownA : (w5.drew.alloc (.cells #[.int .i64 (i : Int), .int .i64 (k : Int), .int .i64 (C + c'), .int .i64 0, .int .i64 9] 52)).ownsRow (w2.heap.size + 1) 52 5 v D (cellsOf L) := World.ownsRow.alloc (w := w5.drew) HO.out _
          have o1A : (w5.alloc (.cells #[.int .i64 (i : Int), .int .i64 (k : Int), .int .i64 (C + c'), .int .i64 0, .int .i64 9] 52)).cell? ⟨w2.heap.size, 1, none⟩ = some v := cell_in (W := w5) ((Past.refl w5).alloc _) o1
          have HNW := Lib.hid hnews
          have HOA := Lib.hid hownA
          clear hnews hownA hgX hbX hq0 hq1 hgl hgw
          go_region_law
            ((refine step_append_any (by rfl) _ _ _ (by rfl) (w2.heap.size + 1) 52 i0 _ 5 40 Try.underlying30 hi hz0 hz1 hz2 rfl (by omega) v D (cellsOf L) (by rfl) HOA.out ⟨w5.heap.size, 0, none⟩ 1 1 (by rfl) [.int .i64 (i : Int), .int .i64 (k : Int), .int .i64 (C + c'), .int .i64 0, .int .i64 9] rfl HNW.out (cellsOf_one [⟨(i : Int), (k : Int), C + c', 0, 9⟩]) (by unfold maxLen; omega) (by omega) (by simp; omega) ?_; intro v1 w9 hown1 hgrow1 hat1; obtain ⟨gv, cv, rfl, hgv, hgw⟩ := World.ownsRow.form hown1 (by omega); obtain ⟨⟨u9, x9⟩, z9, hS9⟩ := HS.out.put (a := ⟨(i : Int), (k : Int), C + c', 0, 9⟩) (Nat.le_refl _) (((Past.refl w5).drew).alloc _) hgrow1 hown1 (by rw [HDD.out]) rfl))
          all_goals go_wp2
          all_goals go_roundw
          all_goals first | (case rel => exact ⟨k + 1, _, by omega, by go_num, by rw [HN.out]; exact hS9⟩) | (case measure => simp [intOf]; omega)
        · obtain rfl : k = n := by omega
          go_wp2
          go_roundw
          case rel => exact ⟨i + 1, v, by omega, by go_num, hS⟩
          case measure => simp [intOf]; omega
    · obtain rfl : i = n := by omega
      have hlen : (lineTo xs ts i i).length ≤ 64 := by
        have h1 := lineTo_len xs ts i i
        have h3 : i * i ≤ 8 * 8 := Nat.mul_le_mul hn88 hn88
        omega
      have HLL : Hid (lineTo xs ts i i = lineL xs ts) := by rw [Hid, lineL, HX.out]
      obtain ⟨D, hDD⟩ : ∃ D, D = (lineTo xs ts i i).length := ⟨_, rfl⟩
      obtain ⟨A2, c2, rfl, hx9, _⟩ := (show ResA wr (w2.heap.size + 1) v (lineTo xs ts i i) from hS.own).form
      have hown := hS.own
      have o0 := hS.o0
      have o1 := hS.o1
      have hpr := hp2.trans hS.past
      have e0r := cell_in hS.past e0
      have e1r := cell_in hS.past e1
      have z0r := free_in hS.past e0 z0
      have z1r := free_in hS.past e1 z1
      rw [← hDD] at hlen hown o1
      have HDD := Lib.hid hDD
      have HS := Lib.hid hS
      clear hS hDD
      go_wp2_with fail
      refine (l1Ok_any (i : Int) A2 D c2 (lineTo xs ts i i) _ (by omega) HDD.out.symm hx9).mono ?_
      rintro e w5 ⟨rfl, hb5⟩
      have o0 := cell_in hb5 o0
      have o1 := cell_in hb5 o1
      have z0r := free_in hb5 e0r z0r
      have z1r := free_in hb5 e1r z1r
      have e0r := cell_in hb5 e0r
      have e1r := cell_in hb5 e1r
      have hown := World.ownsRow.kept hown (grown_of_below hb5 none) (by cases hv : (Value.slice A2 D c2).ownBlock <;> simp)
      have hpr := hpr.trans hb5
      cases hO : netB (i : Int) (lineTo xs ts i i) with
      | false =>
        have HV : Hid (tnetB m xs ts = false) := by rw [Hid, tnet_line HT.out, HX.out, ← HLL.out]; exact hO
        clear hO
        go_wp2
        exact bodyPost_ret (v := .tuple #[.agg #[.int .i64 0, .slice none 0 0], .bool false]) (by simp [results, Try.results36, go_sem, e0r, e1r]) rfl (givesNB_no HV.out rfl (Below.setCell (Below.setCell hpr (by simp) _) (by simp) _))
      | true =>
        have HV : Hid (tnetB m xs ts = true) := by rw [Hid, tnet_line HT.out, HX.out, ← HLL.out]; exact hO
        clear hO
        go_wp2
        refine bodyPost_ret (v := .tuple #[.agg #[.int .i64 (i : Int), .slice A2 D c2], .bool true]) (by simp [results, Try.results36, go_sem, e0r, e1r]) rfl ?_
        refine givesNB_yes (lo := w2.heap.size + 1) (cs := cellsOf (lineTo xs ts i i)) HV.out HX.out.symm (by omega) D (by rw [HDD.out, HLL.out]) (by rw [HLL.out]) ?_ (Below.setCell (Below.setCell hpr (by simp) _) (by simp) _)
        exact own_far (own_far hown (fun e => own_ne hown (g := w.heap.size + 1) (by omega) e.symm) _) (fun e => own_ne hown (g := w.heap.size + 1) (by omega) e.symm) _

end Go.Proofs.Ytaojognjkiifmaa
