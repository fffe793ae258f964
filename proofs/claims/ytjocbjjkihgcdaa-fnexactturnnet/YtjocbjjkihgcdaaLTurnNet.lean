/-
  FnExactTurnNet answers true at every input: impl.TurnNet answers as spec.TurnNet, leaves its arguments alone and owns its answer. No condition.
-/
import Derived.Test.YtjocbjjkihgcdaaPTurn2
import Derived.Test.YtjocbjjkihgcdaaBack
import Derived.Test.YtjocbjjkihgcdaaOwnL
import Derived.Deep.RegionLaw
import Derived.Test.YtjocbjjkihgcdaaTWalkS
import Derived.Test.YtjocbjjkihgcdaaTApp
import Derived.Test.YtjocbjjkihgcdaaOrdInv
import Derived.OwnWalkIn
import Derived.RangeFuncCalls
import Derived.Sort.LoopGhostIn
import Derived.Laws.EntriesVeiled
import Derived.Test.YtjocbjjkihgcdaaNLen
import Derived.Test.YtjocbjjkihgcdaaTOk
import Derived.Test.YtjocbjjkihgcdaaSame
import Derived.Test.YtjocbjjkihgcdaaMark
import Derived.Test.YtjocbjjkihgcdaaOpen
import Derived.Test.YtjocbjjkihgcdaaHeld
import Derived.Test.YtjocbjjkihgcdaaOpenW
import Derived.Test.YtjocbjjkihgcdaaMarkB
import Derived.Test.YtjocbjjkihgcdaaRTurnL
namespace Go.Proofs.Ytjocbjjkihgcdaa
open Go.RowKit

/-- From an arc to another one: the arc of the line net, if there is one. -/
def lineArc (xs : List ArcD) (ts : List TurnD) (i k : Nat) : List ArcD := match xs[i]?, xs[k]? with
  | some a, some b => if a.t = b.f ∧ 0 ≤ costF ts i k then [⟨i, k, costF ts i k + b.c, 0, 9⟩] else []
  | _, _ => []
def rowL (xs : List ArcD) (ts : List TurnD) (i : Nat) : Nat → List ArcD
  | 0 => []
  | k + 1 => rowL xs ts i k ++ lineArc xs ts i k
def lineTo (xs : List ArcD) (ts : List TurnD) (n : Nat) : Nat → List ArcD
  | 0 => []
  | i + 1 => lineTo xs ts n i ++ rowL xs ts i n
def lineL (xs : List ArcD) (ts : List TurnD) : List ArcD := lineTo xs ts xs.length xs.length

theorem lineArc_hit {xs : List ArcD} {ts : List TurnD} {i k : Nat} {a b : ArcD} (ha : xs[i]? = some a) (hb : xs[k]? = some b) (h1 : a.t = b.f) (h2 : 0 ≤ costF ts i k) : lineArc xs ts i k = [⟨i, k, costF ts i k + b.c, 0, 9⟩] := by
  simp [lineArc, ha, hb, h1, h2]
theorem lineArc_turn {xs : List ArcD} {ts : List TurnD} {i k : Nat} {a b : ArcD} (ha : xs[i]? = some a) (hb : xs[k]? = some b) (h1 : a.t ≠ b.f) : lineArc xs ts i k = [] := by
  simp [lineArc, ha, hb, h1]
theorem lineArc_no {xs : List ArcD} {ts : List TurnD} {i k : Nat} {a b : ArcD} (ha : xs[i]? = some a) (hb : xs[k]? = some b) (h2 : ¬ 0 ≤ costF ts i k) : lineArc xs ts i k = [] := by
  simp [lineArc, ha, hb, h2]
theorem lineArc_len (xs : List ArcD) (ts : List TurnD) (i k : Nat) : (lineArc xs ts i k).length ≤ 1 := by
  unfold lineArc
  split
  · split <;> simp
  · simp
theorem rowL_len (xs : List ArcD) (ts : List TurnD) (i : Nat) : ∀ k, (rowL xs ts i k).length ≤ k
  | 0 => by simp [rowL]
  | k + 1 => by
    have h1 := rowL_len xs ts i k
    have h2 := lineArc_len xs ts i k
    simp [rowL]
    omega
theorem lineTo_len (xs : List ArcD) (ts : List TurnD) (n : Nat) : ∀ i, (lineTo xs ts n i).length ≤ i * n
  | 0 => by simp [lineTo]
  | i + 1 => by
    have h1 := lineTo_len xs ts n i
    have h2 := rowL_len xs ts i n
    simp [lineTo, Nat.add_mul]
    omega

/-- A net of turns. -/
def tnetB (m : Int) (xs : List ArcD) (ts : List TurnD) : Bool := turnsB m xs ts && netB (xs.length : Int) (lineL xs ts)
def tnetL (m : Int) (xs : List ArcD) (ts : List TurnD) : List ArcD := if tnetB m xs ts then lineL xs ts else []
def tnetN (m : Int) (xs : List ArcD) (ts : List TurnD) : Int := if tnetB m xs ts then (xs.length : Int) else 0
theorem tnet_no {m : Int} {xs : List ArcD} {ts : List TurnD} (h : tnetB m xs ts = false) : tnetL m xs ts = [] ∧ tnetN m xs ts = 0 := by simp [tnetL, tnetN, h]
theorem tnet_yes {m : Int} {xs : List ArcD} {ts : List TurnD} (h : tnetB m xs ts = true) : tnetL m xs ts = lineL xs ts ∧ tnetN m xs ts = (xs.length : Int) := by simp [tnetL, tnetN, h]
theorem tnet_turns {m : Int} {xs : List ArcD} {ts : List TurnD} (h : turnsB m xs ts = false) : tnetB m xs ts = false := by simp [tnetB, h]
theorem tnet_many {m : Int} {xs : List ArcD} {ts : List TurnD} (h : inB (xs.length : Int) 1 8 = false) : tnetB m xs ts = false := by simp [tnetB, netB, h]
theorem tnet_line {m : Int} {xs : List ArcD} {ts : List TurnD} (h : turnsB m xs ts = true) : tnetB m xs ts = netB (xs.length : Int) (lineL xs ts) := by simp [tnetB, h]
theorem tnetL_len16 (m : Int) (xs : List ArcD) (ts : List TurnD) : (tnetL m xs ts).length ≤ 16 := by
  cases h : tnetB m xs ts with
  | false => rw [(tnet_no h).1]; simp
  | true =>
    rw [(tnet_yes h).1]
    simp only [tnetB, Bool.and_eq_true] at h
    exact ((netB_iff _ _).1 h.2).2.1

/-- A net and a truth are handed back. -/
def GivesNB (w : World) (m : Int) (xs : List ArcD) (b : Bool) (e : Ending) (w' : World) : Prop :=
  ∃ A c, e = .returned (.tuple #[.agg #[.int .i64 m, .slice A xs.length c], .bool b]) ∧ ArcsAt w' A xs ∧ OwnAt w' w.heap.size A 61 5 xs.length ∧ Below w.heap.size w w'
theorem givesNB_no {w w' : World} {m : Int} {xs : List ArcD} {ts : List TurnD} {e : Ending} (h : tnetB m xs ts = false) (he : e = .returned (.tuple #[.agg #[.int .i64 0, .slice none 0 0], .bool false])) (hb : Below w.heap.size w w') : GivesNB w (tnetN m xs ts) (tnetL m xs ts) (tnetB m xs ts) e w' := by
  obtain ⟨h1, h2⟩ := tnet_no h
  refine ⟨none, 0, by rw [h2, h1, h]; exact he, by rw [h1]; exact fun k a hk => by simp at hk, by rw [h1]; exact .inl ⟨rfl, rfl⟩, hb⟩
theorem givesNB_yes {w w' : World} {m : Int} {xs : List ArcD} {ts : List TurnD} {v : Value} {n lo : Nat} {cs : List Value} (h : tnetB m xs ts = true) (hn : n = xs.length) (hlo : w.heap.size ≤ lo) (k : Nat) (hk : k = (lineL xs ts).length) (hcs : cs = cellsOf (lineL xs ts)) (hv : w'.ownsRow lo 61 5 v k cs) (hb : Below w.heap.size w w') :
    GivesNB w (tnetN m xs ts) (tnetL m xs ts) (tnetB m xs ts) (.returned (.tuple #[.agg #[.int .i64 (n : Int), v], .bool true])) w' := by
  obtain ⟨h1, h2⟩ := tnet_yes h
  subst hk hcs
  have hr : ResA w' w.heap.size v (lineL xs ts) := ResA.lower (lo := lo) hv hlo
  obtain ⟨A, c, rfl, hx, ho⟩ := hr.form
  exact ⟨A, c, by rw [h2, h1, h, hn], by rw [h1]; exact hx, by rw [h1]; exact ho, hb⟩

end Go.Proofs.Ytjocbjjkihgcdaa

namespace Go.Proofs.Ytjocbjjkihgcdaa
open Go.RowKit

/-- The net that is being made, in the block X. -/
structure LSt (X : Nat) (w3 wr : World) (n : Nat) (v : Value) (L : List ArcD) : Prop where
  o0 : wr.cell? ⟨X, 0, none⟩ = some (.int .i64 (n : Int))
  o1 : wr.cell? ⟨X, 1, none⟩ = some v
  row : RowN wr X 31 2
  own : wr.ownsRow (X + 1) 61 5 v L.length (cellsOf L)
  past : Past w3 wr
theorem LSt.later {X n : Nat} {w3 wr w' : World} {v : Value} {L : List ArcD} (h : LSt X w3 wr n v L) (hb : Past wr w') : LSt X w3 w' n v L :=
  ⟨cell_in hb h.o0, cell_in hb h.o1, h.row.keep (hb.block _ h.row.lt), World.ownsRow.kept h.own (grown_of_below hb none) (by cases hv : v.ownBlock <;> simp), h.past.trans hb⟩
theorem LSt.put {X n k : Nat} {w3 wr wa w9 : World} {v v' : Value} {L : List ArcD} {a : ArcD} {cs : List Value} (h : LSt X w3 wr n v L) (hX : w3.heap.size ≤ X) (hp : Past wr wa) (hg : wa.grownBy w9 v.ownBlock)
    (ho : w9.ownsRow (X + 1) 61 5 v' k cs) (hk : k = L.length + 1) (hc : cs = cellsOf L ++ [.int .i64 a.f, .int .i64 a.t, .int .i64 a.c, .int .i64 a.l, .int .i64 a.d]) :
    (∃ u, w9.cell? ⟨X, 1, none⟩ = some u) ∧ w9.frozen? ⟨X, 1, none⟩ = false ∧ LSt X w3 (w9.setCell ⟨X, 1, none⟩ v') n v' (L ++ [a]) := by
  have h1 := h.later hp
  have hne : some X ≠ v.ownBlock := own_ne h1.own (by omega)
  have r9 : RowN w9 X 31 2 := h1.row.keep (hg.block _ h1.row.lt hne)
  have o0 : w9.cell? ⟨X, 0, none⟩ = some (.int .i64 (n : Int)) := (World.cell?_of_block (w := wa) (a := ⟨X, 0, none⟩) (hg.block _ h1.row.lt hne)).trans h1.o0
  have o1 : w9.cell? ⟨X, 1, none⟩ = some v := (World.cell?_of_block (w := wa) (a := ⟨X, 1, none⟩) (hg.block _ h1.row.lt hne)).trans h1.o1
  have hne' : v'.ownBlock ≠ some X := fun e => own_ne ho (g := X) (by omega) e.symm
  have hp9 : Past w3 w9 := Below.grown h1.past hg h1.past.size (fun b e => by have := (h1.own.lt b e).1; omega)
  refine ⟨⟨_, o1⟩, r9.frozen 1, ⟨(World.cell?_setCell_other _ _ _ _ (by simp)).trans o0, World.cell?_setCell_same _ _ _ o1, r9.set _ _, ?_, Below.setCell hp9 hX _⟩⟩
  rw [List.length_append, cellsOf_append]
  subst hk hc
  exact own_far ho hne' _

theorem five_news (w : World) (x0 x1 x2 x3 x4 : Value) (t : Nat) : ∀ j u, ([x0, x1, x2, x3, x4] : List Value)[j]? = some u → (w.alloc (.cells #[x0, x1, x2, x3, x4] t)).cell? ((⟨w.heap.size, 0, none⟩ : Addr).add j) = some u := five_new w x0 x1 x2 x3 x4 t

set_option maxRecDepth 100000 in
set_option maxHeartbeats 8000000 in
theorem specTurnNet_any (m : Int) (A : Option Addr) (n c : Nat) (xs : List ArcD) (B : Option Addr) (l cb : Nat) (ts : List TurnD) (w : World) (hn : n ≤ 1048576) (hnx : xs.length = n) (hx : ArcsAt w A xs) (hl : l ≤ 1048576) (hlt : ts.length = l) (ht : TurnsAt w B ts) :
    Calls Try.prog 33 #[.agg #[.int .i64 m, .slice A n c], .slice B l cb] w (GivesNB w (tnetN m xs ts) (tnetL m xs ts) (tnetB m xs ts)) := by
  have HX := Lib.hid hnx
  have HL := Lib.hid hlt
  clear hnx hlt
  obtain ⟨i0, hi, hz0, hz1, hz2⟩ := info_parts infoArc
  have hb0 : Past w ((w.alloc (.cells #[.int .i64 m, .slice A n c] 31)).alloc (.cells #[.int .i64 0, .slice none 0 0] 31)) := ((Past.refl _).alloc _).alloc _
  go_enter Try.func33, Try.ntmps33
  go_wp2_with fail
  refine (l1Ok_any m A n c xs _ hn HX.out (hx.below hb0)).mono ?_
  rintro e w1 ⟨rfl, hb1⟩
  have b0 := cell_in (p := ⟨w.heap.size, 0, none⟩) (v := .int .i64 m) hb1 (by go_simp)
  have b1 := cell_in (p := ⟨w.heap.size, 1, none⟩) (v := .slice A n c) hb1 (by go_simp)
  have e0 := cell_in (p := ⟨w.heap.size + 1, 0, none⟩) (v := .int .i64 0) hb1 (by go_simp)
  have e1 := cell_in (p := ⟨w.heap.size + 1, 1, none⟩) (v := .slice none 0 0) hb1 (by go_simp)
  have z0 := free_in (p := ⟨w.heap.size + 1, 0, none⟩) (v := .int .i64 0) hb1 (by go_simp) (by go_simp)
  have z1 := free_in (p := ⟨w.heap.size + 1, 1, none⟩) (v := .slice none 0 0) hb1 (by go_simp) (by go_simp)
  have hrc : RowN w1 (w.heap.size + 1) 31 2 := by
    refine RowN.keep (w := ((w.alloc (.cells #[.int .i64 m, .slice A n c] 31)).alloc (.cells #[.int .i64 0, .slice none 0 0] 31))) ⟨#[.int .i64 0, .slice none 0 0], ?_, rfl⟩ (hb1.block _ (by simp))
    have := heap_alloc_new (w.alloc (.cells #[.int .i64 m, .slice A n c] 31)) (.cells #[.int .i64 0, .slice none 0 0] 31)
    simpa using this
  have hp1 := hb0.trans hb1
  clear hb0 hb1
  cases hB : netB m xs with
  | false =>
    have HF : Hid (tnetB m xs ts = false) := tnet_turns (by rw [turnsB_list, hB]; rfl)
    clear hB
    go_wp2
    exact bodyPost_ret (v := .tuple #[.agg #[.int .i64 0, .slice none 0 0], .bool false]) (by simp [results, Try.results33, go_sem, e0, e1]) rfl (givesNB_no HF.out rfl (Below.setCell (Below.setCell hp1 (by simp) _) (by simp) _))
  | true =>
  have HF : Hid (turnsB m xs ts = tlistB xs ts) := by rw [Hid, turnsB_list, hB]; rfl
  have HB := Lib.hid hB
  clear hB
  go_wp2_with fail
  refine (l4Ok_any m A n c xs B l cb ts _ hn HX.out (hx.below hp1) hl HL.out (ht.below hp1)).mono ?_
  rintro e w2 ⟨rfl, hb2⟩
  have b0 := cell_in hb2 b0
  have b1 := cell_in hb2 b1
  have z0 := free_in hb2 e0 z0
  have z1 := free_in hb2 e1 z1
  have e0 := cell_in hb2 e0
  have e1 := cell_in hb2 e1
  have hrc := hrc.keep (hb2.block _ hrc.lt)
  have hp2 := hp1.trans hb2
  clear hb2 hp1
  cases hC : tlistB xs ts with
  | false =>
    have HV : Hid (tnetB m xs ts = false) := tnet_turns (by rw [HF.out, hC])
    clear hC
    go_wp2
    exact bodyPost_ret (v := .tuple #[.agg #[.int .i64 0, .slice none 0 0], .bool false]) (by simp [results, Try.results33, go_sem, e0, e1]) rfl (givesNB_no HV.out rfl (Below.setCell (Below.setCell hp2 (by simp) _) (by simp) _))
  | true =>
  have HT : Hid (turnsB m xs ts = true) := by rw [Hid, HF.out, hC]
  clear hC HF
  cases hD : inB (n : Int) 1 8 with
  | false =>
    have HV : Hid (tnetB m xs ts = false) := tnet_many (by rw [HX.out]; exact hD)
    have cA := fun w => (in_q hD w).mono (R' := fun e w' => e = .returned (.bool _) ∧ w = w') fun _ _ e => ⟨e.1, e.2.symm⟩
    clear hD
    go_wp2_with fail
    refine (cA _).mono ?_
    rintro e w3 ⟨rfl, rfl⟩
    go_wp2
    exact bodyPost_ret (v := .tuple #[.agg #[.int .i64 0, .slice none 0 0], .bool false]) (by simp [results, Try.results33, go_sem, e0, e1]) rfl (givesNB_no HV.out rfl (Below.setCell (Below.setCell hp2 (by simp) _) (by simp) _))
  | true =>
  have cA := fun w => (in_q hD w).mono (R' := fun e w' => e = .returned (.bool _) ∧ w = w') fun _ _ e => ⟨e.1, e.2.symm⟩
  have hn8 := (inB_iff _ _ _).1 hD
  have hn1 : 1 ≤ n := by omega
  have hn88 : n ≤ 8 := by omega
  clear hD hn8
  go_wp2_with fail
  refine (cA _).mono ?_
  rintro e w3 ⟨rfl, rfl⟩
  have hx2 := hx.below hp2
  have ht2 := ht.below hp2
  have sw : w.heap.size + 1 < w2.heap.size := lt_of_cell e0
  have hst0 : LSt w2.heap.size w2 (w2.alloc (.cells #[.int .i64 (n : Int), .slice none 0 0] 31)) n (.slice none 0 0) [] := ⟨by go_simp, by go_simp, ⟨_, heap_alloc_new w2 _, rfl⟩, World.ownsRow_nil _ _ _ _, (Past.refl w2).alloc _⟩
  clear cA hx ht
  go_wp2
  go_loopw [7] (fun q wr => ∃ (i : Nat) (v : Value), i ≤ n ∧ q = .int .i64 i ∧ LSt w2.heap.size w2 wr n v (lineTo xs ts n i)) (fun q _ => n - (intOf q).toNat)
  case atStart => exact ⟨0, _, Nat.zero_le _, rfl, hst0⟩
  case round =>
    obtain ⟨i, v, hi', rfl, hS⟩ := hrel
    have b1r := cell_in hS.past b1
    by_cases hin : i < n
    · go_wp2
      go_loopw [8] (fun q wi => ∃ (k : Nat) (v : Value), k ≤ n ∧ q = .int .i64 k ∧ LSt w2.heap.size w2 wi n v (lineTo xs ts n i ++ rowL xs ts i k)) (fun q _ => n - (intOf q).toNat)
      case atStart => exact ⟨0, v, Nat.zero_le _, rfl, by simpa [rowL] using hS⟩
      case round =>
        clear hS b1r
        obtain ⟨k, v, hk', rfl, hS⟩ := hrel
        have b1r := cell_in hS.past b1
        by_cases hkn : k < n
        · obtain ⟨a, ha⟩ : ∃ a, xs[i]? = some a := ⟨_, List.getElem?_eq_getElem (by have := HX.out; omega)⟩
          obtain ⟨⟨f', t', c', l', d'⟩, hb'⟩ : ∃ a, xs[k]? = some a := ⟨_, List.getElem?_eq_getElem (by have := HX.out; omega)⟩
          obtain ⟨f, t, ca, la, da⟩ := a
          obtain ⟨g, o, rfl, _, d1, _, _, _⟩ := (hx2.below hS.past) i _ ha
          obtain ⟨g', o', eg, f0, _, f2, _, _⟩ := (hx2.below hS.past) k _ hb'
          injection eg with eg
          injection eg with eg1 eg2
          subst eg1 eg2
          have cT := l4Cost_any B l cb ts (i : Int) (k : Int) wr hl HL.out (ht2.below hS.past)
          have hcb := costF_bd (turnsB_all HT.out).2.2.1 (i : Int) (k : Int)
          have hbo := ((netB_iff _ _).1 HB.out).2.2 _ (List.mem_of_getElem? hb')
          have hao := ((netB_iff _ _).1 HB.out).2.2 _ (List.mem_of_getElem? ha)
          simp only [arcB, Bool.and_eq_true, inB_iff, Bool.not_eq_true', beq_eq_false_iff_ne] at hbo hao
          have hc99 : 0 ≤ c' ∧ c' ≤ 99 := hbo.2.2.2.1
          have hfa : f ≠ t := hao.2.2.1
          have HA := Lib.hid ha
          have HB' := Lib.hid hb'
          obtain ⟨C, hC⟩ : ∃ C, C = costF ts (i : Int) (k : Int) := ⟨_, rfl⟩
          rw [← hC] at hcb cT
          have HCC := Lib.hid hC
          have i0' : (0 : Int) ≤ (i : Int) := by omega
          have i1 : (i : Int) < (n : Int) := by omega
          have k0 : (0 : Int) ≤ (k : Int) := by omega
          have k1 : (k : Int) < (n : Int) := by omega
          simp only at d1 f0 f2
          clear ha hb' hC hbo hao
          go_wp2_with fail
          refine cT.mono ?_
          rintro e w4 ⟨rfl, rfl⟩
          clear cT
          by_cases hE : t = f'
          rotate_left
          · have q1 : (t == f') = false := by simpa using hE
            have HN : Hid (lineTo xs ts n i ++ rowL xs ts i (k + 1) = lineTo xs ts n i ++ rowL xs ts i k) := by rw [Hid, rowL, lineArc_turn HA.out HB'.out hE, List.append_nil]
            clear hE
            go_wp2_with fail
            go_quiet (fail)
            go_wp2
            go_roundw
            case rel => exact ⟨k + 1, v, by omega, by go_num, by rw [HN.out]; exact hS.later ((Past.refl _).drewN _)⟩
            case measure => simp [intOf]; omega
          have q1 : (t == f') = true := by simpa using hE
          by_cases hneg : 0 ≤ C
          rotate_left
          · have q2 : ¬ (0 ≤ C) := hneg
            have HN : Hid (lineTo xs ts n i ++ rowL xs ts i (k + 1) = lineTo xs ts n i ++ rowL xs ts i k) := by rw [Hid, rowL, lineArc_no HA.out HB'.out (by rw [← HCC.out]; exact hneg), List.append_nil]
            have q3 : decide (0 ≤ C) = false := decide_eq_false hneg
            clear hE hneg
            go_wp2_with fail
            go_quiet (fail)
            go_wp2
            go_roundw
            case rel => exact ⟨k + 1, v, by omega, by go_num, by rw [HN.out]; exact hS.later ((Past.refl _).drewN _)⟩
            case measure => simp [intOf]; omega
          have q2 : decide (0 ≤ C) = true := decide_eq_true hneg
          have hik : ¬ i = k := fun e => by
            subst e
            have := HA.out.symm.trans HB'.out
            injection this with this
            injection this with h1 h2
            exact hfa (by omega)
          have q3 : ((i : Int) != (k : Int)) = true := by simp; omega
          have HN : Hid (lineTo xs ts n i ++ rowL xs ts i (k + 1) = (lineTo xs ts n i ++ rowL xs ts i k) ++ [⟨(i : Int), (k : Int), C + c', 0, 9⟩]) := by
            rw [Hid, rowL, lineArc_hit HA.out HB'.out hE (by rw [← HCC.out]; exact hneg), ← HCC.out, List.append_assoc]
          have hlen : (lineTo xs ts n i ++ rowL xs ts i k).length ≤ 72 := by
            have h1 := lineTo_len xs ts n i
            have h2 := rowL_len xs ts i k
            have h3 : i * n ≤ 8 * 8 := Nat.mul_le_mul (by omega) hn88
            rw [List.length_append]
            omega
          obtain ⟨L, hL⟩ : ∃ L, L = lineTo xs ts n i ++ rowL xs ts i k := ⟨_, rfl⟩
          rw [← hL] at hS hlen HN
          clear hE hL hik hfa
          go_wp2_with fail
          go_quiet (fail)
          obtain ⟨w5, hw5⟩ : ∃ u, u = wr.drewN nq := ⟨_, rfl⟩
          have hS : LSt w2.heap.size w2 w5 n v L := by rw [hw5]; exact hS.later ((Past.refl _).drewN _)
          have b1r : w5.cell? ⟨w.heap.size, 1, none⟩ = some (.slice (some ⟨g, o, none⟩) n c) := by rw [hw5]; exact b1r
          have f2 : w5.cell? ⟨g, o + k * 5 + 2, none⟩ = some (.int .i64 c') := by rw [hw5]; exact f2
          clear d1 f0 q1 q2 q3
          go_wp2_with fail
          rw [← hw5]
          clear hw5
          obtain ⟨D, hD⟩ : ∃ D, D = L.length := ⟨_, rfl⟩
          have hown : w5.ownsRow (w2.heap.size + 1) 61 5 v D (cellsOf L) := by rw [hD]; exact hS.own
          have hD72 : D ≤ 72 := by omega
          have o1 := hS.o1
          have s1 : IntKind.i64.wrap (C + c') = C + c' := IntWalk.i64_in _ (by omega)
          have HDD := Lib.hid hD
          have HO := Lib.hid hown
          have HS := Lib.hid hS
          have sz5 : w2.heap.size + 1 ≤ w5.heap.size := by have := hS.row.lt; omega
          have hgw : g < w2.heap.size ∨ True := .inr trivial
          have y0 := World.new_ne w5 _ b1r
          have y1 := World.new_ne w5 _ f2
          have y2 := World.new_ne w5 _ o1
          have hgX : g ≠ w2.heap.size := by
            obtain ⟨g3, o3, e3, h3, _⟩ := hx2 k _ HB'.out
            injection e3 with e3
            injection e3 with e4 e5
            subst e4
            have := lt_of_cell h3
            simp only at this
            omega
          have hbX : w.heap.size ≠ w2.heap.size := by omega
          have hq0 : ∀ (u : World) (x : Value), (u.setCell ⟨w2.heap.size, 1, none⟩ x).cell? ⟨w.heap.size, 1, none⟩ = u.cell? ⟨w.heap.size, 1, none⟩ := fun u x => World.cell?_setCell_other _ _ _ _ (by intro e; injection e; omega)
          have hq1 : ∀ (u : World) (x : Value), (u.setCell ⟨w2.heap.size, 1, none⟩ x).cell? ⟨g, o + k * 5 + 2, none⟩ = u.cell? ⟨g, o + k * 5 + 2, none⟩ := fun u x => World.cell?_setCell_other _ _ _ _ (by intro e; injection e; omega)
          have hgl : g < w2.heap.size := by
            obtain ⟨g3, o3, e3, h3, _⟩ := hx2 k _ HB'.out
            injection e3 with e3
            injection e3 with e4 e5
            subst e4
            exact lt_of_cell h3
          clear hS hown hD
          have hnews : ∀ j u, ([.int .i64 (i : Int), .int .i64 (k : Int), .int .i64 (C + c'), .int .i64 0, .int .i64 9] : List Value)[j]? = some u → (w5.drew.alloc (.cells #[.int .i64 (i : Int), .int .i64 (k : Int), .int .i64 (C + c'), .int .i64 0, .int .i64 9] 61)).cell? ((⟨w5.heap.size, 0, none⟩ : Addr).add j) = some u := five_news w5.drew _ _ _ _ _ _
          have hownA : (w5.drew.alloc (.cells #[.int .i64 (i : Int), .int .i64 (k : Int), .int .i64 (C + c'), .int .i64 0, .int .i64 9] 61)).ownsRow (w2.heap.size + 1) 61 5 v D (cellsOf L) := World.ownsRow.alloc (w := w5.drew) HO.out _
          have o1A : (w5.alloc (.cells #[.int .i64 (i : Int), .int .i64 (k : Int), .int .i64 (C + c'), .int .i64 0, .int .i64 9] 61)).cell? ⟨w2.heap.size, 1, none⟩ = some v := cell_in (W := w5) ((Past.refl w5).alloc _) o1
          have HNW := Lib.hid hnews
          have HOA := Lib.hid hownA
          clear hnews hownA hgX hbX hq0 hq1 hgl hgw
          go_region_law
            ((refine step_append_any (by rfl) _ _ _ (by rfl) (w2.heap.size + 1) 61 i0 _ 5 40 Try.underlying29 hi hz0 hz1 hz2 rfl (by omega) v D (cellsOf L) (by rfl) HOA.out ⟨w5.heap.size, 0, none⟩ 1 1 (by rfl) [.int .i64 (i : Int), .int .i64 (k : Int), .int .i64 (C + c'), .int .i64 0, .int .i64 9] rfl HNW.out (cellsOf_one [⟨(i : Int), (k : Int), C + c', 0, 9⟩]) (by unfold maxLen; omega) (by omega) (by simp; omega) ?_; intro v1 w9 hown1 hgrow1 hat1; obtain ⟨gv, cv, rfl, hgv, hgw⟩ := World.ownsRow.form hown1 (by omega); obtain ⟨⟨u9, x9⟩, z9, hS9⟩ := HS.out.put (a := ⟨(i : Int), (k : Int), C + c', 0, 9⟩) (Nat.le_refl _) (((Past.refl w5).drew).alloc _) hgrow1 hown1 (by rw [HDD.out]) rfl))
          all_goals go_wp2
          all_goals go_roundw
          all_goals first | (case rel => exact ⟨k + 1, _, by omega, by go_num, by rw [HN.out]; exact hS9⟩) | (case measure => simp [intOf]; omega)
        · obtain rfl : k = n := by omega
          go_wp2
          go_roundw
          case rel => exact ⟨i + 1, v, by omega, by go_num, hS⟩
          case measure => simp [intOf]; omega
    · obtain rfl : i = n := by omega
      have hlen : (lineTo xs ts i i).length ≤ 64 := by
        have h1 := lineTo_len xs ts i i
        have h3 : i * i ≤ 8 * 8 := Nat.mul_le_mul hn88 hn88
        omega
      have HLL : Hid (lineTo xs ts i i = lineL xs ts) := by rw [Hid, lineL, HX.out]
      obtain ⟨D, hDD⟩ : ∃ D, D = (lineTo xs ts i i).length := ⟨_, rfl⟩
      obtain ⟨A2, c2, rfl, hx9, _⟩ := (show ResA wr (w2.heap.size + 1) v (lineTo xs ts i i) from hS.own).form
      have hown := hS.own
      have o0 := hS.o0
      have o1 := hS.o1
      have hpr := hp2.trans hS.past
      have e0r := cell_in hS.past e0
      have e1r := cell_in hS.past e1
      have z0r := free_in hS.past e0 z0
      have z1r := free_in hS.past e1 z1
      rw [← hDD] at hlen hown o1
      have HDD := Lib.hid hDD
      have HS := Lib.hid hS
      clear hS hDD
      go_wp2_with fail
      refine (l1Ok_any (i : Int) A2 D c2 (lineTo xs ts i i) _ (by omega) HDD.out.symm hx9).mono ?_
      rintro e w5 ⟨rfl, hb5⟩
      have o0 := cell_in hb5 o0
      have o1 := cell_in hb5 o1
      have z0r := free_in hb5 e0r z0r
      have z1r := free_in hb5 e1r z1r
      have e0r := cell_in hb5 e0r
      have e1r := cell_in hb5 e1r
      have hown := World.ownsRow.kept hown (grown_of_below hb5 none) (by cases hv : (Value.slice A2 D c2).ownBlock <;> simp)
      have hpr := hpr.trans hb5
      cases hO : netB (i : Int) (lineTo xs ts i i) with
      | false =>
        have HV : Hid (tnetB m xs ts = false) := by rw [Hid, tnet_line HT.out, HX.out, ← HLL.out]; exact hO
        clear hO
        go_wp2
        exact bodyPost_ret (v := .tuple #[.agg #[.int .i64 0, .slice none 0 0], .bool false]) (by simp [results, Try.results33, go_sem, e0r, e1r]) rfl (givesNB_no HV.out rfl (Below.setCell (Below.setCell hpr (by simp) _) (by simp) _))
      | true =>
        have HV : Hid (tnetB m xs ts = true) := by rw [Hid, tnet_line HT.out, HX.out, ← HLL.out]; exact hO
        clear hO
        go_wp2
        refine bodyPost_ret (v := .tuple #[.agg #[.int .i64 (i : Int), .slice A2 D c2], .bool true]) (by simp [results, Try.results33, go_sem, e0r, e1r]) rfl ?_
        refine givesNB_yes (lo := w2.heap.size + 1) (cs := cellsOf (lineTo xs ts i i)) HV.out HX.out.symm (by omega) D (by rw [HDD.out, HLL.out]) (by rw [HLL.out]) ?_ (Below.setCell (Below.setCell hpr (by simp) _) (by simp) _)
        exact own_far (own_far hown (fun e => own_ne hown (g := w.heap.size + 1) (by omega) e.symm) _) (fun e => own_ne hown (g := w.heap.size + 1) (by omega) e.symm) _

end Go.Proofs.Ytjocbjjkihgcdaa

namespace Go.Proofs.Ytjocbjjkihgcdaa
open Go.RowKit

/-- No guards, no select, no defer. -/
def plainB (ops : Array Oper) : Bool := ops.toList.all fun o => o.guard.isNone && (match o.op with | .select _ _ => false | .defer _ => false | _ => true)
def bindsTo (md : Region.Mode) (o : Oper) (j : Nat) : Bool := o.after.toList.any fun e => Region.binds md e && (e.on == j)
/-- Whoever reads what another one of them yields comes behind it. -/
def depB (md : Region.Mode) (ops : Array Oper) : Bool := ops.toList.all fun o => o.op.operands.toList.all fun x => match x with
  | .tmp t => (List.range ops.size).all fun j => !(((ops[j]?).bind (·.dst)) == some t) || bindsTo md o j
  | _ => true
/-- No two yield into one slot. -/
def dstB (ops : Array Oper) : Bool := (List.range ops.size).all fun i => (List.range ops.size).all fun j => (i == j) || (((ops[i]?).bind (·.dst)).isNone || !(((ops[i]?).bind (·.dst)) == ((ops[j]?).bind (·.dst))))
/-- The writers, one behind the other. -/
def chainB (md : Region.Mode) (ops : Array Oper) : List Nat → Bool
  | [] => true
  | [i] => decide (i < ops.size)
  | i :: j :: r => decide (i < ops.size) && (match ops[j]? with | some o => bindsTo md o i | none => false) && chainB md ops (j :: r)
/-- Whatever comes ahead of these, over so many edges. -/
def ahead (md : Region.Mode) (ops : Array Oper) : Nat → List Nat → List Nat
  | 0, S => S
  | k + 1, S => ahead md ops k (S ++ S.flatMap fun i => (match ops[i]? with | some o => (o.after.toList.filter (Region.binds md)).map (·.on) | none => []))
def lastB (md : Region.Mode) (ops : Array Oper) (wr : List Nat) : Bool := match wr.getLast? with
  | some z => (List.range ops.size).all fun i => wr.contains i || (ahead md ops ops.size [z]).contains i
  | none => false

section
variable {P : Program} {ops : Array Oper} {md : Region.Mode} {Q : Exit → Act → World → Prop}

def Down (md : Region.Mode) (ops : Array Oper) (d : Nat → Bool) : Prop := ∀ i o, ops[i]? = some o → d i = true → AllOn md d o.after.toList
theorem bindsTo_done {d : Nat → Bool} {o : Oper} {j : Nat} (h : bindsTo md o j = true) (ha : AllOn md d o.after.toList) : d j = true := by
  simp only [bindsTo, List.any_eq_true, Bool.and_eq_true, beq_iff_eq] at h
  obtain ⟨e, he, hb, rfl⟩ := h
  exact allOn_iff.1 ha e he hb
theorem ahead_done {d : Nat → Bool} (hd : Down md ops d) : ∀ (k : Nat) (S : List Nat), (∀ i ∈ S, d i = true) → ∀ i ∈ ahead md ops k S, d i = true
  | 0, S, h => h
  | k + 1, S, h => by
    refine ahead_done hd k _ fun i hi => ?_
    rcases List.mem_append.1 hi with hi | hi
    · exact h i hi
    · obtain ⟨j, hj, hi⟩ := List.mem_flatMap.1 hi
      cases ho : ops[j]? with
      | none => rw [ho] at hi; simp at hi
      | some o =>
        rw [ho] at hi
        obtain ⟨e, he, rfl⟩ := List.mem_map.1 hi
        obtain ⟨he, hb⟩ := List.mem_filter.1 he
        exact allOn_iff.1 (hd j o ho (h j hj)) e he hb

/-- The frame as far as it is done. -/
structure FrameTo (ops : Array Oper) (a0 A : Act) (d : Nat → Bool) (a : Act) : Prop where
  defers : a.defers = A.defers
  size : a.tmps.size = A.tmps.size
  done : ∀ (i : Nat) (o : Oper) (t : Nat), ops[i]? = some o → o.dst = some t → d i = true → a.tmps.getD t undef = A.tmps.getD t undef
  rest : ∀ t : Nat, (∀ (i : Nat) (o : Oper), ops[i]? = some o → o.dst = some t → d i = false) → a.tmps.getD t undef = a0.tmps.getD t undef

theorem getD_set_at (l : Array Value) (t : Nat) (v : Value) (h : v = undef ∨ t < l.size) : (l.setIfInBounds t v).getD t undef = v := by
  rw [Array.getD_eq_getD_getElem?, Array.getElem?_setIfInBounds]
  rw [if_pos rfl]
  by_cases ht : t < l.size
  · simp [ht]
  · rcases h with rfl | h
    · simp [ht]
    · exact absurd h ht
theorem getD_set_off (l : Array Value) (t s : Nat) (v : Value) (h : t ≠ s) : (l.setIfInBounds t v).getD s undef = l.getD s undef := by
  rw [Array.getD_eq_getD_getElem?, Array.getElem?_setIfInBounds, if_neg h, ← Array.getD_eq_getD_getElem?]

theorem FrameTo.put {a0 A a : Act} {d : Nat → Bool} (h : FrameTo ops a0 A d a) (hds : dstB ops = true) {i : Nat} {o : Oper} {v : Value} (ho : ops[i]? = some o) (hv : ∀ t, o.dst = some t → A.tmps.getD t undef = v) : FrameTo ops a0 A (upd d i) (a.put o.dst v) := by
  have two : ∀ j o' t, ops[j]? = some o' → o'.dst = some t → o.dst = some t → j = i := fun j o' t hj h1 h2 => by
    simp only [dstB, List.all_eq_true, List.mem_range, Bool.or_eq_true, beq_iff_eq, Bool.not_eq_true'] at hds
    have hi := (Array.getElem?_eq_some_iff.1 ho).1
    have hj' := (Array.getElem?_eq_some_iff.1 hj).1
    rcases hds j hj' i hi with e | e | e
    · exact e
    · rw [hj] at e; simp [h1] at e
    · rw [hj, ho] at e; simp [h1, h2] at e
  cases hdst : o.dst with
  | none =>
    refine ⟨h.defers, h.size, fun j o' t hj h1 h2 => ?_, fun t ht => h.rest t fun j o' hj h1 => ?_⟩
    · unfold upd at h2
      by_cases e : j = i
      · subst e
        rw [ho] at hj
        injection hj with hj
        subst hj
        rw [hdst] at h1
        cases h1
      · rw [if_neg e] at h2
        exact h.done j o' t hj h1 h2
    · have := ht j o' hj h1
      unfold upd at this
      split at this
      · cases this
      · exact this
  | some s =>
    have hAs := hv s hdst
    have hA : v = undef ∨ s < a.tmps.size := by
      by_cases hs : s < a.tmps.size
      · exact .inr hs
      · left
        have hge : A.tmps.size ≤ s := by rw [← h.size]; exact Nat.le_of_not_lt hs
        rw [← hAs, Array.getD_eq_getD_getElem?, Array.getElem?_eq_none hge]
        rfl
    refine ⟨h.defers, by simp [Act.put, h.size], fun j o' t hj h1 h2 => ?_, fun t ht => ?_⟩
    · by_cases e : t = s
      · subst e
        show (a.tmps.setIfInBounds t v).getD t undef = _
        rw [getD_set_at _ _ _ hA, hAs]
      · show (a.tmps.setIfInBounds s v).getD t undef = _
        rw [getD_set_off _ _ _ _ (Ne.symm e)]
        refine h.done j o' t hj h1 ?_
        unfold upd at h2
        split at h2
        · rename_i e2
          subst e2
          rw [ho] at hj
          injection hj with hj
          subst hj
          rw [hdst] at h1
          injection h1 with h1
          exact absurd h1.symm e
        · exact h2
    · have e : s ≠ t := fun e => by
        subst e
        have := ht i o ho hdst
        simp [upd] at this
      show (a.tmps.setIfInBounds s v).getD t undef = _
      rw [getD_set_off _ _ _ _ e]
      refine h.rest t fun j o' hj h1 => ?_
      have := ht j o' hj h1
      unfold upd at this
      split at this
      · cases this
      · exact this

/-- An operation, carried out at the frame as it stands at the end, yields what stands there. -/
def Yields1 (P : Program) (A : Act) (o : Oper) (w w' : World) : Prop := (execOp A.eval o).run P w = .ok (.value ((o.dst.map fun t => A.tmps.getD t undef).getD undef)) w' ∨ (o.dst = none ∧ (execOp A.eval o).run P w = .ok .skip w')
/-- What each operation does at the frame as it stands at the end: one that reads, in each world ahead of the last writer; a writer, in the world that is its own. -/
def OpAt (P : Program) (A : Act) (wr : List Nat) (ws : Nat → World) (i : Nat) (o : Oper) : Prop :=
  (i ∉ wr → ∀ s, s < wr.length → Yields1 P A o (ws s) (ws s)) ∧ (∀ k, wr[k]? = some i → Yields1 P A o (ws k) (ws (k + 1)))
theorem opAt_quiet {A : Act} {wr : List Nat} {ws : Nat → World} {i : Nat} {o : Oper} (hi : i ∉ wr) (h : ∀ s, s < wr.length → Yields1 P A o (ws s) (ws s)) : OpAt P A wr ws i o := ⟨fun _ => h, fun _ hk => absurd (List.mem_of_getElem? hk) hi⟩
theorem opAt_writer {A : Act} {wr : List Nat} {ws : Nat → World} {i : Nat} {o : Oper} (k : Nat) (hnd : wr.Nodup) (hk : wr[k]? = some i) (h : Yields1 P A o (ws k) (ws (k + 1))) : OpAt P A wr ws i o :=
  ⟨fun hn => absurd (List.mem_of_getElem? hk) hn, fun k' hk' => by
    have hpw := List.pairwise_iff_getElem.1 hnd
    obtain ⟨h1, e1⟩ := List.getElem?_eq_some_iff.1 hk'
    obtain ⟨h2, e2⟩ := List.getElem?_eq_some_iff.1 hk
    have : k' = k := by
      rcases Nat.lt_trichotomy k' k with h | h | h
      · exact absurd (e1.trans e2.symm) (hpw k' k h1 h2 h)
      · exact h
      · exact absurd (e2.trans e1.symm) (hpw k k' h2 h1 h)
    subst this
    exact h⟩

theorem yields1 {A a : Act} {o : Oper} {w w' : World} {K : Act → World → Prop} (h : Yields1 P A o w w') (hK : K (a.put o.dst ((o.dst.map fun t => A.tmps.getD t undef).getD undef)) w') : o.upon P a K Q ((execOp A.eval o).run P w) := by
  rcases h with h | ⟨hd, h⟩
  · rw [h]; exact hK
  · rw [h]
    show K (a.put o.dst undef) w'
    rw [hd] at hK ⊢
    exact hK
theorem any_chain (hb : backB ops = true) (hp : plainB ops = true) (hdep : depB md ops = true) (hds : dstB ops = true) (wr : List Nat) (hch : chainB md ops wr = true) (hla : lastB md ops wr = true) (hnd : wr.Nodup)
    (a0 A : Act) (ws : Nat → World) (hsz : a0.tmps.size = A.tmps.size) (hdf : a0.defers = A.defers) (hbase : ∀ t : Nat, (∀ (i : Nat) (o : Oper), ops[i]? = some o → o.dst ≠ some t) → a0.tmps.getD t undef = A.tmps.getD t undef)
    (hops : EachOp (OpAt P A wr ws) 0 ops.toList) : wpAny P md ops (fun e a w => e = .normal ∧ a = A ∧ w = ws wr.length) ops.size (Array.replicate ops.size false) a0 (ws 0) := by
  have hne : wr ≠ [] := fun e => by rw [e] at hla; simp [lastB] at hla
  have hlen : 0 < wr.length := List.length_pos_iff.2 hne
  have chain : ∀ (l : List Nat), chainB md ops l = true → ∀ k i j, l[k]? = some i → l[k + 1]? = some j → ∃ o, ops[j]? = some o ∧ bindsTo md o i = true := by
    intro l
    induction l with
    | nil => intro _ k i j h; simp at h
    | cons x l ih =>
      intro hc k i j h1 h2
      cases l with
      | nil => simp at h2
      | cons y l =>
        simp only [chainB, Bool.and_eq_true] at hc
        cases k with
        | zero =>
          simp at h1 h2
          subst h1 h2
          cases ho : ops[y]? with
          | none => rw [ho] at hc; simp at hc
          | some o => rw [ho] at hc; exact ⟨o, rfl, hc.1.2⟩
        | succ k => exact ih hc.2 k i j (by simpa using h1) (by simpa using h2)
  let J : (Nat → Bool) → Act → World → Prop := fun d a w => Down md ops d ∧ FrameTo ops a0 A d a ∧ ∃ s, s ≤ wr.length ∧ w = ws s ∧ ∀ k j, wr[k]? = some j → (d j = true ↔ k < s)
  have h0 : J (fun _ => false) a0 (ws 0) := ⟨fun i o _ h => (by cases h), ⟨hdf, hsz, fun i o t _ _ h => (by cases h), fun t _ => rfl⟩, 0, Nat.zero_le _, rfl, fun k j _ => by simp⟩
  refine wpAny_inv hb J ?_ ?_ _ _ _ _ (by simp) (by unfold openN; simp) ?_
  · -- a step
    have each : ∀ (i : Nat) (o : Oper), ops[i]? = some o → ∀ d a w, J d a w → d i = false → AllOn md d o.after.toList → wpList P ops (Exit.then (J (upd d i)) (fun e a w => e = .normal ∧ a = A ∧ w = ws wr.length)) [o] a w := by
      intro i o ho d a w hJ hdi hal
      obtain ⟨hdn, hfr, s, hs, rfl, hw⟩ := hJ
      have hO := eachOp_get (i := i) hops (by simpa using ho)
      rw [Nat.zero_add] at hO
      have hpl := hp
      simp only [plainB, List.all_eq_true, Bool.and_eq_true, Option.isNone_iff_eq_none] at hpl
      obtain ⟨hg, hsd⟩ := hpl o (by have := Array.mem_of_getElem? ho; simpa using this)
      have hcongr : execOp a.eval o = execOp A.eval o := by
        refine execOp_congr o (fun cs b e => by rw [e] at hsd; simp at hsd) fun x hx => ?_
        cases x with
        | tmp t =>
          show a.tmps.getD t undef = A.tmps.getD t undef
          have hd2 := hdep
          simp only [depB, List.all_eq_true] at hd2
          have h3 := hd2 o (by have := Array.mem_of_getElem? ho; simpa using this) (.tmp t) (by simpa using hx)
          simp only [List.all_eq_true, List.mem_range, Bool.or_eq_true, Bool.not_eq_true', beq_eq_false_iff_ne] at h3
          by_cases hex : ∃ (j : Nat) (o' : Oper), ops[j]? = some o' ∧ o'.dst = some t
          · obtain ⟨j, o', hj, hjt⟩ := hex
            rcases h3 j (Array.getElem?_eq_some_iff.1 hj).1 with h4 | h4
            · rw [hj] at h4; simp [hjt] at h4
            · exact hfr.done j o' t hj hjt (bindsTo_done h4 hal)
          · have h5 : ∀ (j : Nat) (o' : Oper), ops[j]? = some o' → o'.dst ≠ some t := fun j o' hj e => hex ⟨j, o', hj, e⟩
            rw [hfr.rest t (fun j o' hj e => absurd e (h5 j o' hj)), hbase t h5]
        | const v => rfl
        | global g => rfl
        | func f => rfl
      have hdn' : Down md ops (upd d i) := fun j o' hj hdj => by
        have mono : ∀ k, d k = true → upd d i k = true := fun k hk => by unfold upd; split <;> simp [hk]
        by_cases e : j = i
        · subst e
          rw [ho] at hj
          injection hj with hj
          subst hj
          exact allOn_iff.2 fun e he hb => mono _ (allOn_iff.1 hal e he hb)
        · have : d j = true := by unfold upd at hdj; rwa [if_neg e] at hdj
          exact allOn_iff.2 fun e he hb => mono _ (allOn_iff.1 (hdn j o' hj this) e he hb)
      have hv : ∀ t, o.dst = some t → A.tmps.getD t undef = (o.dst.map fun t => A.tmps.getD t undef).getD undef := fun t ht => by rw [ht]; rfl
      refine wpList_plain hg fun K hK => ?_
      unfold Oper.wp
      rw [hcongr]
      by_cases hiw : i ∈ wr
      · obtain ⟨k, hk⟩ := List.getElem?_of_mem hiw
        have hks : ¬ k < s := fun h => by rw [(hw k i hk).2 h] at hdi; cases hdi
        have hkl : k < wr.length := (List.getElem?_eq_some_iff.1 hk).1
        have hsk : s = k := by
          rcases Nat.lt_or_ge s k with h | h
          · exfalso
            obtain ⟨i', hi'⟩ : ∃ i', wr[k - 1]? = some i' := ⟨_, List.getElem?_eq_getElem (by omega)⟩
            obtain ⟨o', ho', hbi⟩ := chain wr hch (k - 1) i' i hi' (by rw [show k - 1 + 1 = k by omega]; exact hk)
            rw [ho] at ho'
            injection ho' with ho'
            subst ho'
            have := (hw (k - 1) i' hi').1 (bindsTo_done hbi hal)
            omega
          · omega
        subst hsk
        refine yields1 (hO.2 s hk) (hK _ _ ⟨hdn', hfr.put hds ho hv, s + 1, hkl, rfl, fun k' j hj => ?_⟩)
        unfold upd
        split
        · rename_i e
          subst e
          have : k' = s := by
            have hpw := List.pairwise_iff_getElem.1 hnd
            obtain ⟨h1, e1⟩ := List.getElem?_eq_some_iff.1 hj
            obtain ⟨h2, e2⟩ := List.getElem?_eq_some_iff.1 hk
            rcases Nat.lt_trichotomy k' s with h | h | h
            · exact absurd (e1.trans e2.symm) (hpw k' s h1 h2 h)
            · exact h
            · exact absurd (e2.trans e1.symm) (hpw s k' h2 h1 h)
          simp
          omega
        · rename_i e
          rw [hw k' j hj]
          have : k' ≠ s := fun e2 => by subst e2; rw [hk] at hj; injection hj with hj; exact e hj.symm
          omega
      · have hsl : s < wr.length := by
          rcases Nat.lt_or_ge s wr.length with h | h
          · exact h
          · exfalso
            have hlast : wr.getLast? = some (wr.getLast hne) := List.getLast?_eq_some_getLast hne
            simp only [lastB, hlast, List.all_eq_true, List.mem_range, Bool.or_eq_true] at hla
            have hz : d (wr.getLast hne) = true := (hw (wr.length - 1) _ (by rw [List.getElem?_eq_getElem (by omega), List.getLast_eq_getElem])).2 (by omega)
            rcases hla i (Array.getElem?_eq_some_iff.1 ho).1 with h1 | h1
            · exact hiw (by simpa using h1)
            · have := ahead_done hdn ops.size [wr.getLast hne] (fun i hi => by simp at hi; subst hi; exact hz) i (by simpa using h1)
              rw [hdi] at this
              cases this
        refine yields1 (hO.1 hiw s hsl) (hK _ _ ⟨hdn', hfr.put hds ho hv, s, hs, rfl, fun k' j hj => ?_⟩)
        unfold upd
        split
        · rename_i e
          subst e
          exact absurd (List.mem_of_getElem? hj) hiw
        · exact hw k' j hj
    have go : ∀ (l : List Oper) (k : Nat), (∀ i o, l[i]? = some o → ops[k + i]? = some o) → EachOp (fun i o => ∀ d a w, J d a w → d i = false → AllOn md d o.after.toList → wpList P ops (Exit.then (J (upd d i)) (fun e a w => e = .normal ∧ a = A ∧ w = ws wr.length)) [o] a w) k l := by
      intro l
      induction l with
      | nil => intro k _; trivial
      | cons o l ih =>
        intro k h
        refine ⟨each k o (by have := h 0 o rfl; simpa using this), ih (k + 1) fun i o' hi => ?_⟩
        have := h (i + 1) o' (by simpa using hi)
        rw [show k + 1 + i = k + (i + 1) by omega]
        exact this
    exact go ops.toList 0 (fun i o h => by simpa using h)
  · -- the end
    intro d a w hall hJ
    obtain ⟨_, hfr, s, hs, rfl, hw⟩ := hJ
    refine ⟨rfl, ?_, ?_⟩
    · have he : ∀ t, a.tmps.getD t undef = A.tmps.getD t undef := fun t => by
        by_cases hex : ∃ (j : Nat) (o' : Oper), ops[j]? = some o' ∧ o'.dst = some t
        · obtain ⟨j, o', hj, hjt⟩ := hex
          exact hfr.done j o' t hj hjt (hall j (Array.getElem?_eq_some_iff.1 hj).1)
        · have h5 : ∀ (j : Nat) (o' : Oper), ops[j]? = some o' → o'.dst ≠ some t := fun j o' hj e => hex ⟨j, o', hj, e⟩
          rw [hfr.rest t (fun j o' hj e => absurd e (h5 j o' hj)), hbase t h5]
      have ht : a.tmps = A.tmps := by
        apply Array.ext hfr.size
        intro i h1 h2
        have := he i
        rw [Array.getD_eq_getD_getElem?, Array.getD_eq_getD_getElem?, Array.getElem?_eq_getElem h1, Array.getElem?_eq_getElem h2] at this
        exact this
      have hd := hfr.defers
      cases a
      cases A
      simp only at ht hd
      rw [ht, hd]
    · have : s = wr.length := by
        rcases Nat.lt_or_ge s wr.length with h | h
        · exfalso
          obtain ⟨j, hj⟩ : ∃ j, wr[s]? = some j := ⟨_, List.getElem?_eq_getElem h⟩
          have hjs : j < ops.size := by
            have mem : ∀ (l : List Nat), chainB md ops l = true → ∀ j ∈ l, j < ops.size := by
              intro l
              induction l with
              | nil => intro _ j h; simp at h
              | cons x l ih =>
                intro hc j hj
                cases l with
                | nil => simp [chainB] at hc; simp at hj; omega
                | cons y l =>
                  simp only [chainB, Bool.and_eq_true, decide_eq_true_eq] at hc
                  rcases List.mem_cons.1 hj with rfl | hj
                  · exact hc.1.1
                  · exact ih hc.2 j hj
            exact mem wr hch j (List.mem_of_getElem? hj)
          have := (hw s j hj).1 (hall j hjs)
          omega
        · omega
      rw [this]
  · have : (fun j => (Array.replicate ops.size false).getD j false) = fun _ => false := by
      funext j
      rw [Array.getD_eq_getD_getElem?, Array.getElem?_replicate]
      split <;> rfl
    rw [this]
    exact h0

/-- A region in a round of a loop over an iterator: as everywhere, where nothing is deferred. -/
theorem callsIn_round {n l : Nat} {f : FuncId} {args : Array Value} {w : World} {R : Ending → World → Prop} (h : Calls P f args w R) : CallsIn (Fence.wide.inRound l) n P f args w R := CallsIn.inRound l (callsIn_wide.2 h)
theorem rowsIn_round {n l : Nat} {row : String} {args : Array Value} {w : World} {R : Value → World → Prop} (h : Rows P row args w R) : RowsIn (Fence.wide.inRound l) n P row args w R := fun c cs _ => by
  obtain ⟨v, w', r, s⟩ := h c cs
  exact ⟨v, w', r, stepsIn_wide.2 s⟩
theorem oper_round {n l : Nat} {o : Oper} {a : Act} {w : World} {K : Act → World → Prop} (hd : ∀ c, o.op ≠ .defer c) (h : o.wp P a w K Q) : o.wpIn (Fence.wide.inRound l) n P a w K Q := by
  refine ⟨fun _ _ => trivial, ?_⟩
  rw [Oper.semAt_plain _ _ _ hd]
  unfold Oper.wp at h
  generalize (execOp a.eval o).run P w = r at h ⊢
  cases r with
  | ok x w' =>
    cases x <;> simp only [Oper.upon, Oper.uponIn] at h ⊢ <;>
      first
        | exact h
        | exact ⟨fun e => by simp [Fence.wide] at e, callsIn_round h⟩
        | exact ⟨fun e => by simp [Fence.wide] at e, rowsIn_round h⟩
  | halt x w' => cases x <;> simp only [Oper.upon, Oper.uponIn] at h ⊢ <;> exact h
theorem any_round' {n l : Nat} (hd : ∀ (i : Nat) (o : Oper), ops[i]? = some o → ∀ c, o.op ≠ .defer c) (hno : ¬ LetsOut Q) : ∀ (fuel : Nat) (listed : Array Bool) (a : Act) (w : World), wpAny P md ops Q fuel listed a w → wpAnyIn (Fence.wide.inRound l) n P md ops Q fuel listed a w
  | 0, _, _, _, h => h
  | fuel + 1, listed, a, w, h => by
    refine ⟨h.1, fun i hi => ?_⟩
    have h1 := h.2 i hi
    have next := fun a' w' => any_round' (n := n) (l := l) hd hno fuel (listed.setIfInBounds i true) a' w'
    unfold wpOp at h1
    unfold wpOpIn
    split
    · rename_i ho
      simp only [ho] at h1
      exact next _ _ h1
    · rename_i o ho
      simp only [ho] at h1
      split
      · rename_i hw
        simp only [hw, if_true] at h1
        rcases h1 with h1 | h1
        · exact oper_round (hd i o ho) (Oper.wp_mono next h1)
        · exact absurd h1.2 hno
      · rename_i hw
        simp only [hw] at h1
        exact ⟨fun _ _ => trivial, next _ _ h1⟩

/-- The region whose writers come one behind the other, as everywhere. -/
theorem wp_region_chain {id : Nat} {l : List Oper} {a0 : Act} {w : World} (hm : P.follows .mixedOrders = true) (wr : List Nat) (A : Act) (ws : Nat → World) (hw0 : ws 0 = w.drew)
    (hst : (backB l.toArray && (plainB l.toArray && (depB .any l.toArray && (dstB l.toArray && (chainB .any l.toArray wr && lastB .any l.toArray wr))))) = true) (hnd : wr.Nodup)
    (hsz : a0.tmps.size = A.tmps.size) (hdf : a0.defers = A.defers) (hbase : ∀ t : Nat, (∀ (i : Nat) (o : Oper), l.toArray[i]? = some o → o.dst ≠ some t) → a0.tmps.getD t undef = A.tmps.getD t undef)
    (hops : EachOp (OpAt P A wr ws) 0 l) (hQ : Q .normal A (ws wr.length)) : (Code.region id l.toArray true).wp P Q a0 w := by
  simp only [Bool.and_eq_true] at hst
  obtain ⟨h1, h2, h3, h4, h5, h6⟩ := hst
  have h := any_chain (md := .any) h1 h2 h3 h4 wr h5 h6 hnd a0 A ws hsz hdf hbase hops
  rw [hw0] at h
  exact wp_mono (wp_region_any hm h) (fun e a' w' ⟨e1, e2, e3⟩ => by subst e1 e2 e3; exact hQ)
/-- .. in a round. -/
theorem wpIn_region_chain {n id ld : Nat} {l : List Oper} {a0 : Act} {w : World} (hm : P.follows .mixedOrders = true) (wr : List Nat) (A : Act) (ws : Nat → World) (hw0 : ws 0 = w.drew)
    (hst : (backB l.toArray && (plainB l.toArray && (depB .any l.toArray && (dstB l.toArray && (chainB .any l.toArray wr && lastB .any l.toArray wr))))) = true) (hnd : wr.Nodup)
    (hsz : a0.tmps.size = A.tmps.size) (hdf : a0.defers = A.defers) (hbase : ∀ t : Nat, (∀ (i : Nat) (o : Oper), l.toArray[i]? = some o → o.dst ≠ some t) → a0.tmps.getD t undef = A.tmps.getD t undef)
    (hops : EachOp (OpAt P A wr ws) 0 l) (hQ : Q .normal A (ws wr.length)) : (Code.region id l.toArray true).wpIn (Fence.wide.inRound ld) n P Q a0 w := by
  simp only [Bool.and_eq_true] at hst
  obtain ⟨h1, h2, h3, h4, h5, h6⟩ := hst
  have h := any_chain (md := .any) h1 h2 h3 h4 wr h5 h6 hnd a0 A ws hsz hdf hbase hops
  rw [hw0] at h
  have hd : ∀ (i : Nat) (o : Oper), l.toArray[i]? = some o → ∀ c, o.op ≠ .defer c := fun i o ho c e => by
    simp only [plainB, List.all_eq_true, Bool.and_eq_true] at h2
    have := (h2 o (by have := Array.mem_of_getElem? ho; simpa using this)).2
    rw [e] at this
    simp at this
  have hno : ¬ LetsOut (fun e a' w' => e = .normal ∧ a' = A ∧ w' = ws wr.length) := fun ⟨_, _, e, _⟩ => by cases e
  exact wpIn_mono (wpIn_region_any hm (any_round' hd hno _ _ _ _ h)) (fun e a' w' ⟨e1, e2, e3⟩ => by subst e1 e2 e3; exact hQ)
end

end Go.Proofs.Ytjocbjjkihgcdaa

namespace Go.Proofs.Ytjocbjjkihgcdaa
open Go.RowKit Go.Shelf Go.Maps

attribute [local go_sem] Oper.semAt_some

/-- The line net, in new memory. -/
def LineG (w : World) (n : Nat) (xs : List ArcD) (ts : List TurnD) (e : Ending) (w' : World) : Prop :=
  ∃ v, e = .returned (.agg #[.int .i64 (n : Int), v]) ∧ ResA w' w.heap.size v (lineL xs ts) ∧ Below w.heap.size w w'

/-- The frame between two rounds. -/
def nFrame (V X : Nat) (m : Int) (A : Option Addr) (n c : Nat) (B : Option Addr) (l cb P i : Nat) (u : Nat → Value) (ds : List Deferred) : Act :=
  { tmps := (.agg #[.int .i64 m, .slice A n c] :: .slice B l cb :: .pointer (some ⟨V, 0, none⟩) :: undef :: .pointer (some ⟨V + 1, 0, none⟩) :: .pointer (some ⟨X, 0, none⟩) :: .pointer (some ⟨X + 1, 0, none⟩) :: u 7 :: u 8 :: u 9 :: u 10 :: .slice B l cb :: .map (some P) :: .pointer (some ⟨V, 1, none⟩) :: .slice A n c :: .int .i64 (n : Int) :: .agg #[.int .i64 (n : Int), .slice none 0 0] :: .pointer (some ⟨V, 1, none⟩) :: .slice A n c :: .int .i64 (n : Int) :: .int .i64 (i : Int) :: u 21 :: u 22 :: u 23 :: u 24 :: u 25 :: u 26 :: u 27 :: u 28 :: u 29 :: u 30 :: u 31 :: u 32 :: u 33 :: u 34 :: u 35 :: u 36 :: u 37 :: u 38 :: u 39 :: u 40 :: u 41 :: u 42 :: u 43 :: u 44 :: u 45 :: u 46 :: u 47 :: u 48 :: u 49 :: u 50 :: u 51 :: u 52 :: u 53 :: undef :: []).toArray, defers := ds }
theorem nFrame_mk {V X : Nat} {m : Int} {A : Option Addr} {n c : Nat} {B : Option Addr} {l cb P i : Nat} (t : Array Value) (ds : List Deferred) (h : t = (nFrame V X m A n c B l cb P i (fun i => t.getD i undef) ds).tmps) : ∃ u, (Act.mk t ds) = nFrame V X m A n c B l cb P i u ds :=
  ⟨fun i => t.getD i undef, by rw [nFrame]; congr 1⟩

/-- What comes of the arcs that an iterator has told so far. -/
def rowP (xs : List ArcD) (ts : List TurnD) (i : Nat) (p : List Int) : List ArcD := p.flatMap fun y => lineArc xs ts i y.toNat
theorem rowP_snoc (xs : List ArcD) (ts : List TurnD) (i : Nat) (p : List Int) (y : Int) : rowP xs ts i (p ++ [y]) = rowP xs ts i p ++ lineArc xs ts i y.toNat := by simp [rowP]
theorem rowP_all {xs : List ArcD} (ts : List TurnD) {i : Nat} {a : ArcD} (ha : xs[i]? = some a) : ∀ n, n ≤ xs.length → rowP xs ts i (outTo xs a.t n) = rowL xs ts i n
  | 0, _ => rfl
  | n + 1, hn => by
    have ih := rowP_all ts ha n (by omega)
    obtain ⟨b, hb⟩ : ∃ b, xs[n]? = some b := ⟨_, List.getElem?_eq_getElem (by omega)⟩
    rw [rowL, ← ih]
    cases he : (b.f == a.t) with
    | true => rw [outTo_hit hb he, rowP_snoc]; simp
    | false => rw [outTo_miss hb he, lineArc_turn ha hb (by simp at he; exact fun e => he e.symm), List.append_nil]
theorem rowP_len (xs : List ArcD) (ts : List TurnD) (i : Nat) : ∀ p : List Int, (rowP xs ts i p).length ≤ p.length
  | [] => by simp [rowP]
  | y :: p => by
    have h1 := rowP_len xs ts i p
    have h2 := lineArc_len xs ts i y.toNat
    simp only [rowP, List.flatMap_cons, List.length_append, List.length_cons] at *
    omega

/-- What holds between two rounds. -/
def LnLoop (w w1 : World) (m : Int) (A : Option Addr) (n c : Nat) (xs : List ArcD) (B : Option Addr) (l cb : Nat) (ts : List TurnD) (P : Nat) (q : Nat) (a : Act) (wr : World) : Prop :=
  ∃ (i : Nat) (v : Value) (rs : List Nat), i ≤ n ∧ n - i ≤ q ∧ (∃ u, a = nFrame w.heap.size w1.heap.size m A n c B l cb P i u (rs.map mkD)) ∧ LSt (w1.heap.size + 1) w1 wr n v (lineTo xs ts n i) ∧
    wr.cell? ⟨w1.heap.size, 0, none⟩ = some (.map (some P)) ∧ (∀ r ∈ rs, wr.heap[r]? = some (.deferred (some []))) ∧ rs.Nodup ∧ (∀ r ∈ rs, w1.heap.size + 2 ≤ r)
/-- What holds between two rounds of the inner loop; Y: the box of the arc's number. -/
structure LnIn (w1 W : World) (X Y n : Nat) (i : Nat) (P : Nat) (rs : List Nat) (v : Value) (L : List ArcD) : Prop where
  st : LSt (X + 1) w1 W n v L
  costs : W.cell? ⟨X, 0, none⟩ = some (.map (some P))
  num : W.cell? ⟨Y, 0, none⟩ = some (.int .i64 (i : Int))
  defs : ∀ r ∈ rs, W.heap[r]? = some (.deferred (some []))
  off : ∀ b, v.ownBlock = some b → b < Y ∨ Y + 4 ≤ b
  base : Y + 4 ≤ W.heap.size

section
variable {w1 W W' : World} {X Y n i P : Nat} {rs : List Nat} {v : Value} {L : List ArcD}
theorem LnIn.turn {row : Option Nat} (h : LnIn w1 W X Y n i P rs v L) (hXY : w1.heap.size ≤ Y) (hrs : ∀ r ∈ rs, r < Y + 4) (hg : W.grownBy W' row) (hr : ∀ r, row = some r → Y + 4 ≤ r ∧ ∃ o : Obj, W.heap[r]? = some o ∧ o.isCells = false) : LnIn w1 W' X Y n i P rs v L := by
  have no : ∀ x cs t f, W.heap[x]? = some (.cells cs t f) → some x ≠ row := fun x cs t f hx e => by
    obtain ⟨_, o, ho, hc⟩ := hr x e.symm
    rw [hx] at ho
    injection ho with ho
    rw [← ho] at hc
    cases hc
  refine ⟨⟨cell_kept h.st.o0 hg (fun r e => (hr r e).2), cell_kept h.st.o1 hg (fun r e => (hr r e).2), ?_, ?_, Below.grown h.st.past hg h.st.past.size (fun r e => by have := (hr r e).1; omega)⟩, cell_kept h.costs hg (fun r e => (hr r e).2), cell_kept h.num hg (fun r e => (hr r e).2), fun r hr' => ?_, h.off, Nat.le_trans h.base hg.size⟩
  · obtain ⟨cs, hcs, hl⟩ := h.st.row
    exact h.st.row.keep (hg.block _ h.st.row.lt (no _ _ _ _ hcs))
  · refine World.ownsRow.kept h.st.own hg ?_
    cases hv : v.ownBlock with
    | none => simp
    | some b =>
      obtain ⟨cs, hcs⟩ := cells_of_own h.st.own hv
      exact .inr (no _ _ _ _ hcs)
  · have hd := h.defs r hr'
    rw [hg.block r (Array.getElem?_eq_some_iff.1 hd).1 (fun e => by have := (hr r e.symm).1; have := hrs r hr'; omega)]
    exact hd
end

/-- One arc more. -/
theorem LnIn.fill {w1 W : World} {X Y n i P : Nat} {rs : List Nat} {v : Value} {L : List ArcD} (h : LnIn w1 W X Y n i P rs v L) (a : ArcD) (n0 : Nat) (hn0 : n0 ≤ X + 1) (hL : L.length ≤ 1000) (hX : w1.heap.size ≤ X) (hXY : X + 1 < Y) (hrs : ∀ r ∈ rs, X + 2 ≤ r) :
    ∃ v1 w9, (Builtin.append_ #[29, 29] 29 #[v, .slice (some ⟨W.heap.size, 0, none⟩) 1 1]).run Try.prog (W.drew.alloc (.cells #[.int .i64 a.f, .int .i64 a.t, .int .i64 a.c, .int .i64 a.l, .int .i64 a.d] 61)) = .ok v1 w9 ∧
      (∃ A2 k c2, v1 = .slice A2 k c2) ∧ (∀ p u, p.block < X + 2 ∨ (Y ≤ p.block ∧ p.block < Y + 4) → W.cell? p = some u → w9.cell? p = some u) ∧
      (∃ u, w9.cell? ⟨X + 1, 1, none⟩ = some u) ∧ w9.frozen? ⟨X + 1, 1, none⟩ = false ∧ LnIn w1 (w9.setCell ⟨X + 1, 1, none⟩ v1) X Y n i P rs v1 (L ++ [a]) ∧
      KeepsFrom (Y + 4) W (w9.setCell ⟨X + 1, 1, none⟩ v1) ∧ (∀ k, k < X + 1 ∨ (Y ≤ k ∧ k < Y + 4) → (w9.setCell ⟨X + 1, 1, none⟩ v1).heap[k]? = W.heap[k]?) ∧ Below n0 W (w9.setCell ⟨X + 1, 1, none⟩ v1) := by
  obtain ⟨i0, hi, hz0, hz1, hz2⟩ := info_parts infoArc
  have hown := h.st.own
  have hsz := h.base
  have hownA : (W.drew.alloc (.cells #[.int .i64 a.f, .int .i64 a.t, .int .i64 a.c, .int .i64 a.l, .int .i64 a.d] 61)).ownsRow (X + 1 + 1) 61 5 v L.length (cellsOf L) := World.ownsRow.alloc (w := W.drew) hown _
  obtain ⟨v1, w9, hr, h2, h3, _, h5⟩ := run_append_own_at (P := Try.prog) (W.drew.alloc (.cells #[.int .i64 a.f, .int .i64 a.t, .int .i64 a.c, .int .i64 a.l, .int .i64 a.d] 61)) (X + 1 + 1) 29 29 61 i0 _ 5 40 Try.underlying29 hi hz0 hz1 hz2 rfl (by omega) v L.length (cellsOf L) hownA ⟨W.heap.size, 0, none⟩ 1 1 [.int .i64 a.f, .int .i64 a.t, .int .i64 a.c, .int .i64 a.l, .int .i64 a.d] rfl (five_news W.drew _ _ _ _ _ _) (cellsOf_one [a]) (by unfold maxLen; omega) (by omega) (by simp; omega)
  obtain ⟨u9, z9, hS9⟩ := h.st.put (a := a) (wa := W.drew.alloc (.cells #[.int .i64 a.f, .int .i64 a.t, .int .i64 a.c, .int .i64 a.l, .int .i64 a.d] 61)) (by omega) (((Past.refl W).drew).alloc _) h3 h2 rfl rfl
  have hs1 : (W.drew.alloc (.cells #[.int .i64 a.f, .int .i64 a.t, .int .i64 a.c, .int .i64 a.l, .int .i64 a.d] 61)).heap.size = W.heap.size + 1 := by simp
  have off : ∀ k, k < X + 2 ∨ (Y ≤ k ∧ k < Y + 4) → some k ≠ v.ownBlock := fun k hk e => by
    rcases hk with hk | hk
    · exact own_ne hown (g := k) (by omega) e
    · have := h.off k e.symm; omega
  have old : ∀ k, k < W.heap.size → (W.drew.alloc (.cells #[.int .i64 a.f, .int .i64 a.t, .int .i64 a.c, .int .i64 a.l, .int .i64 a.d] 61)).heap[k]? = W.heap[k]? := fun k hk => Below.heap_alloc W.drew _ k hk
  have hX1 : X + 1 < W.heap.size := by omega
  have far : ∀ p u, p.block < X + 2 ∨ (Y ≤ p.block ∧ p.block < Y + 4) → W.cell? p = some u → w9.cell? p = some u := fun p u hp hc => h3.cell (cell_in (((Past.refl W).drew).alloc _) hc) (off _ hp)
  have h9 : ∀ k, k < W.heap.size → some k ≠ v.ownBlock → k ≠ X + 1 → (w9.setCell ⟨X + 1, 1, none⟩ v1).heap[k]? = W.heap[k]? := fun k hk hne hx => (Below.heap_setCell _ _ _ _ hx).trans ((h3.block k (by omega) hne).trans (old k hk))
  have hsz9 : W.heap.size ≤ (w9.setCell ⟨X + 1, 1, none⟩ v1).heap.size := by have := h3.size; rw [hs1] at this; simp; omega
  refine ⟨v1, w9, hr, ?_, far, u9, z9, ⟨hS9, ?_, ?_, fun r hr' => ?_, fun b e => ?_, by omega⟩, ⟨hsz9, fun k o hk ho hc => ?_⟩, fun k hk => h9 k (by omega) (off k (by omega)) (by omega), ?_⟩
  · obtain ⟨g, c, e, _⟩ := World.ownsRow.form h2 (by omega)
    exact ⟨_, _, _, e⟩
  · exact (World.cell?_setCell_other _ _ _ _ (by simp)).trans (far _ _ (.inl (by simp)) h.costs)
  · exact (World.cell?_setCell_other _ _ _ _ (by intro e; injection e; omega)).trans (far _ _ (.inr (by simp)) h.num)
  · have hd := h.defs r hr'
    refine (h9 r (Array.getElem?_eq_some_iff.1 hd).1 (fun e => ?_) (by have := hrs r hr'; omega)).trans hd
    obtain ⟨cs, hcs⟩ := cells_of_own hown e.symm
    rw [hcs] at hd
    cases hd
  · rcases h5 with e5 | e5
    · exact h.off b (e5.symm.trans e)
    · rw [e5] at e
      injection e with e
      omega
  · refine (h9 k (Array.getElem?_eq_some_iff.1 ho).1 (fun e => ?_) (by omega)).trans ho
    obtain ⟨cs, hcs⟩ := cells_of_own hown e.symm
    rw [hcs] at ho
    injection ho with ho
    rw [← ho] at hc
    cases hc
  · refine Below.setCell (Below.grown (Below.alloc (Below.drew (Below.refl n0 W)) (by simp; omega) _) h3 (by rw [hs1]; omega) (fun b e => by have := (hown.lt b e).1; omega)) (by simpa using hn0) _

set_option maxRecDepth 1000000 in
set_option maxHeartbeats 4000000 in
theorem line_in (m : Int) (A : Option Addr) (n c : Nat) (xs : List ArcD) (B : Option Addr) (l cb : Nat) (ts : List TurnD) (w : World) (hn : n ≤ 16) (hnx : xs.length = n) (hx : ArcsAt w A xs) (hl : l ≤ 1048576) (hlt : ts.length = l) (ht : TurnsAt w B ts) (hT : turnsB m xs ts = true) :
    CallsIn Fence.wide 4 Try.prog 64 #[.agg #[.int .i64 m, .slice A n c], .slice B l cb] w (LineG w n xs ts) := by
  have HX := Lib.hid hnx
  have HL := Lib.hid hlt
  have HT := Lib.hid hT
  clear hnx hlt hT
  have hb0 : Past w ((w.alloc (.cells #[.int .i64 m, .slice A n c] 31)).alloc (.cells #[.int .i64 0, .slice none 0 0] 31)) := ((Past.refl _).alloc _).alloc _
  have h16 : xs.length ≤ 16 := by rw [HX.out]; exact hn
  refine callsIn_of_wp_marks Try.func64 rfl trivial ?_ rfl
  simp only [Try.ntmps64, List.size_toArray, List.length_cons, List.length_nil, Nat.reduceAdd, Nat.reduceSub, Array.replicate_succ, Array.replicate_zero, List.push_toArray, List.append_toArray, List.nil_append, List.cons_append]
  gi_wp2_with fail
  refine ⟨trivial, ?_⟩
  refine (callsIn_wide.2 (turnCosts_any B l cb ts _ hl HL.out (ht.below hb0) (fun t hm => turn_wf h16 (List.all_eq_true.1 (turnsB_all HT.out).2.2.1 t hm)))).mono ?_
  rintro e w1 ⟨P, D, rfl, hown, hM, hb1⟩
  have b0 := cell_in (p := ⟨w.heap.size, 0, none⟩) (v := .int .i64 m) hb1 (by go_simp)
  have b1 := cell_in (p := ⟨w.heap.size, 1, none⟩) (v := .slice A n c) hb1 (by go_simp)
  have e0 := cell_in (p := ⟨w.heap.size + 1, 0, none⟩) (v := .int .i64 0) hb1 (by go_simp)
  have e1 := cell_in (p := ⟨w.heap.size + 1, 1, none⟩) (v := .slice none 0 0) hb1 (by go_simp)
  have hrc0 : RowN w1 (w.heap.size + 1) 31 2 := by
    refine RowN.keep (w := ((w.alloc (.cells #[.int .i64 m, .slice A n c] 31)).alloc (.cells #[.int .i64 0, .slice none 0 0] 31))) ⟨#[.int .i64 0, .slice none 0 0], ?_, rfl⟩ (hb1.block _ (by simp))
    have := heap_alloc_new (w.alloc (.cells #[.int .i64 m, .slice A n c] 31)) (.cells #[.int .i64 0, .slice none 0 0] 31)
    simpa using this
  have hp1 := hb0.trans hb1
  have HD := Lib.hid hM.vals
  clear hM hb0 hb1 h16
  have b1A := fun (o : Obj) => cell_in ((Past.refl w1).alloc o) b1
  have b1B := fun (o o' : Obj) => cell_in (((Past.refl w1).alloc o).alloc o') b1
  gi_wp2_with fail
  have hst0 : LSt (w1.heap.size + 1) w1 ((w1.alloc (.cells #[.map (some P)] 74)).alloc (.cells #[.int .i64 (n : Int), .slice none 0 0] 31)) n (.slice none 0 0) (lineTo xs ts n 0) := by
    refine ⟨by go_simp, by go_simp, ⟨_, by have := heap_alloc_new (w1.alloc (.cells #[.map (some P)] 74)) (.cells #[.int .i64 (n : Int), .slice none 0 0] 31); simpa using this, rfl⟩, World.ownsRow_nil _ _ _ _, ((Past.refl w1).alloc _).alloc _⟩
  have hc0 : ((w1.alloc (.cells #[.map (some P)] 74)).alloc (.cells #[.int .i64 (n : Int), .slice none 0 0] 31)).cell? ⟨w1.heap.size, 0, none⟩ = some (.map (some P)) := by go_simp
  refine wpIn_loop_ghost_k (LnLoop w w1 m A n c xs B l cb ts P) n ⟨0, .slice none 0 0, [], Nat.zero_le _, by omega, nFrame_mk _ _ (by rfl), hst0, hc0, by simp, List.nodup_nil, by simp⟩ ?_
  clear hst0 hc0 b1A b1B
  rintro q a wr ⟨i, v, rs, hin, hiq, ⟨u, rfl⟩, hS, hcb, hdf, hnd, hsi⟩ J K hJ hK
  simp only [nFrame]
  have b0r := cell_in hS.past b0
  have b1r := cell_in hS.past b1
  by_cases hlt : i < n
  · obtain ⟨⟨f, t, ca, la, da⟩, ha⟩ : ∃ a, xs[i]? = some a := ⟨_, List.getElem?_eq_getElem (by have := HX.out; omega)⟩
    obtain ⟨g, o, rfl, c0, c1, c2, c3, c4⟩ := ((hx.below hp1).below hS.past) i _ ha
    have HA := Lib.hid ha
    have i0 : (0 : Int) ≤ (i : Int) := by omega
    have i1 : (i : Int) < (n : Int) := by omega
    have b1A := fun (o : Obj) => cell_in ((Past.refl wr).alloc o) b1r
    have b1B := fun (o o' : Obj) => cell_in (((Past.refl wr).alloc o).alloc o') b1r
    have b0B := fun (o o' : Obj) => cell_in (((Past.refl wr).alloc o).alloc o') b0r
    clear ha
    gi_wp2_with fail
    refine ⟨trivial, ?_⟩
    refine (callsIn_wide.2 (arcsFrom_any m t (some ⟨g, o, none⟩) n c _)).mono ?_
    rintro e w5 ⟨rfl, hw5⟩
    clear b1A b1B b0B c0 c1 c2 c3 c4
    have hs5 : w5.heap.size = wr.heap.size + 4 := by rw [hw5]; simp
    have hp5 : Past wr w5 := by rw [hw5]; exact ((((Past.refl _).alloc _).alloc _).alloc _).alloc _
    have hnum : w5.cell? ⟨wr.heap.size, 0, none⟩ = some (.int .i64 (i : Int)) := by rw [hw5]; go_simp
    have hS5 := hS.later hp5
    have hcb5 := cell_in hp5 hcb
    have hdf5 : ∀ r ∈ rs, w5.heap[r]? = some (.deferred (some [])) := fun r hr => (hp5.block r (Array.getElem?_eq_some_iff.1 (hdf r hr)).1).trans (hdf r hr)
    have hC : ArcsC (wr.heap.size + 1 + 1) (wr.heap.size + 1 + 1 + 1) m t (some ⟨g, o, none⟩) n c xs w5 := ⟨by rw [hw5]; go_simp, by rw [hw5]; go_simp, by rw [hw5]; go_simp, ((hx.below hp1).below hS.past).below hp5⟩
    simp only [World.size_alloc]
    clear hw5
    gi_wp2_with fail
    have hrs : ∀ r ∈ rs, r < wr.heap.size + 4 := fun r hr => by have := (Array.getElem?_eq_some_iff.1 (hdf r hr)).1; omega
    have hXr : w1.heap.size + 1 < wr.heap.size := hS.row.lt
    have hw0 := hp1.size
    have hI0 : LnIn w1 w5 w1.heap.size wr.heap.size n i P rs v (lineTo xs ts n i) := ⟨hS5, hcb5, hnum, hdf5, fun b e => .inl (hS.own.lt b e).2, by omega⟩
    refine wpIn_rangeFunc_ownG rfl (by omega) (gf := 89) (lb := #[.pointer (some ⟨wr.heap.size + 1 + 1, 0, none⟩), .pointer (some ⟨wr.heap.size + 1 + 1 + 1, 0, none⟩)]) rfl trivial (enters_of Try.func89 (by kernel_rfl) rfl)
      (arcsK_stops Fence.wide 3 trivial rfl (by omega) (wr.heap.size + 1 + 1) (wr.heap.size + 1 + 1 + 1) w.heap.size m t (some ⟨g, o, none⟩) n c xs HX.out (by omega) w hx (Nat.le_refl _) w5 hC)
      (fun h k => h.trans k) (fun W l o o' hl ho hc hw => ⟨belowK_b (w := w5) (by omega) W l o o' hl ho hc hw, World.putObj_heap_other (by omega), World.putObj_heap_other (by omega)⟩) (Below.refl _ _) (fun _ => rfl)
      (fun pre W => ∃ v, LnIn w1 W w1.heap.size wr.heap.size n i P rs v (lineTo xs ts n i ++ rowP xs ts i (nums pre)))
      (fun _ _ _ => False)
      (fun pre A B row hs hg hr => by
        obtain ⟨v, h⟩ := hs
        exact ⟨v, h.turn (by omega) hrs hg (fun r e => by have := hr r e; rw [hs5] at this; exact this)⟩)
      (fun _ _ _ _ _ hs _ _ => hs)
      ⟨v, by simpa [nums, rowP] using hI0⟩
      (fun x => { tmps := (.agg #[.int .i64 m, .slice (some ⟨g, o, none⟩) n c] :: .slice B l cb :: .pointer (some ⟨w.heap.size, 0, none⟩) :: undef :: .pointer (some ⟨w.heap.size + 1, 0, none⟩) :: .pointer (some ⟨w1.heap.size, 0, none⟩) :: .pointer (some ⟨w1.heap.size + 1, 0, none⟩) :: .pointer (some ⟨wr.heap.size, 0, none⟩) :: .pointer (some ⟨wr.heap.size + 1, 0, none⟩) :: .int .i64 x.1 :: u 10 :: .slice B l cb :: .map (some P) :: .pointer (some ⟨w.heap.size, 1, none⟩) :: .slice (some ⟨g, o, none⟩) n c :: .int .i64 (n : Int) :: .agg #[.int .i64 (n : Int), .slice none 0 0] :: .pointer (some ⟨w.heap.size, 1, none⟩) :: .slice (some ⟨g, o, none⟩) n c :: .int .i64 (n : Int) :: .int .i64 (i : Int) :: .bool true :: .int .i64 (i : Int) :: .pointer (some ⟨g, o + i * 5, none⟩) :: .agg #[.int .i64 f, .int .i64 t, .int .i64 ca, .int .i64 la, .int .i64 da] :: .agg #[.int .i64 m, .slice (some ⟨g, o, none⟩) n c] :: .pointer (some ⟨wr.heap.size + 1, 1, none⟩) :: .int .i64 t :: .func (.func 89) #[] #[.pointer (some ⟨wr.heap.size + 1 + 1, 0, none⟩), .pointer (some ⟨wr.heap.size + 1 + 1 + 1, 0, none⟩)] :: .int .i64 x.1 :: u 30 :: u 31 :: u 32 :: u 33 :: u 34 :: u 35 :: u 36 :: u 37 :: u 38 :: u 39 :: u 40 :: u 41 :: u 42 :: u 43 :: u 44 :: u 45 :: u 46 :: u 47 :: u 48 :: u 49 :: u 50 :: u 51 :: u 52 :: u 53 :: undef :: []).toArray, defers := [] }) ?assign ?body ?done ?stop
    case assign =>
      intro l x W K hK
      gi_wp2
      exact hK
    case body =>
      rintro ld pre ⟨x, j, ⟨f', t', c', l', d'⟩, rfl, hb', hf⟩ W ⟨v, hI⟩ hlt'
      have hf : f' = t := hf
      subst hf
      have hjk : j < n := by rw [← HX.out]; exact (List.getElem?_eq_some_iff.1 hb').1
      obtain ⟨bb, oo, eg, d0, d1, d2, d3, d4⟩ := ((hx.below hp1).below hI.st.past) j _ hb'
      injection eg with eg
      injection eg with eg1 eg2
      subst eg1 eg2
      have hcst := hI.costs
      have hnm := hI.num
      have hmap := hown.kept (grown_of_below hI.st.past none) (by simp)
      obtain ⟨Kl, hkey⟩ := pair_key (i : Int) (j : Int) (WalkArith.wf_i64 (by omega)) (WalkArith.wf_i64 (by omega))
      have hrun : (Instr.lookup 74 (.map (some P)) (.agg #[.int .i64 (i : Int), .int .i64 (j : Int)]) false).run Try.prog W = .ok (.int .i64 (costF ts (i : Int) (j : Int))) W := by
        obtain ⟨cc, h1, h2, _⟩ := World.ownsMap.lookup_int (w := W) (q := .i64) (t := 74) (e := 3) hmap pairLaw Try.underlying74 Try.underlying3 (by kernel_rfl) hkey
        rw [HD.out (i : Int) (j : Int) Kl hkey, ← HL.out, costL_all ts _ _ (turnsB_all HT.out).2.2.2] at h2
        have h3 : costF ts (i : Int) (j : Int) = cc := by simpa using h2
        rw [h1, h3]
      have hcb' := costF_bd (turnsB_all HT.out).2.2.1 (i : Int) (j : Int)
      obtain ⟨C, hCC⟩ : ∃ C, C = costF ts (i : Int) (j : Int) := ⟨_, rfl⟩
      rw [← hCC] at hrun hcb'
      have HCC := Lib.hid hCC
      have HB' := Lib.hid hb'
      clear hCC hkey hmap d0 d1 d3 d4
      have hrow : (nums (xs := xs) (node := f') pre).length ≤ n := by rw [nums_length]; omega
      by_cases hneg : C = -1
      · have q1 : (C != -1) = false := by simpa using hneg
        have HN : Hid (lineTo xs ts n i ++ rowP xs ts i (nums pre ++ [(j : Int)]) = lineTo xs ts n i ++ rowP xs ts i (nums pre)) := by
          rw [Hid, rowP_snoc, Int.toNat_natCast, lineArc_no HA.out HB'.out (by rw [← HCC.out]; omega), List.append_nil]
        clear hneg
        gi_wp2
        exact ⟨⟨Nat.le_refl _, fun b o _ ho _ => ho⟩, ⟨Below.refl _ _, rfl, rfl⟩, v, by rw [nums_snoc, HN.out]; exact hI⟩
      · have q1 : (C != -1) = true := by simpa using hneg
        gi_wp2_with fail
        have hbw := cell_in hI.st.past b1
        have o1 := hI.st.o1
        have hgl : g < w.heap.size := by
          obtain ⟨g3, o3, e3, h3, _⟩ := hx j _ HB'.out
          injection e3 with e3
          injection e3 with e4 e5
          subst e4
          exact lt_of_cell h3
        have hbo := ((netB_iff _ _).1 (turnsB_all HT.out).1).2.2 _ (List.mem_of_getElem? HB'.out)
        simp [arcB, inB_iff] at hbo
        obtain ⟨L, hL⟩ : ∃ L, L = lineTo xs ts n i ++ rowP xs ts i (nums pre) := ⟨_, rfl⟩
        have HN : Hid (lineTo xs ts n i ++ rowP xs ts i (nums pre ++ [(j : Int)]) = L ++ [⟨(i : Int), (j : Int), C + c', 0, 9⟩]) := by
          rw [Hid, rowP_snoc, Int.toNat_natCast, lineArc_hit HA.out HB'.out rfl (by rw [← HCC.out]; omega), ← HCC.out, ← List.append_assoc, hL]
        have hlen : L.length ≤ 1000 := by
          have h1 := lineTo_len xs ts n i
          have h2 := rowP_len xs ts i (nums pre)
          have h3 : i * n ≤ 16 * 16 := Nat.mul_le_mul (by omega) hn
          rw [hL, List.length_append]
          omega
        rw [← hL] at hI
        obtain ⟨v1, w9, hr, ⟨A2, k2, c2, rfl⟩, far, ⟨u9, x9⟩, z9, hI9, hkf, hblk, hbel⟩ := hI.fill ⟨(i : Int), (j : Int), C + c', 0, 9⟩ w.heap.size (by omega) hlen (Nat.le_refl _) hXr hsi
        have s1 : IntKind.i64.wrap (C + c') = C + c' := IntWalk.i64_in _ (by omega)
        generalize hV1 : Value.slice A2 k2 c2 = v1 at hr hI9 hkf hblk hbel
        refine wpIn_region_chain (by kernel_rfl) [13, 14, 16] { tmps := (.agg #[.int .i64 m, .slice (some ⟨g, o, none⟩) n c] :: .slice B l cb :: .pointer (some ⟨w.heap.size, 0, none⟩) :: undef :: .pointer (some ⟨w.heap.size + 1, 0, none⟩) :: .pointer (some ⟨w1.heap.size, 0, none⟩) :: .pointer (some ⟨w1.heap.size + 1, 0, none⟩) :: .pointer (some ⟨wr.heap.size, 0, none⟩) :: .pointer (some ⟨wr.heap.size + 1, 0, none⟩) :: .int .i64 (j : Int) :: .int .i64 C :: .slice B l cb :: .map (some P) :: .pointer (some ⟨w.heap.size, 1, none⟩) :: .slice (some ⟨g, o, none⟩) n c :: .int .i64 (n : Int) :: .agg #[.int .i64 (n : Int), .slice none 0 0] :: .pointer (some ⟨w.heap.size, 1, none⟩) :: .slice (some ⟨g, o, none⟩) n c :: .int .i64 (n : Int) :: .int .i64 (i : Int) :: .bool true :: .int .i64 (i : Int) :: .pointer (some ⟨g, o + i * 5, none⟩) :: .agg #[.int .i64 f, .int .i64 f', .int .i64 ca, .int .i64 la, .int .i64 da] :: .agg #[.int .i64 m, .slice (some ⟨g, o, none⟩) n c] :: .pointer (some ⟨wr.heap.size + 1, 1, none⟩) :: .int .i64 f' :: .func (.func 89) #[] #[.pointer (some ⟨wr.heap.size + 1 + 1, 0, none⟩), .pointer (some ⟨wr.heap.size + 1 + 1 + 1, 0, none⟩)] :: .int .i64 (j : Int) :: .map (some P) :: .int .i64 (i : Int) :: .int .i64 (j : Int) :: .agg #[.int .i64 (i : Int), .int .i64 (j : Int)] :: .int .i64 C :: .int .i64 C :: .bool true :: .pointer (some ⟨w1.heap.size + 1, 1, none⟩) :: v :: .int .i64 (i : Int) :: .int .i64 (j : Int) :: .int .i64 C :: .pointer (some ⟨w.heap.size, 1, none⟩) :: .slice (some ⟨g, o, none⟩) n c :: .int .i64 (j : Int) :: .pointer (some ⟨g, o + j * 5, none⟩) :: .pointer (some ⟨g, o + j * 5 + 2, none⟩) :: .int .i64 c' :: (.int .i64 (C + c')) :: (.agg #[.int .i64 (i : Int), .int .i64 (j : Int), .int .i64 (C + c'), .int .i64 0, .int .i64 9]) :: .slice (some ⟨W.heap.size, 0, none⟩) 1 1 :: v1 :: .pointer (some ⟨w1.heap.size + 1, 1, none⟩) :: u 53 :: undef :: []).toArray, defers := [] } (fun s => ([W.drew, W.drew.alloc (.cells #[.int .i64 (i : Int), .int .i64 (j : Int), .int .i64 (C + c'), .int .i64 0, .int .i64 9] 61), w9, w9.setCell ⟨w1.heap.size + 1, 1, none⟩ v1] : List World).getD s W) rfl (by kernel_rfl) (by decide) rfl rfl ?base ?eachop ?fin
        case base =>
          intro t ht
          iterate 37 (rcases t with _ | t; · rfl)
          rcases t with _ | t; · exact absurd rfl (ht 0 _ rfl)
          rcases t with _ | t; · exact absurd rfl (ht 1 _ rfl)
          rcases t with _ | t; · exact absurd rfl (ht 2 _ rfl)
          rcases t with _ | t; · exact absurd rfl (ht 3 _ rfl)
          rcases t with _ | t; · exact absurd rfl (ht 4 _ rfl)
          rcases t with _ | t; · exact absurd rfl (ht 5 _ rfl)
          rcases t with _ | t; · exact absurd rfl (ht 6 _ rfl)
          rcases t with _ | t; · exact absurd rfl (ht 7 _ rfl)
          rcases t with _ | t; · exact absurd rfl (ht 8 _ rfl)
          rcases t with _ | t; · exact absurd rfl (ht 9 _ rfl)
          rcases t with _ | t; · exact absurd rfl (ht 10 _ rfl)
          rcases t with _ | t; · exact absurd rfl (ht 11 _ rfl)
          rcases t with _ | t; · exact absurd rfl (ht 12 _ rfl)
          rcases t with _ | t; · exact absurd rfl (ht 13 _ rfl)
          rcases t with _ | t; · exact absurd rfl (ht 14 _ rfl)
          rcases t with _ | t; · exact absurd rfl (ht 15 _ rfl)
          rfl
        case eachop =>
          have g0 : ∀ s, s < 3 → (([W.drew, W.drew.alloc (.cells #[.int .i64 (i : Int), .int .i64 (j : Int), .int .i64 (C + c'), .int .i64 0, .int .i64 9] 61), w9, w9.setCell ⟨w1.heap.size + 1, 1, none⟩ v1] : List World).getD s W).cell? ⟨w1.heap.size + 1, 1, none⟩ = some v ∧
              (([W.drew, W.drew.alloc (.cells #[.int .i64 (i : Int), .int .i64 (j : Int), .int .i64 (C + c'), .int .i64 0, .int .i64 9] 61), w9, w9.setCell ⟨w1.heap.size + 1, 1, none⟩ v1] : List World).getD s W).cell? ⟨wr.heap.size, 0, none⟩ = some (.int .i64 (i : Int)) ∧
              (([W.drew, W.drew.alloc (.cells #[.int .i64 (i : Int), .int .i64 (j : Int), .int .i64 (C + c'), .int .i64 0, .int .i64 9] 61), w9, w9.setCell ⟨w1.heap.size + 1, 1, none⟩ v1] : List World).getD s W).cell? ⟨w.heap.size, 1, none⟩ = some (.slice (some ⟨g, o, none⟩) n c) ∧
              (([W.drew, W.drew.alloc (.cells #[.int .i64 (i : Int), .int .i64 (j : Int), .int .i64 (C + c'), .int .i64 0, .int .i64 9] 61), w9, w9.setCell ⟨w1.heap.size + 1, 1, none⟩ v1] : List World).getD s W).cell? ⟨g, o + j * 5 + 2, none⟩ = some (.int .i64 c') := by
            intro s hs
            rcases s with _ | _ | _ | s
            · exact ⟨o1, hnm, hbw, d2⟩
            · exact ⟨cell_in (((Past.refl W).drew).alloc _) o1, cell_in (((Past.refl W).drew).alloc _) hnm, cell_in (((Past.refl W).drew).alloc _) hbw, cell_in (((Past.refl W).drew).alloc _) d2⟩
            · exact ⟨far _ _ (.inl (by simp)) o1, far _ _ (.inr (by simp)) hnm, far _ _ (.inl (by simp; omega)) hbw, far _ _ (.inl (by simp; omega)) d2⟩
            · omega
          generalize hWS : ([W.drew, W.drew.alloc (.cells #[.int .i64 (i : Int), .int .i64 (j : Int), .int .i64 (C + c'), .int .i64 0, .int .i64 9] 61), w9, w9.setCell ⟨w1.heap.size + 1, 1, none⟩ v1] : List World) = wl at g0 ⊢
          have q0 : ∀ s, s < 3 → (wl.getD s W).cell? ⟨w1.heap.size + 1, 1, none⟩ = some v := fun s h => (g0 s h).1
          have q1 : ∀ s, s < 3 → (wl.getD s W).cell? ⟨wr.heap.size, 0, none⟩ = some (.int .i64 (i : Int)) := fun s h => (g0 s h).2.1
          have q2 : ∀ s, s < 3 → (wl.getD s W).cell? ⟨w.heap.size, 1, none⟩ = some (.slice (some ⟨g, o, none⟩) n c) := fun s h => (g0 s h).2.2.1
          have q3 : ∀ s, s < 3 → (wl.getD s W).cell? ⟨g, o + j * 5 + 2, none⟩ = some (.int .i64 c') := fun s h => (g0 s h).2.2.2
          have j0 : (0 : Int) ≤ (j : Int) := by omega
          have j1 : (j : Int) < (n : Int) := by omega
          refine ⟨?o0, ?o1, ?o2, ?o3, ?o4, ?o5, ?o6, ?o7, ?o8, ?o9, ?o10, ?o11, ?o12, ?o13, ?o14, ?o15, ?o16, trivial⟩
          case o13 => refine opAt_writer 0 (by decide) rfl (.inl ?_); subst hWS; go_simp
          case o14 =>
            refine opAt_writer 1 (by decide) rfl (.inl ?_)
            subst hWS
            unfold execOp
            simp only [resolve, invoke, builtin, Sem.run_bind, Sem.run_pure, Result.andThen_ok, List.map_toArray, List.map_cons, List.map_nil]
            refine Eq.trans (congrArg (fun r => Result.andThen r _) hr) ?_
            rfl
          case o16 => refine opAt_writer 2 (by decide) rfl (.inr ⟨rfl, ?_⟩); subst hWS hV1; go_simp
          all_goals refine opAt_quiet (by decide) fun s hs => .inl ?_
          all_goals have hs : s < 3 := hs
          all_goals have q0 := q0 s hs
          all_goals have q1 := q1 s hs
          all_goals have q2 := q2 s hs
          all_goals have q3 := q3 s hs
          all_goals clear hWS g0 far x9 z9 hI9 hkf hblk hbel hr
          all_goals generalize wl.getD s W = ww at *
          all_goals go_simp
        case fin =>
          exact ⟨by rw [hs5]; exact hkf, ⟨hbel, hblk _ (.inr (by omega)), hblk _ (.inr (by omega))⟩, _, by rw [nums_snoc, HN.out]; exact hI9⟩
    case done =>
      rintro Dd ys W hD hys ⟨v', hI⟩ hDd
      have hL : lineTo xs ts n i ++ rowP xs ts i (nums ys) = lineTo xs ts n (i + 1) := by
        rw [lineTo, hys, rowP_all ts HA.out n (by rw [HX.out]; exact Nat.le_refl _)]
      rw [hL] at hI
      have hI1 := hI.st
      have hI2 := hI.costs
      have hI3 := hI.defs
      clear hI hL
      gi_wp2
      refine Handed.intro (n - (i + 1)) (by omega) (hJ _ _ _ ⟨i + 1, v', Dd :: rs, by omega, Nat.le_refl _, nFrame_mk _ _ (by rfl), hI1, hI2, fun r hr => ?_, List.nodup_cons.2 ⟨fun hr => ?_, hnd⟩, fun r hr => ?_⟩)
      · rcases List.mem_cons.1 hr with rfl | hr
        · exact hDd
        · exact hI3 r hr
      · have := hrs Dd hr
        omega
      · rcases List.mem_cons.1 hr with rfl | hr
        · omega
        · exact hsi r hr
    case stop =>
      rintro D c pre W _ _ h _
      exact h.elim
  · obtain rfl : i = n := by omega
    have e0r := cell_in hS.past e0
    have e1r := cell_in hS.past e1
    have hrc : RowN w1 (w.heap.size + 1) 31 2 := hrc0
    have rr := hrc.keep (hS.past.block _ hrc.lt)
    have z0r := rr.frozen 0
    have z1r := rr.frozen 1
    have sv : w.heap.size + 1 < w1.heap.size := lt_of_cell e0
    obtain ⟨D, hD⟩ : ∃ D, D = (lineTo xs ts i i).length := ⟨_, rfl⟩
    obtain ⟨A2, c2, rfl, hx9, _⟩ := (show ResA wr (w1.heap.size + 1 + 1) v (lineTo xs ts i i) from hS.own).form
    have hown := hS.own
    have o0 := hS.o0
    have o1 := hS.o1
    rw [← hD] at hown o1
    have HDD := Lib.hid hD
    have HS := Lib.hid hS
    have HLL : Hid (lineTo xs ts i i = lineL xs ts) := by rw [Hid, lineL, HX.out]
    clear hS hD
    gi_wp2
    have hbl : Past w ((wr.setCell ⟨w.heap.size + 1, 0, none⟩ (.int .i64 (i : Int))).setCell ⟨w.heap.size + 1, 1, none⟩ (.slice A2 D c2)) := Below.setCell (Below.setCell (hp1.trans HS.out.past) (by simp) _) (by simp) _
    have hblk : ∀ r, r ≠ w.heap.size + 1 → ((wr.setCell ⟨w.heap.size + 1, 0, none⟩ (.int .i64 (i : Int))).setCell ⟨w.heap.size + 1, 1, none⟩ (.slice A2 D c2)).heap[r]? = wr.heap[r]? := fun r hr => (Below.heap_setCell _ _ _ _ hr).trans (Below.heap_setCell _ _ _ _ hr)
    refine leaves_marks rs _ hnd (fun r hr => (hblk r (by have := hsi r hr; omega)).trans (hdf r hr)) (fun W' hc => ⟨.agg #[.int .i64 (i : Int), .slice A2 D c2], ?_, ⟨_, rfl, ?_, ?_⟩⟩)
    · have nr : ¬ (w.heap.size + 1 ∈ rs) := fun h => by have := hsi _ h; omega
      have q0 := hc.cell (p := ⟨w.heap.size + 1, 0, none⟩) ((World.cell?_setCell_other _ _ _ _ (by simp)).trans (World.cell?_setCell_same wr ⟨w.heap.size + 1, 0, none⟩ (.int .i64 (i : Int)) e0r)) nr
      have q1 := hc.cell (p := ⟨w.heap.size + 1, 1, none⟩) (World.cell?_setCell_same (wr.setCell ⟨w.heap.size + 1, 0, none⟩ (.int .i64 (i : Int))) ⟨w.heap.size + 1, 1, none⟩ (.slice A2 D c2) ((World.cell?_setCell_other _ _ _ _ (by simp)).trans e1r)) nr
      simp [results, Try.results64, go_sem, q0, q1]
    · have h1 : ((wr.setCell ⟨w.heap.size + 1, 0, none⟩ (.int .i64 (i : Int))).setCell ⟨w.heap.size + 1, 1, none⟩ (.slice A2 D c2)).ownsRow (w1.heap.size + 1 + 1) 61 5 (.slice A2 D c2) D (cellsOf (lineTo xs ts i i)) :=
        own_far (own_far hown (fun e => own_ne hown (g := w.heap.size + 1) (by omega) e.symm) _) (fun e => own_ne hown (g := w.heap.size + 1) (by omega) e.symm) _
      have h2 := hc.own h1 (fun x e hx => by
        obtain ⟨cs, hcs⟩ := cells_of_own h1 e
        have hd := (hblk x (by have := (h1.lt x e).1; omega)).trans (hdf x hx)
        rw [hcs] at hd
        cases hd)
      rw [← HLL.out]
      refine ResA.lower (lo := w1.heap.size + 1 + 1) ?_ (by have := hp1.size; omega)
      unfold ResA
      rw [← HDD.out]
      exact h2
    · exact hbl.belowTrans (hc.below hbl.size (fun x hx hr => by have := hsi x hr; have := hp1.size; omega))

end Go.Proofs.Ytjocbjjkihgcdaa

namespace Go.Proofs.Ytjocbjjkihgcdaa
open Go.RowKit

theorem line_any (m : Int) (A : Option Addr) (n c : Nat) (xs : List ArcD) (B : Option Addr) (l cb : Nat) (ts : List TurnD) (w : World) (hn : n ≤ 16) (hnx : xs.length = n) (hx : ArcsAt w A xs) (hl : l ≤ 1048576) (hlt : ts.length = l) (ht : TurnsAt w B ts) (hT : turnsB m xs ts = true) :
    Calls Try.prog 64 #[.agg #[.int .i64 m, .slice A n c], .slice B l cb] w (LineG w n xs ts) :=
  (callsIn_wide (n := 4)).1 (line_in m A n c xs B l cb ts w hn hnx hx hl hlt ht hT)
theorem lineL_len (xs : List ArcD) (ts : List TurnD) (h : xs.length ≤ 16) : (lineL xs ts).length ≤ 256 := by
  have h1 := lineTo_len xs ts xs.length xs.length
  have h2 : xs.length * xs.length ≤ 16 * 16 := Nat.mul_le_mul h h
  rw [lineL]
  omega
theorem tnetL_lenM (m : Int) (xs : List ArcD) (ts : List TurnD) : (tnetL m xs ts).length ≤ 1048576 := by
  have := tnetL_len16 m xs ts
  omega

set_option maxRecDepth 100000 in
set_option maxHeartbeats 2000000 in
theorem implTurnNet_any (m : Int) (A : Option Addr) (n c : Nat) (xs : List ArcD) (B : Option Addr) (l cb : Nat) (ts : List TurnD) (w : World) (hn : n ≤ 1048576) (hnx : xs.length = n) (hx : ArcsAt w A xs) (hl : l ≤ 1048576) (hlt : ts.length = l) (ht : TurnsAt w B ts) :
    Calls Try.prog 34 #[.agg #[.int .i64 m, .slice A n c], .slice B l cb] w (GivesNB w (tnetN m xs ts) (tnetL m xs ts) (tnetB m xs ts)) := by
  have HX := Lib.hid hnx
  have HL := Lib.hid hlt
  clear hnx hlt
  have hb0 : Past w ((w.alloc (.cells #[.int .i64 m, .slice A n c] 31)).alloc (.cells #[.int .i64 0, .slice none 0 0] 31)) := ((Past.refl _).alloc _).alloc _
  go_enter Try.func34, Try.ntmps34
  go_wp2_with fail
  refine (implTurnsOk_any m A n c xs B l cb ts _ hn HX.out (hx.below hb0) hl HL.out (ht.below hb0)).mono ?_
  rintro e w1 ⟨rfl, hb1⟩
  have b0 := cell_in (p := ⟨w.heap.size, 0, none⟩) (v := .int .i64 m) hb1 (by go_simp)
  have b1 := cell_in (p := ⟨w.heap.size, 1, none⟩) (v := .slice A n c) hb1 (by go_simp)
  have e0 := cell_in (p := ⟨w.heap.size + 1, 0, none⟩) (v := .int .i64 0) hb1 (by go_simp)
  have e1 := cell_in (p := ⟨w.heap.size + 1, 1, none⟩) (v := .slice none 0 0) hb1 (by go_simp)
  have z0 := free_in (p := ⟨w.heap.size + 1, 0, none⟩) (v := .int .i64 0) hb1 (by go_simp) (by go_simp)
  have z1 := free_in (p := ⟨w.heap.size + 1, 1, none⟩) (v := .slice none 0 0) hb1 (by go_simp) (by go_simp)
  have hp1 := hb0.trans hb1
  have sw : w.heap.size + 1 < w1.heap.size := lt_of_cell e0
  clear hb0 hb1
  cases hB : turnsB m xs ts with
  | false =>
    have HF : Hid (tnetB m xs ts = false) := tnet_turns hB
    clear hB
    go_wp2
    exact bodyPost_ret (v := .tuple #[.agg #[.int .i64 0, .slice none 0 0], .bool false]) (by simp [results, Try.results34, go_sem, e0, e1]) rfl (givesNB_no HF.out rfl (Below.setCell (Below.setCell hp1 (by simp) _) (by simp) _))
  | true =>
  have HT := Lib.hid hB
  have h16 : xs.length ≤ 16 := ((netB_iff _ _).1 (turnsB_all hB).1).2.1
  have hln := lineL_len xs ts h16
  rw [HX.out] at h16
  clear hB
  go_wp2_with fail
  refine (line_any m A n c xs B l cb ts _ h16 HX.out (hx.below hp1) hl HL.out (ht.below hp1) HT.out).mono ?_
  rintro e w2 ⟨v, rfl, hv, hb2⟩
  have z0 := free_in hb2 e0 z0
  have z1 := free_in hb2 e1 z1
  have e0 := cell_in hb2 e0
  have e1 := cell_in hb2 e1
  have hp2 := hp1.trans hb2
  obtain ⟨D, hD⟩ : ∃ D, D = (lineL xs ts).length := ⟨_, rfl⟩
  obtain ⟨A2, c2, rfl, hx2, _⟩ := hv.form
  rw [← hD] at hv hln
  have hown : w2.ownsRow w1.heap.size 61 5 (.slice A2 D c2) D (cellsOf (lineL xs ts)) := by
    have h := hv
    unfold ResA at h
    rw [← hD] at h
    exact h
  rw [← hD]
  have HD := Lib.hid hD
  clear hD hv hb2 b0 b1
  have hbA : Past w2 (w2.alloc (.cells #[.int .i64 (n : Int), .slice A2 D c2] 31)) := (Past.refl w2).alloc _
  go_wp2_with fail
  refine (implNetOk_any (n : Int) A2 D c2 (lineL xs ts) _ (by omega) HD.out.symm (hx2.below hbA)).mono ?_
  rintro e w3 ⟨rfl, hb3⟩
  have q0 := cell_in (p := ⟨w2.heap.size, 0, none⟩) (v := .int .i64 (n : Int)) hb3 (by go_simp)
  have q1 := cell_in (p := ⟨w2.heap.size, 1, none⟩) (v := .slice A2 D c2) hb3 (by go_simp)
  have hp23 := hbA.trans hb3
  have z0 := free_in hp23 e0 z0
  have z1 := free_in hp23 e1 z1
  have e0 := cell_in hp23 e0
  have e1 := cell_in hp23 e1
  have hown := World.ownsRow.kept hown (grown_of_below hp23 none) (by cases hv : (Value.slice A2 D c2).ownBlock <;> simp)
  have hp3 := hp2.trans hp23
  have hp1s := hp1.size
  have HE : Hid (tnetB m xs ts = netB (n : Int) (lineL xs ts)) := by rw [Hid, tnet_line HT.out, HX.out]
  clear hb3 hbA hp23 hp2 hp1
  cases hO : netB (n : Int) (lineL xs ts) with
  | false =>
    have HV : Hid (tnetB m xs ts = false) := HE.out.trans hO
    clear hO
    go_wp2
    exact bodyPost_ret (v := .tuple #[.agg #[.int .i64 0, .slice none 0 0], .bool false]) (by simp [results, Try.results34, go_sem, e0, e1]) rfl (givesNB_no HV.out rfl (Below.setCell (Below.setCell hp3 (by simp) _) (by simp) _))
  | true =>
    have HV : Hid (tnetB m xs ts = true) := HE.out.trans hO
    clear hO
    go_wp2
    refine bodyPost_ret (v := .tuple #[.agg #[.int .i64 (n : Int), .slice A2 D c2], .bool true]) (by simp [results, Try.results34, go_sem, e0, e1]) rfl ?_
    refine givesNB_yes (lo := w1.heap.size) (cs := cellsOf (lineL xs ts)) HV.out HX.out.symm (by omega) D HD.out rfl ?_ (Below.setCell (Below.setCell hp3 (by simp) _) (by simp) _)
    exact own_far (own_far hown (fun e => own_ne hown (g := w.heap.size + 1) (by omega) e.symm) _) (fun e => own_ne hown (g := w.heap.size + 1) (by omega) e.symm) _

end Go.Proofs.Ytjocbjjkihgcdaa

namespace Go.Proofs.Ytjocbjjkihgcdaa
open Go.ChangeShapes Go.WideShapes Go.ChangeAt Go.RowKit

set_option maxRecDepth 100000 in
set_option maxHeartbeats 2000000 in
theorem exactTurnNet_walk (m0 : Int) (A0 : Option Addr) (n0 c0 : Nat) (xs0 : List ArcD) (A1 : Option Addr) (n1 c1 : Nat) (xs1 : List TurnD) (w : World) (hn0 : n0 ≤ maxLen) (hl0 : xs0.length = n0) (hx0 : ArcsAt w A0 xs0) (hn1 : n1 ≤ maxLen) (hl1 : xs1.length = n1) (hx1 : TurnsAt w A1 xs1) :
    Calls Try.prog 6 #[.agg #[.int .i64 m0, .slice A0 n0 c0], .slice A1 n1 c1] w fun e w' => e = .returned (.bool true) ∧ Below w.heap.size w w' := by
  have HX0 := Lib.hid hl0
  have HX1 := Lib.hid hl1
  clear hl0 hl1
  have hP : Past w (w.alloc (.cells #[.int .i64 m0, .slice A0 n0 c0] 24)) := ((Past.refl w).alloc _)
  go_enter Try.func6, Try.ntmps6
  go_wp2_with fail
  refine (szNet_any m0 A0 n0 c0 (1048576) _ (by omega) (by omega) hn0).mono ?_
  rintro e w1 ⟨rfl, hb⟩
  have a0_0 := cell_in (p := ⟨w.heap.size, 0, none⟩) (v := .int .i64 m0) hb (by go_simp)
  have a0_1 := cell_in (p := ⟨w.heap.size, 1, none⟩) (v := .slice A0 n0 c0) hb (by go_simp)
  have hx0 := (hx0.below hP).below hb
  have hx1 := (hx1.below hP).below hb
  have hP := Past.trans hP hb
  clear hb
  by_cases h20s_0 : (n0 : Int) ≤ 1048576
  rotate_left
  · have hr : roomLeft (1048576) n0 = -1 := by unfold roomLeft; rw [if_pos (by omega)]
    rw [hr]
    go_wp2
    go_ret
    exact ⟨rfl, hP⟩
  have hr : roomLeft (1048576) n0 = 1048576 - n0 := by unfold roomLeft; rw [if_neg (by omega)]
  rw [hr]
  clear hr
  have h20_0 : n0 ≤ 1048576 := by omega
  go_wp2_with fail
  refine (szTurnS_any A1 n1 c1 (1048576 - n0) _ (by omega) (by omega) hn1).mono ?_
  rintro e w_ ⟨rfl, rfl⟩
  by_cases h20s_1 : (n1 : Int) ≤ 1048576 - n0
  rotate_left
  · have hr : roomLeft (1048576 - n0) n1 = -1 := by unfold roomLeft; rw [if_pos (by omega)]
    rw [hr]
    go_wp2
    go_ret
    exact ⟨rfl, hP⟩
  have hr : roomLeft (1048576 - n0) n1 = 1048576 - n0 - n1 := by unfold roomLeft; rw [if_neg (by omega)]
  rw [hr]
  clear hr
  have h20_1 : n1 ≤ 1048576 := by omega
  go_wp2_with fail
  refine (toNet_any m0 A0 n0 c0 xs0 _ h20_0 HX0.out hx0).mono ?_
  rintro e w2 ⟨sg0, rfl, hb, hg, sm0⟩
  have hx0 := hx0.below hb
  have hx1 := hx1.below hb
  have a0_0 := cell_in hb a0_0
  have a0_1 := cell_in hb a0_1
  have hP := Past.trans hP hb
  have s2 := hb.size
  clear hb hg
  go_wp2_with fail
  refine (toTurnS_any A1 n1 c1 xs1 _ h20_1 HX1.out hx1).mono ?_
  rintro e w3 ⟨sg1, rfl, hb, hg, sm1⟩
  have hx0 := hx0.below hb
  have hx1 := hx1.below hb
  have a0_0 := cell_in hb a0_0
  have a0_1 := cell_in hb a0_1
  have sm0 := sm0.below hb
  have hP := Past.trans hP hb
  have s3 := hb.size
  clear hb hg
  go_wp2_with fail
  refine (specTurnNet_any m0 _ n0 n0 xs0 _ n1 n1 xs1 _ h20_0 HX0.out (sm0.arcs HX0.out) h20_1 HX1.out (sm1.at_ HX1.out)).mono ?_
  rintro e w4 ⟨A4, c4, rfl, hz, _, hb⟩
  obtain ⟨ok, hok⟩ : ∃ ok, ok = tnetB m0 xs0 xs1 := ⟨_, rfl⟩
  rw [← hok]
  have HK := Lib.hid hok
  clear hok
  have hzl := tnetL_lenM m0 xs0 xs1
  obtain ⟨zs, hzs⟩ : ∃ zs, zs = tnetL m0 xs0 xs1 := ⟨_, rfl⟩
  obtain ⟨mz, hmz⟩ : ∃ mz, mz = tnetN m0 xs0 xs1 := ⟨_, rfl⟩
  obtain ⟨N, hN⟩ : ∃ N, N = zs.length := ⟨_, rfl⟩
  rw [← hzs] at hz hzl
  rw [← hzs, ← hmz, ← hN]
  rw [← hN] at hzl
  have HZ := Lib.hid hzs
  have HMZ := Lib.hid hmz
  have HN := Lib.hid hN
  clear hN hzs hmz
  have hx0 := hx0.below hb
  have hx1 := hx1.below hb
  have a0_0 := cell_in hb a0_0
  have a0_1 := cell_in hb a0_1
  have sm0 := sm0.below hb
  have sm1 := sm1.below hb
  have hP := Past.trans hP hb
  have s4 := hb.size
  clear hb
  clear sm0 sm1
  have hb : Past w4 (w4.alloc (.cells #[.int .i64 mz, .slice A4 N c4] 31)) := (Past.refl _).alloc _
  obtain ⟨w5, hw6⟩ : ∃ u, u = w4.alloc (.cells #[.int .i64 mz, .slice A4 N c4] 31) := ⟨_, rfl⟩
  have a0_0o := fun (o : Obj) => cell_in ((Past.refl w4).alloc o) a0_0
  have a0_1o := fun (o : Obj) => cell_in ((Past.refl w4).alloc o) a0_1
  go_wp2_with fail
  clear a0_0o a0_1o
  have v_0 : w5.cell? ⟨w4.heap.size, 0, none⟩ = some (.int .i64 mz) := by rw [hw6]; go_simp
  have v_1 : w5.cell? ⟨w4.heap.size, 1, none⟩ = some (.slice A4 N c4) := by rw [hw6]; go_simp
  rw [← hw6] at hb ⊢
  have sxv : w4.heap.size < w5.heap.size := lt_of_cell v_0
  clear hw6
  have hx0 := hx0.below hb
  have hx1 := hx1.below hb
  have a0_0 := cell_in hb a0_0
  have a0_1 := cell_in hb a0_1
  have hz := hz.below hb
  have hP := Past.trans hP hb
  have s5 := hb.size
  clear hb
  have hx0E := hx0
  have hx1E := hx1
  have hzE := hz
  have sb : w.heap.size < w5.heap.size := lt_of_cell a0_0
  have sP := hP.size
  go_wp2_with fail
  refine (toNet_any m0 A0 n0 c0 xs0 _ h20_0 HX0.out hx0).mono ?_
  rintro e w6 ⟨g0, rfl, hb, hg0, hm0⟩
  have sg0 := hm0.1.lt
  have hx0 := hx0.below hb
  have hx1 := hx1.below hb
  have a0_0 := cell_in hb a0_0
  have a0_1 := cell_in hb a0_1
  have hz := hz.below hb
  have v_0 := cell_in hb v_0
  have v_1 := cell_in hb v_1
  have hP := Past.trans hP hb
  have s6 := hb.size
  clear hb
  have hb : Past w6 (w6.alloc (.cells #[.int .i64 m0, .slice (some ⟨g0, 0, none⟩) n0 n0] 31)) := (Past.refl _).alloc _
  obtain ⟨w7, hw6⟩ : ∃ u, u = w6.alloc (.cells #[.int .i64 m0, .slice (some ⟨g0, 0, none⟩) n0 n0] 31) := ⟨_, rfl⟩
  go_wp2_with fail
  have p0_0 : w7.cell? ⟨w6.heap.size, 0, none⟩ = some (.int .i64 m0) := by rw [hw6]; go_simp
  have p0_1 : w7.cell? ⟨w6.heap.size, 1, none⟩ = some (.slice (some ⟨g0, 0, none⟩) n0 n0) := by rw [hw6]; go_simp
  rw [← hw6] at hb ⊢
  have sx0 : w6.heap.size < w7.heap.size := lt_of_cell p0_0
  clear hw6
  have hx0 := hx0.below hb
  have hx1 := hx1.below hb
  have a0_0 := cell_in hb a0_0
  have a0_1 := cell_in hb a0_1
  have hz := hz.below hb
  have v_0 := cell_in hb v_0
  have v_1 := cell_in hb v_1
  have hm0 := hm0.below hb
  have hP := Past.trans hP hb
  have s7 := hb.size
  clear hb
  go_wp2_with fail
  refine (toTurnS_any A1 n1 c1 xs1 _ h20_1 HX1.out hx1).mono ?_
  rintro e w8 ⟨g1, rfl, hb, hg1, hm1⟩
  have sg1 := hm1.1.lt
  have hx0 := hx0.below hb
  have hx1 := hx1.below hb
  have a0_0 := cell_in hb a0_0
  have a0_1 := cell_in hb a0_1
  have hz := hz.below hb
  have v_0 := cell_in hb v_0
  have v_1 := cell_in hb v_1
  have hm0 := hm0.below hb
  have p0_0 := cell_in hb p0_0
  have p0_1 := cell_in hb p0_1
  have hP := Past.trans hP hb
  have s8 := hb.size
  clear hb
  go_wp2_with fail
  refine (implTurnNet_any m0 _ n0 n0 xs0 _ n1 n1 xs1 _ h20_0 HX0.out (hm0.arcs HX0.out) h20_1 HX1.out (hm1.at_ HX1.out)).mono ?_
  rintro e w9 ⟨A7, c7, rfl, hi, ho, hb⟩
  rw [← HK.out]
  rw [← HZ.out] at hi ho
  rw [← HN.out] at ho
  rw [← HZ.out, ← HMZ.out, ← HN.out]
  have hneA := ho.ne_new
  have hx0 := hx0.below hb
  have hx1 := hx1.below hb
  have a0_0 := cell_in hb a0_0
  have a0_1 := cell_in hb a0_1
  have hz := hz.below hb
  have v_0 := cell_in hb v_0
  have v_1 := cell_in hb v_1
  have hm0 := hm0.below hb
  have p0_0 := cell_in hb p0_0
  have p0_1 := cell_in hb p0_1
  have hm1 := hm1.below hb
  have hP := Past.trans hP hb
  have s9 := hb.size
  clear hb
  have hb : Past w9 (w9.alloc (.cells #[.int .i64 mz, .slice A7 N c7] 31)) := (Past.refl _).alloc _
  obtain ⟨w10, hw6⟩ : ∃ u, u = w9.alloc (.cells #[.int .i64 mz, .slice A7 N c7] 31) := ⟨_, rfl⟩
  have a0_0o := fun (o : Obj) => cell_in ((Past.refl w9).alloc o) a0_0
  have a0_1o := fun (o : Obj) => cell_in ((Past.refl w9).alloc o) a0_1
  have v_0o := fun (o : Obj) => cell_in ((Past.refl w9).alloc o) v_0
  have v_1o := fun (o : Obj) => cell_in ((Past.refl w9).alloc o) v_1
  have p0_0o := fun (o : Obj) => cell_in ((Past.refl w9).alloc o) p0_0
  have p0_1o := fun (o : Obj) => cell_in ((Past.refl w9).alloc o) p0_1
  go_wp2_with fail
  clear a0_0o a0_1o v_0o v_1o p0_0o p0_1o
  have r_0 : w10.cell? ⟨w9.heap.size, 0, none⟩ = some (.int .i64 mz) := by rw [hw6]; go_simp
  have r_1 : w10.cell? ⟨w9.heap.size, 1, none⟩ = some (.slice A7 N c7) := by rw [hw6]; go_simp
  rw [← hw6] at hb ⊢
  have sxr : w9.heap.size < w10.heap.size := lt_of_cell r_0
  clear hw6
  have hx0 := hx0.below hb
  have hx1 := hx1.below hb
  have a0_0 := cell_in hb a0_0
  have a0_1 := cell_in hb a0_1
  have hz := hz.below hb
  have v_0 := cell_in hb v_0
  have v_1 := cell_in hb v_1
  have hm0 := hm0.below hb
  have p0_0 := cell_in hb p0_0
  have p0_1 := cell_in hb p0_1
  have hm1 := hm1.below hb
  have hi := hi.below hb
  have ho := ho.below hb
  have hP := Past.trans hP hb
  have s10 := hb.size
  clear hb
  go_wp2_with fail
  refine (eqNet_same mz A7 A4 N c7 c4 zs _ hzl HN.out.symm hi hz).mono ?_
  rintro e w11 ⟨rfl, hb⟩
  have hx0 := hx0.below hb
  have hx1 := hx1.below hb
  have a0_0 := cell_in hb a0_0
  have a0_1 := cell_in hb a0_1
  have hz := hz.below hb
  have v_0 := cell_in hb v_0
  have v_1 := cell_in hb v_1
  have hm0 := hm0.below hb
  have p0_0 := cell_in hb p0_0
  have p0_1 := cell_in hb p0_1
  have hm1 := hm1.below hb
  have hi := hi.below hb
  have ho := ho.below hb
  have r_0 := cell_in hb r_0
  have r_1 := cell_in hb r_1
  have hP := Past.trans hP hb
  have s11 := hb.size
  clear hb
  have hq := (hm0.arcs HX0.out)
  go_wp2_with fail
  go_region_held3 (fun w' => w'.cell? ⟨w.heap.size, 0, none⟩ = some (.int .i64 m0) ∧ w'.cell? ⟨w.heap.size, 1, none⟩ = some (.slice A0 n0 c0) ∧ w'.cell? ⟨w6.heap.size, 0, none⟩ = some (.int .i64 m0) ∧ w'.cell? ⟨w6.heap.size, 1, none⟩ = some (.slice (some ⟨g0, 0, none⟩) n0 n0)) (go_keep)
    (first
      | (go_at_call 18; refine (toNet_any m0 A0 n0 c0 xs0 _ h20_0 HX0.out hx0.drew).mono ?_; rintro e w12 ⟨g9, rfl, hb9, hg9, hm9⟩; have a0_0 := cell_in hb9 a0_0; have a0_1 := cell_in hb9 a0_1; have p0_0 := cell_in hb9 p0_0; have p0_1 := cell_in hb9 p0_1)
      | (go_at_call 21; refine (eqNet_same m0 _ _ n0 n0 n0 xs0 _ h20_0 HX0.out (hq.drew.below hb9) (hm9.arcs HX0.out)).mono ?_; rintro e w13 ⟨rfl, hb10⟩; have a0_0 := cell_in hb10 a0_0; have a0_1 := cell_in hb10 a0_1; have p0_0 := cell_in hb10 p0_0; have p0_1 := cell_in hb10 p0_1))
  have hb : Past w11 w13 := (Past.refl w11).drew.trans (Past.trans hb9 hb10)
  clear hb9 hb10 hq hm9 hg9
  have hx0 := hx0.below hb
  have hx1 := hx1.below hb
  have hz := hz.below hb
  have v_0 := cell_in hb v_0
  have v_1 := cell_in hb v_1
  have hm0 := hm0.below hb
  have hm1 := hm1.below hb
  have hi := hi.below hb
  have ho := ho.below hb
  have r_0 := cell_in hb r_0
  have r_1 := cell_in hb r_1
  have hP := Past.trans hP hb
  have s13 := hb.size
  clear hb
  go_wp2_with fail
  refine (toTurnS_any A1 n1 c1 xs1 _ h20_1 HX1.out hx1).mono ?_
  rintro e w14 ⟨gq, rfl, hb, hgq, hmq⟩
  have hx0 := hx0.below hb
  have hx1 := hx1.below hb
  have a0_0 := cell_in hb a0_0
  have a0_1 := cell_in hb a0_1
  have hz := hz.below hb
  have v_0 := cell_in hb v_0
  have v_1 := cell_in hb v_1
  have hm0 := hm0.below hb
  have p0_0 := cell_in hb p0_0
  have p0_1 := cell_in hb p0_1
  have hm1 := hm1.below hb
  have hi := hi.below hb
  have ho := ho.below hb
  have r_0 := cell_in hb r_0
  have r_1 := cell_in hb r_1
  have hP := Past.trans hP hb
  have s14 := hb.size
  clear hb hgq
  go_wp2_with fail
  refine (eqTurnS_same _ _ n1 n1 n1 xs1 _ h20_1 HX1.out (hm1.at_ HX1.out) (hmq.at_ HX1.out)).mono ?_
  rintro e w15 ⟨rfl, hb⟩
  have hx0 := hx0.below hb
  have hx1 := hx1.below hb
  have a0_0 := cell_in hb a0_0
  have a0_1 := cell_in hb a0_1
  have hz := hz.below hb
  have v_0 := cell_in hb v_0
  have v_1 := cell_in hb v_1
  have hm0 := hm0.below hb
  have p0_0 := cell_in hb p0_0
  have p0_1 := cell_in hb p0_1
  have hm1 := hm1.below hb
  have hi := hi.below hb
  have ho := ho.below hb
  have r_0 := cell_in hb r_0
  have r_1 := cell_in hb r_1
  have hP := Past.trans hP hb
  have s15 := hb.size
  clear hb hmq
  have hr0 := hm0.1
  have hr1 := hm1.1
  clear hm0 hm1
  go_wp2_with fail
  clear p0_0 p0_1
  refine (markNet_any m0 (some ⟨g0, 0, none⟩) n0 n0 (1) g0 61 _ h20_0 _ (by first | rfl | (push_cast; omega)) (by omega) (.inr ⟨g0, n0 * 5, rfl, Nat.le_refl _, hr0, by omega⟩ : OwnAt _ g0 (some ⟨g0, 0, none⟩) 61 5 n0)).mono ?_
  rintro e w16 ⟨rfl, hb, _⟩
  have hb' : w15.grownBy w16 (some g0) := hb
  have hP : Past w w16 := below_marked hP hb (.inr ⟨g0, n0 * 5, rfl, Nat.le_refl _, hr0, by omega⟩ : OwnAt _ g0 (some ⟨g0, 0, none⟩) 61 5 n0) (by omega)
  have hx0 := ArcsAt.old hx0E hx0 hb' (by omega)
  have hx1 := TurnsAt.old hx1E hx1 hb' (by omega)
  have a0_0 := cell_far hb' a0_0 (by simp only [ne_eq]; omega)
  have a0_1 := cell_far hb' a0_1 (by simp only [ne_eq]; omega)
  have hz := ArcsAt.old hzE hz hb' (by omega)
  have v_0 := cell_far hb' v_0 (by simp only [ne_eq]; omega)
  have v_1 := cell_far hb' v_1 (by simp only [ne_eq]; omega)
  have hi := ArcsAt.young (by rw [← HN.out]; exact ho) hi hb' (by omega)
  have ho := ho.young hb' (by omega)
  have r_0 := cell_far hb' r_0 (by simp only [ne_eq]; omega)
  have r_1 := cell_far hb' r_1 (by simp only [ne_eq]; omega)
  have hr1 := hr1.young hb' (by omega)
  have s16 := hb'.size
  clear hb hb' hr0
  go_wp2_with fail
  refine (markTurnS_any (some ⟨g1, 0, none⟩) n1 n1 (1 + 5 * n0) g1 56 _ h20_1 _ (by first | rfl | (push_cast; omega)) (by omega) (.inr ⟨g1, n1 * 3, rfl, Nat.le_refl _, hr1, by omega⟩ : OwnAt _ g1 (some ⟨g1, 0, none⟩) 56 3 n1)).mono ?_
  rintro e w17 ⟨rfl, hb, _⟩
  have hb' : w16.grownBy w17 (some g1) := hb
  have hP : Past w w17 := below_marked hP hb (.inr ⟨g1, n1 * 3, rfl, Nat.le_refl _, hr1, by omega⟩ : OwnAt _ g1 (some ⟨g1, 0, none⟩) 56 3 n1) (by omega)
  have hx0 := ArcsAt.old hx0E hx0 hb' (by omega)
  have hx1 := TurnsAt.old hx1E hx1 hb' (by omega)
  have a0_0 := cell_far hb' a0_0 (by simp only [ne_eq]; omega)
  have a0_1 := cell_far hb' a0_1 (by simp only [ne_eq]; omega)
  have hz := ArcsAt.old hzE hz hb' (by omega)
  have v_0 := cell_far hb' v_0 (by simp only [ne_eq]; omega)
  have v_1 := cell_far hb' v_1 (by simp only [ne_eq]; omega)
  have hi := ArcsAt.young (by rw [← HN.out]; exact ho) hi hb' (by omega)
  have ho := ho.young hb' (by omega)
  have r_0 := cell_far hb' r_0 (by simp only [ne_eq]; omega)
  have r_1 := cell_far hb' r_1 (by simp only [ne_eq]; omega)
  have s17 := hb'.size
  clear hb hb' hr1
  have hkn : ¬ (((1 + 5 * n0 : Nat) : Int) + 3 * (n1 : Int) < 0) := by omega
  go_wp2_with fail
  refine (eqNet_same mz A7 A4 N c7 c4 zs _ hzl HN.out.symm hi hz).mono ?_
  rintro e w18 ⟨rfl, hb⟩
  have hx0 := hx0.below hb
  have hx1 := hx1.below hb
  have a0_0 := cell_in hb a0_0
  have a0_1 := cell_in hb a0_1
  have hz := hz.below hb
  have v_0 := cell_in hb v_0
  have v_1 := cell_in hb v_1
  have hi := hi.below hb
  have ho := ho.below hb
  have r_0 := cell_in hb r_0
  have r_1 := cell_in hb r_1
  have hP := Past.trans hP hb
  have s18 := hb.size
  clear hb
  go_wp2_with fail
  refine (markNet_any mz A7 N c7 1 w8.heap.size 61 _ hzl _ rfl (by omega) ho).mono ?_
  rintro e w19 ⟨rfl, hb, hk⟩
  have hbl : Below w8.heap.size w18 w19 := below_own hb ho (by omega)
  have hP : Past w w19 := below_marked hP hb ho (by omega)
  clear hi ho
  have hx0 := ArcsAt.under hx0E hx0 hbl (by omega)
  have hx1 := TurnsAt.under hx1E hx1 hbl (by omega)
  have a0_0 := (hbl.cell (p := ⟨w.heap.size, 0, none⟩) (by simp only; omega)).trans a0_0
  have a0_1 := (hbl.cell (p := ⟨w.heap.size, 1, none⟩) (by simp only; omega)).trans a0_1
  have hz := ArcsAt.under hzE hz hbl (by omega)
  have v_0 := (hbl.cell (p := ⟨w4.heap.size, 0, none⟩) (by simp only; omega)).trans v_0
  have v_1 := (hbl.cell (p := ⟨w4.heap.size, 1, none⟩) (by simp only; omega)).trans v_1
  have r_0 := hb.cell r_0 (fun e => hneA e.symm)
  have r_1 := hb.cell r_1 (fun e => hneA e.symm)
  clear hb hbl
  go_wp2_with fail
  refine (heldNet_any mz A7 N c7 1 _ hzl _ rfl (by omega) hk).mono ?_
  rintro e w20 ⟨rfl, hb⟩
  have hx0 := hx0.below hb
  have hx1 := hx1.below hb
  have a0_0 := cell_in hb a0_0
  have a0_1 := cell_in hb a0_1
  have hz := hz.below hb
  have v_0 := cell_in hb v_0
  have v_1 := cell_in hb v_1
  have r_0 := cell_in hb r_0
  have r_1 := cell_in hb r_1
  have hk := hk.below hb
  have hP := Past.trans hP hb
  have s20 := hb.size
  clear hb
  have hqn : ¬ (((1 : Nat) : Int) + 5 * (N : Int) < 0) := by omega
  go_wp2_with fail
  refine (toNet_any m0 A0 n0 c0 xs0 _ h20_0 HX0.out hx0).mono ?_
  rintro e w21 ⟨tg0, rfl, hb, hg, tm0⟩
  have hx0 := hx0.below hb
  have hx1 := hx1.below hb
  have a0_0 := cell_in hb a0_0
  have a0_1 := cell_in hb a0_1
  have hz := hz.below hb
  have v_0 := cell_in hb v_0
  have v_1 := cell_in hb v_1
  have r_0 := cell_in hb r_0
  have r_1 := cell_in hb r_1
  have hk := hk.below hb
  have hP := Past.trans hP hb
  have s21 := hb.size
  clear hb hg
  go_wp2_with fail
  refine (toTurnS_any A1 n1 c1 xs1 _ h20_1 HX1.out hx1).mono ?_
  rintro e w22 ⟨tg1, rfl, hb, hg, tm1⟩
  have hx0 := hx0.below hb
  have hx1 := hx1.below hb
  have a0_0 := cell_in hb a0_0
  have a0_1 := cell_in hb a0_1
  have hz := hz.below hb
  have v_0 := cell_in hb v_0
  have v_1 := cell_in hb v_1
  have r_0 := cell_in hb r_0
  have r_1 := cell_in hb r_1
  have hk := hk.below hb
  have tm0 := tm0.below hb
  have hP := Past.trans hP hb
  have s22 := hb.size
  clear hb hg
  go_wp2_with fail
  refine (implTurnNet_any m0 _ n0 n0 xs0 _ n1 n1 xs1 _ h20_0 HX0.out (tm0.arcs HX0.out) h20_1 HX1.out (tm1.at_ HX1.out)).mono ?_
  rintro e w23 ⟨A20, c20, rfl, hi20, _, hb⟩
  rw [← HK.out]
  rw [← HZ.out] at hi20
  rw [← HZ.out, ← HMZ.out, ← HN.out]
  have hx0 := hx0.below hb
  have hx1 := hx1.below hb
  have a0_0 := cell_in hb a0_0
  have a0_1 := cell_in hb a0_1
  have hz := hz.below hb
  have v_0 := cell_in hb v_0
  have v_1 := cell_in hb v_1
  have r_0 := cell_in hb r_0
  have r_1 := cell_in hb r_1
  have hk := hk.below hb
  have tm0 := tm0.below hb
  have tm1 := tm1.below hb
  have hP := Past.trans hP hb
  have s23 := hb.size
  clear hb
  have hb : Past w23 (w23.alloc (.cells #[.int .i64 mz, .slice A20 N c20] 31)) := (Past.refl _).alloc _
  obtain ⟨w24, hw6⟩ : ∃ u, u = w23.alloc (.cells #[.int .i64 mz, .slice A20 N c20] 31) := ⟨_, rfl⟩
  have a0_0o := fun (o : Obj) => cell_in ((Past.refl w23).alloc o) a0_0
  have a0_1o := fun (o : Obj) => cell_in ((Past.refl w23).alloc o) a0_1
  have v_0o := fun (o : Obj) => cell_in ((Past.refl w23).alloc o) v_0
  have v_1o := fun (o : Obj) => cell_in ((Past.refl w23).alloc o) v_1
  have r_0o := fun (o : Obj) => cell_in ((Past.refl w23).alloc o) r_0
  have r_1o := fun (o : Obj) => cell_in ((Past.refl w23).alloc o) r_1
  go_wp2_with fail
  clear a0_0o a0_1o v_0o v_1o r_0o r_1o
  have h_0 : w24.cell? ⟨w23.heap.size, 0, none⟩ = some (.int .i64 mz) := by rw [hw6]; go_simp
  have h_1 : w24.cell? ⟨w23.heap.size, 1, none⟩ = some (.slice A20 N c20) := by rw [hw6]; go_simp
  rw [← hw6] at hb ⊢
  have sxh : w23.heap.size < w24.heap.size := lt_of_cell h_0
  clear hw6
  have hx0 := hx0.below hb
  have hx1 := hx1.below hb
  have a0_0 := cell_in hb a0_0
  have a0_1 := cell_in hb a0_1
  have hz := hz.below hb
  have v_0 := cell_in hb v_0
  have v_1 := cell_in hb v_1
  have r_0 := cell_in hb r_0
  have r_1 := cell_in hb r_1
  have hk := hk.below hb
  have tm0 := tm0.below hb
  have tm1 := tm1.below hb
  have hi20 := hi20.below hb
  have hP := Past.trans hP hb
  have s24 := hb.size
  clear hb
  go_wp2_with fail
  refine (eqNet_same mz A20 A4 N c20 c4 zs _ hzl HN.out.symm hi20 hz).mono ?_
  rintro e w25 ⟨rfl, hb⟩
  have hx0 := hx0.below hb
  have hx1 := hx1.below hb
  have a0_0 := cell_in hb a0_0
  have a0_1 := cell_in hb a0_1
  have hz := hz.below hb
  have v_0 := cell_in hb v_0
  have v_1 := cell_in hb v_1
  have r_0 := cell_in hb r_0
  have r_1 := cell_in hb r_1
  have hk := hk.below hb
  have tm0 := tm0.below hb
  have tm1 := tm1.below hb
  have hi20 := hi20.below hb
  have h_0 := cell_in hb h_0
  have h_1 := cell_in hb h_1
  have hP := Past.trans hP hb
  have s25 := hb.size
  clear hb
  go_wp2_with fail
  refine (heldNet_any mz A7 N c7 1 _ hzl _ rfl (by omega) hk).mono ?_
  rintro e w26 ⟨rfl, hb⟩
  have hx0 := hx0.below hb
  have hx1 := hx1.below hb
  have a0_0 := cell_in hb a0_0
  have a0_1 := cell_in hb a0_1
  have hz := hz.below hb
  have v_0 := cell_in hb v_0
  have v_1 := cell_in hb v_1
  have r_0 := cell_in hb r_0
  have r_1 := cell_in hb r_1
  have hk := hk.below hb
  have tm0 := tm0.below hb
  have tm1 := tm1.below hb
  have hi20 := hi20.below hb
  have h_0 := cell_in hb h_0
  have h_1 := cell_in hb h_1
  have hP := Past.trans hP hb
  have s26 := hb.size
  clear hb
  go_wp2
  go_ret
  exact ⟨rfl, hP⟩

set_option maxRecDepth 100000 in
theorem exactTurnNet_lifted (os : Os) (started : os.Started) (H : Type) (enc : TypeId × Value → H) :
    ReturnsInHanded {} Try.checked os 6 .any (Rows.fnExactTurnNetSpec.pre6 enc Try.prog Try.f6 Rows.fnExactTurnNetRow.domain false) (Rows.fnExactTurnNetSpec.post enc Try.prog Try.f6 false true false false) := by
  refine returnsInHanded_of_change (C := Try.checked) own started (by kernel_rfl) Try.func6
    (ChangeSpec.witness6 (enc := enc) (C := Try.checked) false ⟨#[], #[.agg #[.int .i64 0, .slice none 0 0], .slice none 0 0], []⟩ 8 (by kernel_rfl) (by kernel_rfl) (by kernel_rfl) (by kernel_rfl)) ?_
  intro W base args ds gs before hval0 hW hcnd _
  have hval : ∀ (j : Nat) t v, Try.f6.params[j]? = some t → args[j]? = some v → Value.okWide Try.prog W .any base t v := hval0
  have hW' := hW
  obtain ⟨p, q, hA0, hV, rfl, hfz, hnd⟩ := hW
  have hA : DataW.TrodAll enc Try.prog W 0 (fun _ => true) true Try.f6.params.toList args.toList ds p := hA0
  rw [Try.params6] at hA hval
  obtain ⟨v0, vs0, d0, ds0, p0, q0, hargs, rfl, rfl, h0, r0⟩ := trodAll_cons hA
  obtain ⟨v1, vs1, d1, ds1, p1, q1, rfl, rfl, rfl, h1, r1⟩ := trodAll_cons r0
  obtain ⟨rfl, rfl, rfl⟩ := trodAll_nil r1
  obtain rfl : args = #[v0, v1] := by cases args; simp_all
  obtain ⟨rfl, rfl⟩ := trodVars_none hV
  have k0 := h0
  have lt0 := places_lt k0
  have k1 := h1
  have lt1 := places_lt k1
  obtain ⟨m0, A0, n0, c0, xs0, rfl, hl0, hn0, hx0, _⟩ := open_net (hval 0 24 v0 rfl rfl) h0
  obtain ⟨A1, n1, c1, xs1, rfl, hl1, hn1, hx1⟩ := open_Turn (hval 1 25 v1 rfl rfl) h1
  clear hA0 hval0
  refine (exactTurnNet_walk m0 A0 n0 c0 xs0 A1 n1 c1 xs1 W hn0 hl0 hx0 hn1 hl1 hx1).mono fun e W' ⟨he, bel⟩ => ?_
  subst he
  exact ⟨_, rfl, _, _, _, [], _, [], hW', trodAll_mk1 (shut_bool Try.underlying4 _), (trodAll_cons_mk (Below.trod laidOut (by kernel_rfl) (of_decide_eq_true (by kernel_rfl)) k0 bel lt0) (trodAll_cons_mk (Below.trod laidOut (by kernel_rfl) (of_decide_eq_true (by kernel_rfl)) k1 bel lt1) trodAll_mk0)), rfl, bel.frame _, fun h => by cases h⟩

/-- The given statement. -/
theorem exactTurnNet_proved : Rows.FnExactTurnNetSaid :=
  OpenClaim.holds_of_wide 6 Try.f6 rfl rfl rfl rfl rfl rfl rfl ⟨rfl, rfl, rfl, rfl, rfl⟩ rfl rfl rfl rfl rfl (by kernel_rfl) Try.func6 (by kernel_rfl)
    (of_decide_eq_true (by kernel_rfl)) (by unfold Func.isWrapper; first | (rw [if_pos (by decide +kernel)]; kernel_rfl) | (rw [if_neg (by decide +kernel)]; exact ⟨rfl, rfl⟩))
    (fun os started H enc _ => exactTurnNet_lifted os started H enc)

end Go.Proofs.Ytjocbjjkihgcdaa
