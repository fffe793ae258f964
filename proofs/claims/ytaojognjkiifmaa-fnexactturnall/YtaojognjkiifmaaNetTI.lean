/-
  The net whose nodes are arcs: impl.TurnNet. No condition.
-/
import Derived.Test.YtaojognjkiifmaaLineI
namespace Go.Proofs.Ytaojognjkiifmaa
open Go.RowKit

theorem line_any (m : Int) (A : Option Addr) (n c : Nat) (xs : List ArcD) (B : Option Addr) (l cb : Nat) (ts : List TurnD) (w : World) (hn : n ≤ 16) (hnx : xs.length = n) (hx : ArcsAt w A xs) (hl : l ≤ 1048576) (hlt : ts.length = l) (ht : TurnsAt w B ts) (hT : turnsB m xs ts = true) :
    Calls Try.prog 63 #[.agg #[.int .i64 m, .slice A n c], .slice B l cb] w (LineG w n xs ts) :=
  (callsIn_wide (n := 4)).1 (line_in m A n c xs B l cb ts w hn hnx hx hl hlt ht hT)
theorem lineL_len (xs : List ArcD) (ts : List TurnD) (h : xs.length ≤ 16) : (lineL xs ts).length ≤ 256 := by
  have h1 := lineTo_len xs ts xs.length xs.length
  have h2 : xs.length * xs.length ≤ 16 * 16 := Nat.mul_le_mul h h
  rw [lineL]
  omega
theorem tnetL_lenM (m : Int) (xs : List ArcD) (ts : List TurnD) : (tnetL m xs ts).length ≤ 1048576 := by
  have := tnetL_len16 m xs ts
  omega

set_option maxRecDepth 100000 in
set_option maxHeartbeats 2000000 in
theorem implTurnNet_any (m : Int) (A : Option Addr) (n c : Nat) (xs : List ArcD) (B : Option Addr) (l cb : Nat) (ts : List TurnD) (w : World) (hn : n ≤ 1048576) (hnx : xs.length = n) (hx : ArcsAt w A xs) (hl : l ≤ 1048576) (hlt : ts.length = l) (ht : TurnsAt w B ts) :
    Calls Try.prog 35 #[.agg #[.int .i64 m, .slice A n c], .slice B l cb] w (GivesNB w (tnetN m xs ts) (tnetL m xs ts) (tnetB m xs ts)) := by
  have HX := Lib.hid hnx
  have HL := Lib.hid hlt
  clear hnx hlt
  have hb0 : Past w ((w.alloc (.cells #[.int .i64 m, .slice A n c] 32)).alloc (.cells #[.int .i64 0, .slice none 0 0] 32)) := ((Past.refl _).alloc _).alloc _
  go_enter Try.func35, Try.ntmps35
  go_wp2_with fail
  refine (implTurnsOk_any m A n c xs B l cb ts _ hn HX.out (hx.below hb0) hl HL.out (ht.below hb0)).mono ?_
  rintro e w1 ⟨rfl, hb1⟩
  have b0 := cell_in (p := ⟨w.heap.size, 0, none⟩) (v := .int .i64 m) hb1 (by go_simp)
  have b1 := cell_in (p := ⟨w.heap.size, 1, none⟩) (v := .slice A n c) hb1 (by go_simp)
  have e0 := cell_in (p := ⟨w.heap.size + 1, 0, none⟩) (v := .int .i64 0) hb1 (by go_simp)
  have e1 := cell_in (p := ⟨w.heap.size + 1, 1, none⟩) (v := .slice none 0 0) hb1 (by go_simp)
  have z0 := free_in (p := ⟨w.heap.size + 1, 0, none⟩) (v := .int .i64 0) hb1 (by go_simp) (by go_simp)
  have z1 := free_in (p := ⟨w.heap.size + 1, 1, none⟩) (v := .slice none 0 0) hb1 (by go_simp) (by go_simp)
  have hp1 := hb0.trans hb1
  have sw : w.heap.size + 1 < w1.heap.size := lt_of_cell e0
  clear hb0 hb1
  cases hB : turnsB m xs ts with
  | false =>
    have HF : Hid (tnetB m xs ts = false) := tnet_turns hB
    clear hB
    go_wp2
    exact bodyPost_ret (v := .tuple #[.agg #[.int .i64 0, .slice none 0 0], .bool false]) (by simp [results, Try.results35, go_sem, e0, e1]) rfl (givesNB_no HF.out rfl (Below.setCell (Below.setCell hp1 (by simp) _) (by simp) _))
  | true =>
  have HT := Lib.hid hB
  have h16 : xs.length ≤ 16 := ((netB_iff _ _).1 (turnsB_all hB).1).2.1
  have hln := lineL_len xs ts h16
  rw [HX.out] at h16
  clear hB
  go_wp2_with fail
  refine (line_any m A n c xs B l cb ts _ h16 HX.out (hx.below hp1) hl HL.out (ht.below hp1) HT.out).mono ?_
  rintro e w2 ⟨v, rfl, hv, hb2⟩
  have z0 := free_in hb2 e0 z0
  have z1 := free_in hb2 e1 z1
  have e0 := cell_in hb2 e0
  have e1 := cell_in hb2 e1
  have hp2 := hp1.trans hb2
  obtain ⟨D, hD⟩ : ∃ D, D = (lineL xs ts).length := ⟨_, rfl⟩
  obtain ⟨A2, c2, rfl, hx2, _⟩ := hv.form
  rw [← hD] at hv hln
  have hown : w2.ownsRow w1.heap.size 52 5 (.slice A2 D c2) D (cellsOf (lineL xs ts)) := by
    have h := hv
    unfold ResA at h
    rw [← hD] at h
    exact h
  rw [← hD]
  have HD := Lib.hid hD
  clear hD hv hb2 b0 b1
  have hbA : Past w2 (w2.alloc (.cells #[.int .i64 (n : Int), .slice A2 D c2] 32)) := (Past.refl w2).alloc _
  go_wp2_with fail
  refine (implNetOk_any (n : Int) A2 D c2 (lineL xs ts) _ (by omega) HD.out.symm (hx2.below hbA)).mono ?_
  rintro e w3 ⟨rfl, hb3⟩
  have q0 := cell_in (p := ⟨w2.heap.size, 0, none⟩) (v := .int .i64 (n : Int)) hb3 (by go_simp)
  have q1 := cell_in (p := ⟨w2.heap.size, 1, none⟩) (v := .slice A2 D c2) hb3 (by go_simp)
  have hp23 := hbA.trans hb3
  have z0 := free_in hp23 e0 z0
  have z1 := free_in hp23 e1 z1
  have e0 := cell_in hp23 e0
  have e1 := cell_in hp23 e1
  have hown := World.ownsRow.kept hown (grown_of_below hp23 none) (by cases hv : (Value.slice A2 D c2).ownBlock <;> simp)
  have hp3 := hp2.trans hp23
  have hp1s := hp1.size
  have HE : Hid (tnetB m xs ts = netB (n : Int) (lineL xs ts)) := by rw [Hid, tnet_line HT.out, HX.out]
  clear hb3 hbA hp23 hp2 hp1
  cases hO : netB (n : Int) (lineL xs ts) with
  | false =>
    have HV : Hid (tnetB m xs ts = false) := HE.out.trans hO
    clear hO
    go_wp2
    exact bodyPost_ret (v := .tuple #[.agg #[.int .i64 0, .slice none 0 0], .bool false]) (by simp [results, Try.results35, go_sem, e0, e1]) rfl (givesNB_no HV.out rfl (Below.setCell (Below.setCell hp3 (by simp) _) (by simp) _))
  | true =>
    have HV : Hid (tnetB m xs ts = true) := HE.out.trans hO
    clear hO
    go_wp2
    refine bodyPost_ret (v := .tuple #[.agg #[.int .i64 (n : Int), .slice A2 D c2], .bool true]) (by simp [results, Try.results35, go_sem, e0, e1]) rfl ?_
    refine givesNB_yes (lo := w1.heap.size) (cs := cellsOf (lineL xs ts)) HV.out HX.out.symm (by omega) D HD.out rfl ?_ (Below.setCell (Below.setCell hp3 (by simp) _) (by simp) _)
    exact own_far (own_far hown (fun e => own_ne hown (g := w.heap.size + 1) (by omega) e.symm) _) (fun e => own_ne hown (g := w.heap.size + 1) (by omega) e.symm) _

end Go.Proofs.Ytaojognjkiifmaa
