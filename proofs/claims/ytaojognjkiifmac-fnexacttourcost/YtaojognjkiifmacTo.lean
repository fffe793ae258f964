/-
  The copies that the laws make: toArcS, toNet, toIntS.
-/
import Derived.Test.YtaojognjkiifmacLeaf
import Derived.Test.YtaojognjkiifmacInfoI
namespace Go.Proofs.Ytaojognjkiifmac
open Go.RowKit

theorem infoArc : (Try.prog.info? 88).map (fun i => (i.zero, i.size, i.bytes)) = some (some (.agg #[.int .i64 0, .int .i64 0, .int .i64 0, .int .i64 0, .int .i64 0]), 5, 40) := by kernel_rfl
theorem makeArc (n : Nat) (hn : n ≤ 1048576) (u : World) : (Instr.makeSlice 28 (.int .i64 (n : Int)) (.int .i64 (n : Int))).run Try.prog u =
    .ok (.slice (some ⟨u.heap.size, 0, none⟩) n n) (u.alloc (.cells (madeCells #[.int .i64 0, .int .i64 0, .int .i64 0, .int .i64 0, .int .i64 0] (n * 5)) 88)) := by
  obtain ⟨i0, hi, hz0, hz1, hz2⟩ := info_parts infoArc
  have h := run_make (P := Try.prog) u 28 88 i0 _ Try.underlying28 hi hz0 .i64 .i64 (n : Int) (n : Int) (by omega) (Int.le_refl _) (by rw [hz2]; omega) (by omega)
  simpa [hz1, Value.cells] using h

theorem toArcS_any (A : Option Addr) (n cap : Nat) (xs : List ArcD) (w : World) (hn : n ≤ 1048576) (hl : xs.length = n) (hx : ArcsAt w A xs) :
    Calls Try.prog 48 #[.slice A n cap] w fun e w' => e = .returned (.slice (some ⟨w.heap.size, 0, none⟩) n n) ∧ Below w.heap.size w w' ∧ Made w' w.heap.size 88 n xs n := by
  have hmk := makeArc n hn
  go_enter Try.func48, Try.ntmps48
  go_wp2
  go_loopw [4] (fun i wr => ∃ k : Nat, k ≤ n ∧ i = .int .i64 k ∧ Below w.heap.size w wr ∧ Made wr w.heap.size 88 n xs k) (fun i _ => n - (intOf i).toNat)
  case atStart => exact ⟨0, by omega, rfl, (Below.refl _ _).alloc (Nat.le_refl _) _, Made.start _ _ _ _ _ (by simp [size_madeCells])⟩
  case round =>
    obtain ⟨k, hk, rfl, hb, hm⟩ := hrel
    by_cases hlt : k < n
    · obtain ⟨⟨f, t, c, l, d⟩, ha⟩ : ∃ a, xs[k]? = some a := ⟨_, List.getElem?_eq_getElem (by omega)⟩
      obtain ⟨g, o, rfl, c0, c1, c2, c3, c4⟩ := (hx.below hb) k _ ha
      have HA := Lib.hid ha
      have HL := Lib.hid hl
      clear ha hl
      go_wp2_with fail
      refine (toArc_any f t c l d _).mono ?_
      rintro e w1 ⟨rfl, hb1⟩
      have hm1 := hm.below hb1
      obtain ⟨v0, e0⟩ := hm1.1.cell (i := k * 5) (by omega)
      obtain ⟨v1, e1⟩ := hm1.1.cell (i := k * 5 + 1) (by omega)
      obtain ⟨v2, e2⟩ := hm1.1.cell (i := k * 5 + 2) (by omega)
      obtain ⟨v3, e3⟩ := hm1.1.cell (i := k * 5 + 3) (by omega)
      obtain ⟨v4, e4⟩ := hm1.1.cell (i := k * 5 + 4) (by omega)
      have z0 := hm1.1.frozen (k * 5)
      have z1 := hm1.1.frozen (k * 5 + 1)
      have z2 := hm1.1.frozen (k * 5 + 2)
      have z3 := hm1.1.frozen (k * 5 + 3)
      have z4 := hm1.1.frozen (k * 5 + 4)
      go_wp2
      go_roundw
      case rel => exact ⟨k + 1, by omega, by go_num, (((((((hb.trans (hb1.mono hb.size)).setCell (by simp) _).setCell (by simp) _).setCell (by simp) _).setCell (by simp) _).setCell (by simp) _)), hm1.next HA.out hlt⟩
      case measure => simp [intOf]; omega
    · obtain rfl : n = k := by omega
      go_wp2
      go_ret
      exact ⟨rfl, hb, hm⟩
/-- A net in new memory of the call's own is handed back. -/
def NetNew (w : World) (m : Int) (n : Nat) (xs : List ArcD) (e : Ending) (w' : World) : Prop :=
  ∃ g, e = .returned (.agg #[.int .i64 m, .slice (some ⟨g, 0, none⟩) n n]) ∧ Below w.heap.size w w' ∧ w.heap.size ≤ g ∧ Made w' g 88 n xs n

theorem toNet_any (m : Int) (A : Option Addr) (n cap : Nat) (xs : List ArcD) (w : World) (hn : n ≤ 1048576) (hl : xs.length = n) (hx : ArcsAt w A xs) :
    Calls Try.prog 17 #[.agg #[.int .i64 m, .slice A n cap]] w (NetNew w m n xs) := by
  have HL := Lib.hid hl
  clear hl
  go_enter Try.func17, Try.ntmps17
  go_wp2_with fail
  have hb0 : Below w.heap.size w (((w.alloc (.cells #[.int .i64 m, .slice A n cap] 24)).alloc (.cells #[.int .i64 0, .slice none 0 0] 30)).alloc (.cells #[.int .i64 m, .slice none 0 0] 30)) :=
    (((Below.refl _ _).alloc (Nat.le_refl _) _).alloc (by simp) _).alloc (by simp; omega) _
  refine (toArcS_any A n cap xs _ hn HL.out (hx.below hb0)).mono ?_
  rintro e w1 ⟨rfl, hb1, hm1⟩
  have a0 := cell_in (p := ⟨w.heap.size + 1, 0, none⟩) (v := .int .i64 0) hb1 (by go_simp)
  have a1 := cell_in (p := ⟨w.heap.size + 1, 1, none⟩) (v := .slice none 0 0) hb1 (by go_simp)
  have a2 := cell_in (p := ⟨w.heap.size + 1 + 1, 0, none⟩) (v := .int .i64 m) hb1 (by go_simp)
  have a3 := cell_in (p := ⟨w.heap.size + 1 + 1, 1, none⟩) (v := .slice none 0 0) hb1 (by go_simp)
  have z0 := free_in (p := ⟨w.heap.size + 1, 0, none⟩) (v := .int .i64 0) hb1 (by go_simp) (by go_simp)
  have z1 := free_in (p := ⟨w.heap.size + 1, 1, none⟩) (v := .slice none 0 0) hb1 (by go_simp) (by go_simp)
  have z3 := free_in (p := ⟨w.heap.size + 1 + 1, 1, none⟩) (v := .slice none 0 0) hb1 (by go_simp) (by go_simp)
  simp only [World.size_alloc] at hm1
  go_wp2
  exact bodyPost_ret (v := .agg #[.int .i64 m, .slice (some ⟨w.heap.size + 1 + 1 + 1, 0, none⟩) n n]) (by simp [results, Try.results17, go_sem, a0, a1]) rfl
    ⟨_, rfl, (((bel_trans hb0 hb1).setCell (by simp; omega) _).setCell (by simp) _).setCell (by simp) _, by omega, ((hm1.far _ _ (by simp)).far _ _ (by simp; omega)).far _ _ (by simp; omega)⟩

end Go.Proofs.Ytaojognjkiifmac
