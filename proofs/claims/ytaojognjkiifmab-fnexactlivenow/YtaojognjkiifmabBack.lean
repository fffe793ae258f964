/-
  A net turned round: spec.l1Back, spec.NetBack, slices.Clone, impl.NetBack. And what is known of a slice of arcs that a call hands back in new memory.
-/
import Derived.Test.YtaojognjkiifmabOk
import Derived.Test.YtaojognjkiifmabTo
import Derived.Lib.SliceRun
import Derived.BigRegion
namespace Go.Proofs.Ytaojognjkiifmab
open Go.RowKit

def cellsOf : List ArcD → List Value
  | [] => []
  | a :: xs => .int .i64 a.f :: .int .i64 a.t :: .int .i64 a.c :: .int .i64 a.l :: .int .i64 a.d :: cellsOf xs

theorem cellsOf_append (a b : List ArcD) : cellsOf (a ++ b) = cellsOf a ++ cellsOf b := by
  induction a with
  | nil => rfl
  | cons x a ih => simp [cellsOf, ih]
theorem cellsOf_length (xs : List ArcD) : (cellsOf xs).length = xs.length * 5 := by
  induction xs with
  | nil => rfl
  | cons x a ih => simp [cellsOf, ih]; omega
theorem cellsOf_one (xs : List ArcD) : ∀ u ∈ cellsOf xs, u.oneCell' = true := by
  induction xs with
  | nil => simp [cellsOf]
  | cons x a ih =>
    intro u hu
    simp only [cellsOf, List.mem_cons] at hu
    rcases hu with rfl | rfl | rfl | rfl | rfl | hu
    all_goals first | rfl | exact ih u hu

theorem cells_of_arcs {w : World} {g : Nat} (xs : List ArcD) : ∀ o, (∀ k a, xs[k]? = some a → Arc5 w g (o + k * 5) a) → ∀ j u, (cellsOf xs)[j]? = some u → w.cell? ⟨g, o + j, none⟩ = some u := by
  induction xs with
  | nil => intro o _ j u h; simp [cellsOf] at h
  | cons a xs ih =>
    intro o h j u hu
    have h0 := h 0 a rfl
    simp only [Nat.zero_mul, Nat.add_zero] at h0
    match j, hu with
    | 0, hu => simp [cellsOf] at hu; subst hu; exact h0.1
    | 1, hu => simp [cellsOf] at hu; subst hu; exact h0.2.1
    | 2, hu => simp [cellsOf] at hu; subst hu; exact h0.2.2.1
    | 3, hu => simp [cellsOf] at hu; subst hu; exact h0.2.2.2.1
    | 4, hu => simp [cellsOf] at hu; subst hu; exact h0.2.2.2.2
    | j + 5, hu =>
      have := ih (o + 5) (fun k b hk => by
        have := h (k + 1) b (by simpa using hk)
        rw [show o + (k + 1) * 5 = o + 5 + k * 5 by omega] at this
        exact this) j u (by simpa [cellsOf] using hu)
      rw [show o + 5 + j = o + (j + 5) by omega] at this
      exact this

theorem arcs_of_cells {w : World} {g : Nat} (xs : List ArcD) : ∀ o, (∀ j u, (cellsOf xs)[j]? = some u → w.cell? ⟨g, o + j, none⟩ = some u) → ∀ k a, xs[k]? = some a → Arc5 w g (o + k * 5) a := by
  induction xs with
  | nil => intro o _ k a h; simp at h
  | cons b xs ih =>
    intro o h k a hk
    cases k with
    | zero =>
      simp only [List.getElem?_cons_zero, Option.some.injEq] at hk
      subst hk
      simp only [Nat.zero_mul, Nat.add_zero]
      exact ⟨h 0 _ rfl, h 1 _ rfl, h 2 _ rfl, h 3 _ rfl, h 4 _ rfl⟩
    | succ k =>
      have := ih (o + 5) (fun j u hu => by
        have := h (j + 5) u (by simpa [cellsOf] using hu)
        rw [show o + (j + 5) = o + 5 + j by omega] at this
        exact this) k a (by simpa using hk)
      rw [show o + 5 + k * 5 = o + (k + 1) * 5 by omega] at this
      exact this

/-- v is a slice of the call's own (from block lo on) that holds these arcs. -/
def ResA (w : World) (lo : Nat) (v : Value) (xs : List ArcD) : Prop := w.ownsRow lo 34 5 v xs.length (cellsOf xs)

theorem ResA.nil (w : World) (lo : Nat) : ResA w lo (.slice none 0 0) [] := World.ownsRow_nil w lo _ _
theorem ResA.form {w : World} {lo : Nat} {v : Value} {xs : List ArcD} (h : ResA w lo v xs) : ∃ A c, v = .slice A xs.length c ∧ ArcsAt w A xs ∧ OwnAt w lo A 34 5 xs.length := by
  rcases h.2 with ⟨rfl, h0⟩ | ⟨g, cap, cur, rfl, hlo, hh, hn, hm, hs, ht⟩
  · have : xs = [] := List.eq_nil_of_length_eq_zero h0
    subst this
    exact ⟨none, 0, rfl, fun k x hk => by simp at hk, .inl ⟨rfl, rfl⟩⟩
  · refine ⟨_, _, rfl, fun k a hk => ⟨g, 0, rfl, arcs_of_cells xs 0 (fun j u hu => ?_) k a hk⟩, .inr ⟨g, cur.size, rfl, hlo, ⟨cur, hh, rfl⟩, by rw [hs]; exact Nat.mul_le_mul_right _ hn⟩⟩
    have := h.cells (g := g) rfl j u hu
    rw [Addr.add_lit] at this
    exact this
theorem ResA.formN {w : World} {lo n : Nat} {v : Value} {xs : List ArcD} (h : ResA w lo v xs) (hl : xs.length = n) : ∃ A c, v = .slice A n c ∧ ArcsAt w A xs ∧ OwnAt w lo A 34 5 n := by
  subst hl
  exact h.form
theorem ResA.below {w w' : World} {lo : Nat} {v : Value} {xs : List ArcD} (h : ResA w lo v xs) (hb : Below w.heap.size w w') : ResA w' lo v xs :=
  World.ownsRow.kept h (grown_of_below hb none) (by cases hv : v.ownBlock <;> simp)
theorem ResA.lower {w : World} {lo lo' : Nat} {v : Value} {xs : List ArcD} (h : ResA w lo v xs) (hl : lo' ≤ lo) : ResA w lo' v xs := by
  refine ⟨h.1, ?_⟩
  rcases h.2 with h0 | ⟨g, cap, cur, hv, hlo, r⟩
  · exact .inl h0
  · exact .inr ⟨g, cap, cur, hv, by omega, r⟩

/-- A net in new memory is handed back. -/
def GivesNet (w : World) (m : Int) (xs : List ArcD) (e : Ending) (w' : World) : Prop :=
  ∃ A c, e = .returned (.agg #[.int .i64 m, .slice A xs.length c]) ∧ ArcsAt w' A xs ∧ OwnAt w' w.heap.size A 34 5 xs.length ∧ Below w.heap.size w w'

def flip (a : ArcD) : ArcD := ⟨a.t, a.f, a.c, a.l, a.d⟩

theorem take_flip (xs : List ArcD) (k : Nat) (a : ArcD) (h : xs[k]? = some a) : (xs.take (k + 1)).map flip = (xs.take k).map flip ++ [flip a] := by
  rw [List.take_add_one, h]
  simp

theorem five_new (w : World) (x0 x1 x2 x3 x4 : Value) (t : Nat) : ∀ j u, ([x0, x1, x2, x3, x4] : List Value)[j]? = some u → (w.alloc (.cells #[x0, x1, x2, x3, x4] t)).cell? ((⟨w.heap.size, 0, none⟩ : Addr).add j) = some u := by
  intro j u hu
  rw [Addr.add_lit, Nat.zero_add, cell_of_row _ _ _ _ _ _ (heap_alloc_new w _)]
  simpa using hu

set_option maxHeartbeats 1000000 in
theorem l1Back_any (m : Int) (A : Option Addr) (n c : Nat) (xs : List ArcD) (w : World) (hn : n ≤ 16) (hl : xs.length = n) (hx : ArcsAt w A xs) :
    Calls Try.prog 98 #[.agg #[.int .i64 m, .slice A n c]] w (GivesNet w m (xs.map flip)) := by
  have HL := Lib.hid hl
  clear hl
  obtain ⟨i0, hi, hz0, hz1, hz2⟩ := info_parts infoArc
  have hb0 : Past w (w.alloc (.cells #[.int .i64 m, .slice A n c] 25)) := (Past.refl _).alloc _
  go_enter Try.func98, Try.ntmps98
  go_wp2
  go_loopw [4] (fun q wr => ∃ (k : Nat) (v : Value), k ≤ n ∧ q = .int .i64 k ∧ wr.ownsRow (w.heap.size + 1 + 1 + 1) 34 5 v k (cellsOf ((xs.take k).map flip)) ∧ wr.cell? ⟨w.heap.size + 1 + 1, 0, none⟩ = some (.int .i64 m) ∧ wr.cell? ⟨w.heap.size + 1 + 1, 1, none⟩ = some v ∧
      RowN wr (w.heap.size + 1) 25 2 ∧ RowN wr (w.heap.size + 1 + 1) 25 2 ∧ Past (w.alloc (.cells #[.int .i64 m, .slice A n c] 25)) wr) (fun q _ => n - (intOf q).toNat)
  case atStart =>
    refine ⟨0, _, by omega, rfl, World.ownsRow_nil _ _ _ _, by go_simp, by go_simp, ?_, ?_, ((Past.refl _).alloc _).alloc _⟩
    · exact ⟨#[.int .i64 0, .slice none 0 0], by have := heap_alloc_new (w.alloc (.cells #[.int .i64 m, .slice A n c] 25)) (.cells #[.int .i64 0, .slice none 0 0] 25); rw [Below.heap_alloc _ _ _ (by simp)]; simpa using this, rfl⟩
    · exact ⟨#[.int .i64 m, .slice none 0 0], by have := heap_alloc_new ((w.alloc (.cells #[.int .i64 m, .slice A n c] 25)).alloc (.cells #[.int .i64 0, .slice none 0 0] 25)) (.cells #[.int .i64 m, .slice none 0 0] 25); simpa using this, rfl⟩
  case round =>
    obtain ⟨k, v, hk, rfl, hv, o0, o1, r1, r2, hb⟩ := hrel
    have b0 := cell_in (p := ⟨w.heap.size, 0, none⟩) (v := .int .i64 m) hb (by go_simp)
    have b1 := cell_in (p := ⟨w.heap.size, 1, none⟩) (v := .slice A n c) hb (by go_simp)
    have hz := r2.lt
    have hz1' : w.heap.size + 1 < wr.heap.size := r1.lt
    have hz0' : w.heap.size < wr.heap.size := hb.lt
    by_cases hlt : k < n
    · obtain ⟨⟨f, t, c', l, d⟩, ha⟩ : ∃ a, xs[k]? = some a := ⟨_, List.getElem?_eq_getElem (by have := HL.out; omega)⟩
      obtain ⟨g, o, rfl, c0, c1, c2, c3, c4⟩ := ((hx.below hb0).below hb) k _ ha
      have z1 := r2.frozen 1
      have HF := Lib.hid (take_flip xs k _ ha)
      clear ha
      have hW : Past wr ((wr.alloc (.cells #[.int .i64 f, .int .i64 t, .int .i64 c', .int .i64 l, .int .i64 d] 34)).alloc (.cells #[.int .i64 t, .int .i64 f, .int .i64 c', .int .i64 l, .int .i64 d] 34)) := ((Past.refl wr).alloc _).alloc _
      have hvW := (hv.alloc (.cells #[.int .i64 f, .int .i64 t, .int .i64 c', .int .i64 l, .int .i64 d] 34)).alloc (.cells #[.int .i64 t, .int .i64 f, .int .i64 c', .int .i64 l, .int .i64 d] 34)
      have HW := Lib.hid hW
      have HV := Lib.hid hvW
      clear hW hvW
      go_wp2_with (first | (at_builtin; refine wpList_append_lies _ rfl _ _ 23 rfl (w.heap.size + 1 + 1 + 1) 34 i0 _ 5 40 Try.underlying23 hi hz0 hz1 hz2 rfl (by decide) v k _ rfl HV.out ⟨wr.heap.size + 1, 0, none⟩ 1 1 [.int .i64 t, .int .i64 f, .int .i64 c', .int .i64 l, .int .i64 d] rfl rfl (by have := five_new (wr.alloc (.cells #[.int .i64 f, .int .i64 t, .int .i64 c', .int .i64 l, .int .i64 d] 34)) (.int .i64 t) (.int .i64 f) (.int .i64 c') (.int .i64 l) (.int .i64 d) 34; simpa using this) (cellsOf_one [⟨t, f, c', l, d⟩]) (by omega) (by unfold maxLen; omega) (by omega) (by simp; omega) _ rfl ?_; intro gg cap w3 hown' hgrow3 hat hlt3; have o1 := hgrow3.cell (cell_in HW.out o1) (own_ne (g := w.heap.size + 1 + 1) HV.out (by omega)); have r2 : RowN w3 (w.heap.size + 1 + 1) 25 2 := (r2.keep (HW.out.block _ r2.lt)).keep (hgrow3.block _ (Nat.lt_of_lt_of_le r2.lt HW.out.size) (own_ne HV.out (by omega))); have z1 := r2.frozen 1))
      have o0 := hgrow3.cell (cell_in HW.out o0) (own_ne (g := w.heap.size + 1 + 1) HV.out (by omega))
      have r1 : RowN w3 (w.heap.size + 1) 25 2 := (r1.keep (HW.out.block _ r1.lt)).keep (hgrow3.block _ (Nat.lt_of_lt_of_le r1.lt HW.out.size) (own_ne HV.out (by omega)))
      have hb3 := Past.grownBy (hb.trans HW.out) HV.out hgrow3 (by simp)
      have hgg : gg ≠ w.heap.size + 1 + 1 := by
        rcases hat with h | h
        · have := (HV.out.lt gg h).1
          omega
        · simp at h
          omega
      go_roundw
      case rel =>
        refine ⟨k + 1, _, by omega, by go_num, ?_, ?_, World.cell?_setCell_same _ _ _ o1, r1.set _ _, r2.set _ _, Below.setCell hb3 (by simp) _⟩
        · rw [HF.out, cellsOf_append]
          exact own_far hown' (by simpa [Value.ownBlock] using hgg) _
        · exact (World.cell?_setCell_other _ _ _ _ (by simp)).trans o0
      case measure => simp [intOf]; omega
    · obtain rfl : n = k := by omega
      obtain ⟨A', c', rfl, _⟩ : ∃ A' c', v = .slice A' n c' ∧ True := by
        rcases hv.2 with ⟨rfl, h0⟩ | ⟨g, cap, cur, rfl, _⟩
        · exact ⟨none, 0, by rw [h0], trivial⟩
        · exact ⟨_, _, rfl, trivial⟩
      obtain ⟨q0, e0⟩ := r1.cell (i := 0) (by omega)
      obtain ⟨q1, e1⟩ := r1.cell (i := 1) (by omega)
      have z0 := r1.frozen 0
      have z1 := r1.frozen 1
      go_wp2
      have hv' : wr.ownsRow (w.heap.size + 1 + 1 + 1) 34 5 (.slice A' n c') n (cellsOf (xs.map flip)) := by
        have := hv
        rw [List.take_of_length_le (by rw [HL.out]; exact Nat.le_refl _)] at this
        exact this
      have hR : ResA ((wr.setCell ⟨w.heap.size + 1, 0, none⟩ (.int .i64 m)).setCell ⟨w.heap.size + 1, 1, none⟩ (.slice A' n c')) w.heap.size (.slice A' n c') (xs.map flip) := by
        refine ResA.lower (lo := w.heap.size + 1 + 1 + 1) ?_ (by omega)
        unfold ResA
        rw [List.length_map, HL.out]
        exact own_far (own_far hv' (fun e => own_ne hv' (g := w.heap.size + 1) (by omega) e.symm) _) (fun e => own_ne hv' (g := w.heap.size + 1) (by omega) e.symm) _
      obtain ⟨A3, c3, e3, hx3, ho3⟩ := hR.form
      injection e3 with e4 e5 e6
      subst e4 e6
      exact bodyPost_ret (v := .agg #[.int .i64 m, .slice A' n c']) (by simp [results, Try.results98, go_sem, e0, e1]) rfl
        ⟨_, _, by rw [List.length_map, HL.out], hx3, ho3, Below.setCell (Below.setCell (bel_trans hb0 hb) (by simp) _) (by simp) _⟩

end Go.Proofs.Ytaojognjkiifmab
