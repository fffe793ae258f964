/-
  A net turned round: slices.Clone, and what impl.NetBack has turned so far.
-/
import Derived.Test.YtifbigfkakappaaBack
import Derived.Test.YtifbigfkakappaaOwnL
namespace Go.Proofs.Ytifbigfkakappaa
open Go.RowKit

/-- What is handed back of a net turned round: of one that is not ok the empty net. -/
def backN (m : Int) (xs : List ArcD) : Int := if netB m xs then m else 0
def backL (m : Int) (xs : List ArcD) : List ArcD := if netB m xs then xs.map flip else []

theorem backL_len (m : Int) (xs : List ArcD) : (backL m xs).length ≤ xs.length := by
  unfold backL
  split <;> simp
/-- A copy of arcs in new memory. -/
def GivesArcs (w : World) (xs : List ArcD) (e : Ending) (w' : World) : Prop := ∃ v, e = .returned v ∧ ResA w' w.heap.size v xs ∧ Below w.heap.size w w'

set_option maxHeartbeats 400000 in
theorem clone_any (g o n c : Nat) (xs : List ArcD) (w : World) (hn : n ≤ 1048576) (hl : xs.length = n) (hx : ArcsAt w (some ⟨g, o, none⟩) xs) :
    Calls Try.prog 33 #[.slice (some ⟨g, o, none⟩) n c] w (GivesArcs w xs) := by
  have HL := Lib.hid hl
  clear hl
  obtain ⟨i0, hi, hz0, hz1, hz2⟩ := info_parts infoArc
  have heq := fun u : World => Lib.run_eql_slice_nil (P := Try.prog) u 23 57 (some ⟨g, o, none⟩) n c 0 0 Try.underlying23
  simp only [Option.isNone_some] at heq
  have hb0 : Past w (w.alloc (.cells #[] 57)) := (Past.refl _).alloc _
  have hv0 : (w.alloc (.cells #[] 57)).ownsRow w.heap.size 57 5 (.slice (some ⟨w.heap.size, 0, none⟩) 0 0) 0 [] := World.ownsRow_made w _ 0 (Nat.le_refl _) (by unfold maxLen; omega) rfl
  have hnews : ∀ j u, (cellsOf xs)[j]? = some u → (w.alloc (.cells #[] 57)).cell? ((⟨g, o, none⟩ : Addr).add j) = some u := fun j u hu => by
    rw [Addr.add_lit]
    refine cells_of_arcs xs o (fun k a hk => ?_) j u hu
    obtain ⟨g', o', e, h5⟩ := (hx.below hb0) k a hk
    injection e with e
    injection e with e1 e2
    subst e1 e2
    exact h5
  have HV := Lib.hid hv0
  have HN := Lib.hid hnews
  clear hv0 hnews
  go_enter Try.func33, Try.ntmps33
  go_wp2_with (first | (at_builtin; refine wpList_append_own _ rfl _ _ 23 rfl w.heap.size 57 i0 _ 5 40 Try.underlying23 hi hz0 hz1 hz2 rfl (by decide) _ 0 [] rfl HV.out ⟨g, o, none⟩ n c (cellsOf xs) rfl (by rw [cellsOf_length, HL.out]) HN.out (cellsOf_one xs) (by unfold maxLen; omega) (by omega) (by simp) ?_; intro v' w3 hown' hgrow3 hnil3))
  go_ret
  refine ⟨_, rfl, ?_, Past.grownBy hb0 HV.out hgrow3 (Nat.le_refl _)⟩
  unfold ResA
  rw [HL.out]
  simpa using hown'

/-- The first k arcs are turned round, the others not yet. -/
def Turned (w : World) (g sz : Nat) (xs : List ArcD) (k : Nat) : Prop :=
  RowN w g 57 sz ∧ (∀ j a, j < k → xs[j]? = some a → Arc5 w g (j * 5) (flip a)) ∧ (∀ j a, k ≤ j → xs[j]? = some a → Arc5 w g (j * 5) a)

theorem Turned.keep {w w' : World} {g sz k : Nat} {xs : List ArcD} (h : Turned w g sz xs k) (e : w'.heap[g]? = w.heap[g]?) : Turned w' g sz xs k :=
  ⟨h.1.keep e, fun j a hj ha => (h.2.1 j a hj ha).keep e, fun j a hj ha => (h.2.2 j a hj ha).keep e⟩

theorem Turned.next {w : World} {g sz k : Nat} {xs : List ArcD} {f t c l d : Int} (h : Turned w g sz xs k) (ha : xs[k]? = some ⟨f, t, c, l, d⟩) :
    Turned ((w.setCell ⟨g, k * 5, none⟩ (.int .i64 t)).setCell ⟨g, k * 5 + 1, none⟩ (.int .i64 f)) g sz xs (k + 1) := by
  refine ⟨(h.1.set _ _).set _ _, fun j a hj hja => ?_, fun j a hj hja => ?_⟩
  · rcases Nat.lt_or_ge j k with hlt | hge
    · exact ((h.2.1 j a hlt hja).set _ _ (by omega)).set _ _ (by omega)
    · obtain rfl : j = k := by omega
      rw [ha] at hja
      injection hja with hja
      subst hja
      obtain ⟨c0, c1, c2, c3, c4⟩ := h.2.2 j _ (Nat.le_refl _) ha
      have oth : ∀ (u : World) (q o : Nat) (x : Value), q ≠ o → (u.setCell ⟨g, q, none⟩ x).cell? ⟨g, o, none⟩ = u.cell? ⟨g, o, none⟩ := fun u q o x hq =>
        World.cell?_setCell_other u ⟨g, q, none⟩ ⟨g, o, none⟩ x (by intro e; injection e; omega)
      refine ⟨?_, ?_, ?_, ?_, ?_⟩
      · rw [oth _ _ _ _ (by omega)]; exact World.cell?_setCell_same w ⟨g, j * 5, none⟩ _ c0
      · exact World.cell?_setCell_same _ ⟨g, j * 5 + 1, none⟩ _ ((oth _ _ _ _ (by omega)).trans c1)
      · rw [oth _ _ _ _ (by omega), oth _ _ _ _ (by omega)]; exact c2
      · rw [oth _ _ _ _ (by omega), oth _ _ _ _ (by omega)]; exact c3
      · rw [oth _ _ _ _ (by omega), oth _ _ _ _ (by omega)]; exact c4
  · exact ((h.2.2 j a (by omega) hja).set _ _ (by omega)).set _ _ (by omega)

end Go.Proofs.Ytifbigfkakappaa
