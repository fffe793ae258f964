/-
  Marks that are written into memory of the call's own, and found there again: markIntS, heldIntS, markArcS, heldArcS, markNet, heldNet.
-/
import Derived.Test.YtgeoheeibebmcabTo
import Derived.Test.YtgeoheeibebmcabMarkI
namespace Go.Proofs.Ytgeoheeibebmcab
open Go.RowKit

def markArcs (k : Nat) (n : Nat) : List ArcD := (List.range n).map fun i => ⟨((k + 5 * i : Nat) : Int), ((k + 5 * i + 1 : Nat) : Int), ((k + 5 * i + 2 : Nat) : Int), ((k + 5 * i + 3 : Nat) : Int), ((k + 5 * i + 4 : Nat) : Int)⟩
theorem markArcs_length (k n : Nat) : (markArcs k n).length = n := by simp [markArcs]
theorem markArcs_at (k n i : Nat) (h : i < n) : (markArcs k n)[i]? = some ⟨((k + 5 * i : Nat) : Int), ((k + 5 * i + 1 : Nat) : Int), ((k + 5 * i + 2 : Nat) : Int), ((k + 5 * i + 3 : Nat) : Int), ((k + 5 * i + 4 : Nat) : Int)⟩ := by simp [markArcs, h]

/-- Made, with room to spare. -/
theorem Made.nextMark {w : World} {g t n sz k j : Nat} (h : RowN w g t sz ∧ ∀ i a, i < j → (markArcs k n)[i]? = some a → Arc5 w g (i * 5) a) (hj : j < n) (hs : n * 5 ≤ sz) :
    let w' := (((((w.setCell ⟨g, j * 5, none⟩ (.int .i64 ((k + 5 * j : Nat) : Int))).setCell ⟨g, j * 5 + 1, none⟩ (.int .i64 ((k + 5 * j + 1 : Nat) : Int))).setCell ⟨g, j * 5 + 2, none⟩ (.int .i64 ((k + 5 * j + 2 : Nat) : Int))).setCell ⟨g, j * 5 + 3, none⟩ (.int .i64 ((k + 5 * j + 3 : Nat) : Int))).setCell ⟨g, j * 5 + 4, none⟩ (.int .i64 ((k + 5 * j + 4 : Nat) : Int)))
    RowN w' g t sz ∧ ∀ i a, i < j + 1 → (markArcs k n)[i]? = some a → Arc5 w' g (i * 5) a := by
  intro w'
  refine ⟨((((h.1.set _ _).set _ _).set _ _).set _ _).set _ _, fun i a hi hia => ?_⟩
  rcases Nat.lt_or_ge i j with hlt | hge
  · exact (((((h.2 i a hlt hia).set _ _ (by omega)).set _ _ (by omega)).set _ _ (by omega)).set _ _ (by omega)).set _ _ (by omega)
  · obtain rfl : i = j := by omega
    rw [markArcs_at k n i hj] at hia
    injection hia with hia
    subst hia
    exact Arc5.put h.1 (by omega) _ _ _ _ _

/-- The row and the marks so far. -/
def MarkedTo (w : World) (g t sz k n j : Nat) : Prop := RowN w g t sz ∧ ∀ i a, i < j → (markArcs k n)[i]? = some a → Arc5 w g (i * 5) a

theorem ArcsAt.old {wE w w' : World} {A : Option Addr} {xs : List ArcD} {g : Nat} (hE : ArcsAt wE A xs) (h : ArcsAt w A xs) (hg : w.grownBy w' (some g)) (hle : wE.heap.size ≤ g) : ArcsAt w' A xs := fun k x hk => by
  obtain ⟨b, o, rfl, hc⟩ := hE k x hk
  obtain ⟨b', o', e, hc'⟩ := h k x hk
  have hb := hc.lt
  injection e with e
  injection e with e1 e2
  subst e1 e2
  exact ⟨b, o, rfl, hc'.keep (hg.block b hc'.lt (by simp only [ne_eq, Option.some.injEq]; omega))⟩
theorem ArcsAt.young {w w' : World} {A : Option Addr} {xs : List ArcD} {g lo t : Nat} (ho : OwnAt w lo A t 5 xs.length) (h : ArcsAt w A xs) (hg : w.grownBy w' (some g)) (hlt : g < lo) : ArcsAt w' A xs := fun k x hk => by
  obtain ⟨b', o', rfl, hc'⟩ := h k x hk
  rcases ho with ⟨h0, _⟩ | ⟨b, sz, e, hl, _, _⟩
  · cases h0
  · injection e with e
    injection e with e1 e2
    subst e1
    exact ⟨b', o', rfl, hc'.keep (hg.block b' hc'.lt (by simp only [ne_eq, Option.some.injEq]; omega))⟩
theorem ArcsAt.under {wE w w' : World} {A : Option Addr} {xs : List ArcD} {lo : Nat} (hE : ArcsAt wE A xs) (h : ArcsAt w A xs) (hb : Below lo w w') (hle : wE.heap.size ≤ lo) : ArcsAt w' A xs := fun k x hk => by
  obtain ⟨b, o, rfl, hc⟩ := hE k x hk
  obtain ⟨b', o', e, hc'⟩ := h k x hk
  have hb' := hc.lt
  injection e with e
  injection e with e1 e2
  subst e1 e2
  exact ⟨b, o, rfl, hc'.keep (hb.block b (by omega))⟩

end Go.Proofs.Ytgeoheeibebmcab
