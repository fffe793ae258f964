/-
  DrawWalkJoin: a net and two lists of numbers, in new memory.
-/
import Derived.Test.YtgeoheeibebmcabDraw6
import Derived.Test.YtgeoheeibebmcabForm2
import Derived.Test.YtgeoheeibebmcabCost
namespace Go.Proofs.Ytgeoheeibebmcab
open Go.RowKit

theorem NN.form {w : World} {lo : Nat} {v : Value} {zs : List Int} (h : Res w lo v zs) (hn : NN v) : ∃ g c, v = .slice (some ⟨g, 0, none⟩) zs.length c ∧ IntsAt w (some ⟨g, 0, none⟩) zs ∧ zs.length ≤ c ∧ c ≤ maxLen := by
  obtain ⟨A, c, rfl, hi, hlc, hcm, hA⟩ := h.form2
  rcases hA with ⟨rfl, h0, rfl⟩ | ⟨g, rfl⟩
  · exact absurd (by rw [h0]) hn
  · exact ⟨g, c, rfl, hi, hlc, hcm⟩

/-- A net and two lists were drawn into new memory. -/
def JoinG (w : World) (e : Ending) (w' : World) : Prop :=
  ∃ (m : Int) (B : Option Addr) (k cap : Nat) (xs : List ArcD) (va : Value) (za : List Int) (vb : Value) (zb : List Int), e = .returned (.tuple #[.agg #[.int .i64 m, .slice B k cap], va, vb]) ∧ xs.length = k ∧ k ≤ 13 ∧ ArcsAt w' B xs ∧ za.length ≤ 22 ∧ Res w' w.heap.size va za ∧ NN va ∧ zb.length ≤ 22 ∧ Res w' w.heap.size vb zb ∧ NN vb ∧ Below w.heap.size w w'

/-- What is handed back, once the result's own block is written. -/
theorem drawn_end {w W4 w5 : World} {R lo lo2 : Nat} {va vb : Value} {za zb : List Int} {xs : List ArcD} {B : Option Addr} (hp4 : Past w W4) (hg5 : W4.drew.grownBy w5 (some R)) (hva : Res W4 lo va za) (hvb : Res w5 lo2 vb zb) (hx : ArcsAt W4 B xs) (hBR : blk B ≠ some R) (hneB : blk B ≠ some w.heap.size) (hRW : w.heap.size ≤ R ∧ R < lo) (hwW : w.heap.size < lo) (h2 : lo ≤ lo2) (m : Int) (B' : Option Addr) (k cap : Nat) :
    ArcsAt ((w5.setCell ⟨w.heap.size, 0, none⟩ (.int .i64 m)).setCell ⟨w.heap.size, 1, none⟩ (.slice B' k cap)) B xs ∧ Res ((w5.setCell ⟨w.heap.size, 0, none⟩ (.int .i64 m)).setCell ⟨w.heap.size, 1, none⟩ (.slice B' k cap)) w.heap.size va za ∧
      Res ((w5.setCell ⟨w.heap.size, 0, none⟩ (.int .i64 m)).setCell ⟨w.heap.size, 1, none⟩ (.slice B' k cap)) w.heap.size vb zb ∧ Below w.heap.size w ((w5.setCell ⟨w.heap.size, 0, none⟩ (.int .i64 m)).setCell ⟨w.heap.size, 1, none⟩ (.slice B' k cap)) := by
  have hp5 : Past w w5 := Below.grown hp4.drew hg5 hp4.size (fun k e => by injection e with e; omega)
  have hva5 := hva.drew.young hg5 hRW.2
  have na : va.ownBlock ≠ some w.heap.size := fun e => own_ne hva5 (g := w.heap.size) hwW e.symm
  have nb : vb.ownBlock ≠ some w.heap.size := fun e => own_ne hvb (g := w.heap.size) (by omega) e.symm
  exact ⟨((hx.drew.grown hg5 (fun b e => by injection e with e; rw [← e]; exact hBR)).far ⟨w.heap.size, 0, none⟩ (.int .i64 m) hneB).far ⟨w.heap.size, 1, none⟩ (.slice B' k cap) hneB,
    Res.lower (own_far (own_far hva5 na _) na _) (Nat.le_of_lt hwW), Res.lower (own_far (own_far hvb nb _) nb _) (by omega),
    Below.setCell (Below.setCell hp5 (p := ⟨w.heap.size, 0, none⟩) (by simp) (.int .i64 m)) (p := ⟨w.heap.size, 1, none⟩) (by simp) (.slice B' k cap)⟩

end Go.Proofs.Ytgeoheeibebmcab
