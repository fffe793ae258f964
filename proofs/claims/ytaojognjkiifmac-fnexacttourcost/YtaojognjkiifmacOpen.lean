/-
  A law's arguments as they come in, read as arcs and numbers; and the frame that makes a row of a walk.
-/
import Derived.Test.YtaojognjkiifmacOpenI
import Derived.OpenShut
import Derived.ShutString
import Derived.ChangeOld
import Derived.Deep.Slices
import Derived.Deep.Fields
import Derived.Lib.SmallJoins
namespace Go.Proofs.Ytaojognjkiifmac
open Go.ChangeShapes Go.WideShapes Go.ChangeAt Go.RowKit Go.Deep Go.Joins

set_option maxRecDepth 100000 in
/-- Every arc that a slice of arcs leads to. -/
theorem open_arcs {H : Type} {enc : TypeId × Value → H} {W : World} {fuel : Nat} {v : Value} {x : DataW H × List MemPlace} (h : DataW.trod enc Try.prog W 0 (fun _ => true) true fuel 22 [v] = some x) :
    ∃ (A : Option Addr) (n c : Nat) (xs : List ArcD), v = .slice A n c ∧ xs.length = n ∧ n ≤ maxLen ∧ ArcsAt W A xs := by
  rcases open_slice Try.underlying22 h with ⟨hcs, _⟩ | ⟨a, len, cap, m, n, D, Pl, hcs, _, hl, hm, hmm, _, hi⟩
  · injection hcs with hcs
    exact ⟨none, 0, 0, [], hcs, rfl, Nat.zero_le _, fun k a hk => by simp at hk⟩
  · injection hcs with hcs
    simp only [if_true] at hmm
    subst hmm
    have hC : Try.prog.cellsOf 94 = 5 := by kernel_rfl
    have hI : Try.prog.cellsOf 3 = 1 := by kernel_rfl
    have spot : 0 < len → ∃ g o, a = ⟨g, o, none⟩ := fun h0 => by
      obtain ⟨cs', hc, _⟩ := hi 0 (by omega)
      rw [hC] at hc
      obtain ⟨_, hcl, hat⟩ := World.cells?_some hc
      have := hat 0 (by omega)
      rw [add_add, List.getElem?_eq_getElem (by omega)] at this
      exact spotless this
    have key : ∀ i, i < len → ∃ b : ArcD, ∃ g o, a = ⟨g, o, none⟩ ∧ Arc5 W g (o + i * 5) b := fun i hlt => by
      obtain ⟨cs', hc, ht⟩ := hi i (by omega)
      rw [hC] at hc
      obtain ⟨_, hcl, hat⟩ := World.cells?_some hc
      obtain ⟨ys, n', _, _, _, _, hf⟩ := DataW.trod_struct Try.underlying94 ht
      match cs', hcl with
      | [v0, v1, v2, v3, v4], _ =>
        have h5 : ys.length = 5 := by assumption
        match ys, h5 with
        | [y0, y1, y2, y3, y4], _ =>
          have f0 : DataW.trod enc Try.prog W 0 (fun _ => true) true n' 3 (([v0, v1, v2, v3, v4].drop 0).take (Try.prog.cellsOf 3)) = some y0 := hf 0 _ rfl
          have f1 : DataW.trod enc Try.prog W 0 (fun _ => true) true n' 3 (([v0, v1, v2, v3, v4].drop 1).take (Try.prog.cellsOf 3)) = some y1 := hf 1 _ rfl
          have f2 : DataW.trod enc Try.prog W 0 (fun _ => true) true n' 3 (([v0, v1, v2, v3, v4].drop 2).take (Try.prog.cellsOf 3)) = some y2 := hf 2 _ rfl
          have f3 : DataW.trod enc Try.prog W 0 (fun _ => true) true n' 3 (([v0, v1, v2, v3, v4].drop 3).take (Try.prog.cellsOf 3)) = some y3 := hf 3 _ rfl
          have f4 : DataW.trod enc Try.prog W 0 (fun _ => true) true n' 3 (([v0, v1, v2, v3, v4].drop 4).take (Try.prog.cellsOf 3)) = some y4 := hf 4 _ rfl
          rw [hI] at f0 f1 f2 f3 f4
          obtain ⟨z0, e0, _⟩ := DataW.trod_int Try.underlying3 f0
          obtain ⟨z1, e1, _⟩ := DataW.trod_int Try.underlying3 f1
          obtain ⟨z2, e2, _⟩ := DataW.trod_int Try.underlying3 f2
          obtain ⟨z3, e3, _⟩ := DataW.trod_int Try.underlying3 f3
          obtain ⟨z4, e4, _⟩ := DataW.trod_int Try.underlying3 f4
          simp at e0 e1 e2 e3 e4
          subst e0 e1 e2 e3 e4
          have c0 := hat 0 (by omega)
          have c1 := hat 1 (by omega)
          have c2 := hat 2 (by omega)
          have c3 := hat 3 (by omega)
          have c4 := hat 4 (by omega)
          rw [add_add] at c0 c1 c2 c3 c4
          obtain ⟨g, o, rfl⟩ := spot (by omega)
          simp only [addr_add] at c0 c1 c2 c3 c4
          exact ⟨⟨z0, z1, z2, z3, z4⟩, g, o, rfl, by simpa using c0, by simpa [Nat.add_assoc] using c1, by simpa [Nat.add_assoc] using c2, by simpa [Nat.add_assoc] using c3, by simpa [Nat.add_assoc] using c4⟩
    obtain ⟨F, hF⟩ := choose_lt (α := ArcD) (p := fun i b => ∃ g o, a = ⟨g, o, none⟩ ∧ Arc5 W g (o + i * 5) b) (fun i hlt => by
      obtain ⟨b, h⟩ := key i hlt
      exact ⟨b, h⟩)
    refine ⟨some a, len, _, (List.range len).map F, hcs, by simp, by omega, fun k b hk => ?_⟩
    have hlt : k < len := by simpa using (List.getElem?_eq_some_iff.1 hk).1
    simp [hlt] at hk
    subst hk
    obtain ⟨g, o, ha, h5⟩ := hF k hlt
    exact ⟨g, o, by rw [ha], h5⟩

set_option maxRecDepth 100000 in
/-- A net that comes in. -/
theorem open_net {H : Type} {enc : TypeId × Value → H} {W : World} {r : Reach} {b0 : Nat} {v : Value} {d : DataW H} {p : List MemPlace} (hv : Value.okWide Try.prog W r b0 24 v)
    (h : DataW.Trod enc Try.prog W 0 (fun _ => true) true 24 v d p) :
    ∃ (m : Int) (A : Option Addr) (n c : Nat) (xs : List ArcD), v = .agg #[.int .i64 m, .slice A n c] ∧ xs.length = n ∧ n ≤ maxLen ∧ ArcsAt W A xs ∧ (Lit.int .i64 m).wf = true := by
  obtain ⟨v0, v1, y0, y1, k, rfl, _, _, h0, h1⟩ := open_agg2 Try.underlying24 (by kernel_rfl) (by kernel_rfl) hv h
  obtain ⟨m, e0, _, hm⟩ := DataW.trod_int Try.underlying3 h0
  injection e0 with e0
  subst e0
  obtain ⟨A, n, c, xs, rfl, hl, hn, hx⟩ := open_arcs h1
  exact ⟨m, A, n, c, xs, rfl, hl, hn, hx, hm⟩

end Go.Proofs.Ytaojognjkiifmac
