/-
  Memory of a call's own: what does not touch it.
-/
import Derived.Test.YtifbigfkakappaaBase
namespace Go.Proofs.Ytifbigfkakappaa
open Go.RowKit

theorem OwnAt.lower {w : World} {lo lo' t size n : Nat} {A : Option Addr} (h : OwnAt w lo A t size n) (hl : lo' ≤ lo) : OwnAt w lo' A t size n := by
  rcases h with h | ⟨g, sz, hA, h1, r⟩
  · exact .inl h
  · exact .inr ⟨g, sz, hA, by omega, r⟩
theorem OwnAt.ne_blk {w : World} {lo t size n g : Nat} {A : Option Addr} (h : OwnAt w lo A t size n) (hg : g < lo) : blk A ≠ some g := by
  rcases h with ⟨rfl, _⟩ | ⟨g', sz, rfl, h1, r⟩
  · simp [blk]
  · simp [blk]; omega
theorem OwnAt.ne_new {w : World} {lo t size n : Nat} {A : Option Addr} (h : OwnAt w lo A t size n) : blk A ≠ some w.heap.size := by
  rcases h with ⟨rfl, _⟩ | ⟨g', sz, rfl, h1, r, _⟩
  · simp [blk]
  · have := r.lt
    simp [blk]; omega
theorem OwnAt.far {w : World} {lo t size n : Nat} {A : Option Addr} (h : OwnAt w lo A t size n) (p : Addr) (u : Value) : OwnAt (w.setCell p u) lo A t size n := by
  rcases h with h | ⟨g, sz, hA, h1, r, h2⟩
  · exact .inl h
  · exact .inr ⟨g, sz, hA, h1, r.set p u, h2⟩
theorem ArcsAt.far {w : World} {A : Option Addr} {xs : List ArcD} (h : ArcsAt w A xs) (p : Addr) (u : Value) (hne : blk A ≠ some p.block) : ArcsAt (w.setCell p u) A xs := fun k a hk => by
  obtain ⟨g, o, rfl, h5⟩ := h k a hk
  exact ⟨g, o, rfl, h5.keep (Below.heap_setCell w p u g (fun e => hne (by simp [blk, e])))⟩

end Go.Proofs.Ytifbigfkakappaa
