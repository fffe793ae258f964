/-
  What a call may have turned, as a set of blocks; a heap of what is open, as it lies in memory. No condition.
-/
import Derived.Test.YtaojognjkiifmacNLess
namespace Go.Proofs.Ytaojognjkiifmac
open Go.RowKit

/-- Of what lay in w only blocks in S have turned. -/
structure Ch (S : Nat → Prop) (w w' : World) : Prop where
  os : w'.os = w.os
  tape : w'.tape = w.tape
  output : w'.output = w.output
  size : w.heap.size ≤ w'.heap.size
  block : ∀ k, k < w.heap.size → ¬ S k → w'.heap[k]? = w.heap[k]?

theorem Ch.refl (S : Nat → Prop) (w : World) : Ch S w w := ⟨rfl, rfl, rfl, Nat.le_refl _, fun _ _ _ => rfl⟩
theorem Ch.trans {S S' : Nat → Prop} {a b c : World} (h : Ch S a b) (k : Ch S' b c) (hs : ∀ x, x < a.heap.size → S' x → S x) : Ch S a c :=
  ⟨k.os.trans h.os, k.tape.trans h.tape, k.output.trans h.output, Nat.le_trans h.size k.size, fun x hx hn => (k.block x (Nat.lt_of_lt_of_le hx h.size) (fun e => hn (hs x hx e))).trans (h.block x hx hn)⟩
theorem Ch.of_past {S : Nat → Prop} {w w' : World} (h : Past w w') : Ch S w w' := ⟨h.os, h.tape, h.output, h.size, fun k hk _ => h.block k hk⟩
theorem Ch.of_grown {S : Nat → Prop} {w w' : World} {row : Option Nat} (h : w.grownBy w' row) (hs : ∀ g, row = some g → S g) : Ch S w w' :=
  ⟨h.os, h.tape, h.output, h.size, fun k hk hn => h.block k hk (fun e => hn (hs k e.symm))⟩
theorem Ch.past {S : Nat → Prop} {a b c : World} (h : Ch S a b) (k : Past b c) : Ch S a c := h.trans (Ch.of_past (S := fun _ => False) k) (fun _ _ e => e.elim)
theorem Ch.drewN {S : Nat → Prop} {a b : World} (h : Ch S a b) (n : Nat) : Ch S a (b.drewN n) := ⟨h.os, h.tape, h.output, h.size, h.block⟩
theorem Ch.drew {S : Nat → Prop} {a b : World} (h : Ch S a b) : Ch S a b.drew := ⟨h.os, h.tape, h.output, h.size, h.block⟩
theorem Ch.grown {S : Nat → Prop} {a b c : World} {g : Nat} (h : Ch S a b) (k : b.grownBy c (some g)) (hs : g < a.heap.size → S g) : Ch S a c :=
  h.trans (Ch.of_grown (S := fun x => x = g) k (fun x e => by injection e with e; exact e.symm)) (fun x hx e => by subst e; exact hs hx)
theorem Ch.mono {S S' : Nat → Prop} {a b : World} (h : Ch S a b) (hs : ∀ x, x < a.heap.size → S x → S' x) : Ch S' a b := ⟨h.os, h.tape, h.output, h.size, fun k hk hn => h.block k hk (fun e => hn (hs k hk e))⟩
theorem Ch.cell {S : Nat → Prop} {w w' : World} {p : Addr} {v : Value} (h : Ch S w w') (hc : w.cell? p = some v) (hn : ¬ S p.block) : w'.cell? p = some v :=
  (World.cell?_of_block (h.block _ (lt_of_cell hc) hn)).trans hc
theorem Ch.below {S : Nat → Prop} {w w' : World} {lo : Nat} (h : Ch S w w') (hl : lo ≤ w.heap.size) (hs : ∀ g, g < lo → ¬ S g) : Below lo w w' :=
  ⟨h.os, h.tape, h.output, h.size, fun k hk => h.block k (Nat.lt_of_lt_of_le hk hl) (hs k hk)⟩
theorem Ch.rowN {S : Nat → Prop} {w w' : World} {g t n : Nat} (h : Ch S w w') (r : RowN w g t n) (hn : ¬ S g) : RowN w' g t n := r.keep (h.block g r.lt hn)
theorem Ch.own {S : Nat → Prop} {w w' : World} {lo e size n : Nat} {v : Value} {xs : List Value} (h : Ch S w w') (r : w.ownsRow lo e size v n xs) (hn : ∀ g, v.ownBlock = some g → ¬ S g) : w'.ownsRow lo e size v n xs := by
  refine ⟨r.1, ?_⟩
  rcases r.2 with h0 | ⟨g, cap, cur, hv, hlo, hh, q⟩
  · exact .inl h0
  · refine .inr ⟨g, cap, cur, hv, hlo, ?_, q⟩
    rw [h.block g (by have := (r.lt g (by rw [hv]; rfl)).2; exact this) (hn g (by rw [hv]; rfl))]
    exact hh

/-- A heap in block hp whose items are these. -/
structure HeapAt (w : World) (hp lo : Nat) (v : Value) (H : List OpenD) : Prop where
  row : RowN w hp 110 2
  items : w.cell? ⟨hp, 0, none⟩ = some v
  before : w.cell? ⟨hp, 1, none⟩ = some (.func (.func 87) #[] #[])
  rowH : RowOpen w lo v H
  lt : hp < lo

theorem HeapAt.off {w : World} {hp lo : Nat} {v : Value} {H : List OpenD} (h : HeapAt w hp lo v H) : v.ownBlock ≠ some hp := fun e => own_ne h.rowH h.lt e.symm
theorem HeapAt.ch {S : Nat → Prop} {w w' : World} {hp lo : Nat} {v : Value} {H : List OpenD} (h : HeapAt w hp lo v H) (k : Ch S w w') (h1 : ¬ S hp) (h2 : ∀ g, v.ownBlock = some g → ¬ S g) : HeapAt w' hp lo v H :=
  ⟨k.rowN h.row h1, k.cell h.items h1, k.cell h.before h1, k.own h.rowH h2, h.lt⟩
theorem HeapAt.past {w w' : World} {hp lo : Nat} {v : Value} {H : List OpenD} (h : HeapAt w hp lo v H) (k : Past w w') : HeapAt w' hp lo v H := h.ch (S := fun _ => False) (Ch.of_past k) (fun e => e) (fun _ _ e => e)
/-- The items' slot is written. -/
theorem HeapAt.setItems {w : World} {hp lo : Nat} {v v' : Value} {H H' : List OpenD} (h : HeapAt w hp lo v H) (h' : RowOpen w lo v' H') : HeapAt (w.setCell ⟨hp, 0, none⟩ v') hp lo v' H' := by
  have hne : v'.ownBlock ≠ some hp := fun e => own_ne h' h.lt e.symm
  exact ⟨h.row.set _ _, World.cell?_setCell_same _ _ _ h.items, (World.cell?_setCell_other _ _ _ _ (by simp)).trans h.before, own_far h' hne _, h.lt⟩
/-- Items change places, or are written over. -/
theorem HeapAt.items_ {w w' : World} {hp lo g n cap : Nat} {H H' : List OpenD} (h : HeapAt w hp lo (.slice (some ⟨g, 0, none⟩) n cap) H) (h' : RowOpen w' lo (.slice (some ⟨g, 0, none⟩) n cap) H') (hg : w.grownBy w' (some g)) : HeapAt w' hp lo (.slice (some ⟨g, 0, none⟩) n cap) H' := by
  have hne : hp ≠ g := fun e => h.off (by rw [e]; rfl)
  exact ⟨h.row.keep (hg.block hp h.row.lt (by simpa using hne)), cell_far hg h.items hne, cell_far hg h.before hne, h', h.lt⟩
theorem HeapAt.drew {w : World} {hp lo : Nat} {v : Value} {H : List OpenD} (h : HeapAt w hp lo v H) : HeapAt w.drew hp lo v H := ⟨h.row, h.items, h.before, h.rowH, h.lt⟩
theorem grown_drew {a b : World} {r : Option Nat} (hg : a.grownBy b r) : a.grownBy b.drew r := ⟨hg.os, hg.tape, hg.output, hg.size, hg.block⟩
/-- Two items change places. -/
theorem HeapAt.swap {w : World} {hp lo g n cap i p : Nat} {H : List OpenD} {x0 x1 x2 y0 y1 y2 : Int} (h : HeapAt w hp lo (.slice (some ⟨g, 0, none⟩) n cap) H) (hn : H.length = n) :
    HeapAt ((((((w.setCell ⟨g, i * 3, none⟩ (.int .i64 y0)).setCell ⟨g, i * 3 + 1, none⟩ (.int .i64 y1)).setCell ⟨g, i * 3 + 2, none⟩ (.int .i64 y2)).setCell ⟨g, p * 3, none⟩ (.int .i64 x0)).setCell ⟨g, p * 3 + 1, none⟩ (.int .i64 x1)).setCell ⟨g, p * 3 + 2, none⟩ (.int .i64 x2)).drew hp lo (.slice (some ⟨g, 0, none⟩) n cap) ((H.set i ⟨y0, y1, y2⟩).set p ⟨x0, x1, x2⟩) ∧
      w.grownBy ((((((w.setCell ⟨g, i * 3, none⟩ (.int .i64 y0)).setCell ⟨g, i * 3 + 1, none⟩ (.int .i64 y1)).setCell ⟨g, i * 3 + 2, none⟩ (.int .i64 y2)).setCell ⟨g, p * 3, none⟩ (.int .i64 x0)).setCell ⟨g, p * 3 + 1, none⟩ (.int .i64 x1)).setCell ⟨g, p * 3 + 2, none⟩ (.int .i64 x2)).drew (some g) := by
  obtain ⟨r1, g1⟩ := h.rowH.put hn i y0 y1 y2
  obtain ⟨r2, g2⟩ := r1.put (by rw [List.length_set]; exact hn) p x0 x1 x2
  have h2 := (h.items_ r1 g1).items_ r2 g2
  have hg := grown_trans g1 g2
  exact ⟨h2.drew, grown_drew hg⟩

end Go.Proofs.Ytaojognjkiifmac
