/-
  A region that draws its order, in a round of a loop over an iterator: its operations only read, its callees may lay blocks of their own: walked once, in the order of the text, in every later world.
-/
import Derived.Sort.QuietThIn
import Derived.Sort.BigQuietIn
import Derived.OwnWalkIn
import Derived.Test.YtaojognjkiifmaaQPast
namespace Go.Proofs.Ytaojognjkiifmaa
open Go.RowKit

section
variable {F : Fence} {n : Nat} {P : Program} {C : World → Prop}

/-- What is asked of an operation in every world of a class holds in one of them, whatever the frame is, unless it defers. -/
theorem op_round {o : Oper} {a : Act} {K : Act → Prop} {K' : Act → World → Prop} {Q' : Exit → Act → World → Prop} {w : World} (hd : ∀ c, o.op ≠ .defer c) (hw : C w) (h : ∀ a w', C w' → K a → K' a w')
    (ha : o.askedIn F P a C) (hh : o.quietIn F n P a C K) : o.wpIn F n P a w K' Q' := by
  obtain ⟨v, h1, h2⟩ := hh
  have h3 := h1 w hw
  refine ⟨ha w hw, ?_⟩
  rw [Oper.semAt_plain F _ _ hd]
  unfold Oper.quietAtIn at h3
  generalize (execOp a.eval o).run P w = r at h3 ⊢
  match r, h3 with
  | .ok (.value u) w', h3 => obtain ⟨rfl, rfl⟩ := h3; exact h _ _ hw h2
  | .ok .skip w', h3 => obtain ⟨rfl, rfl⟩ := h3; exact h _ _ hw h2
  | .ok (.enter f args) w', h3 =>
    obtain ⟨rfl, hdp, hc⟩ := h3
    refine ⟨hdp, hc.mono fun e w'' q => ?_⟩
    obtain ⟨rfl, hw''⟩ := q
    exact h _ _ hw'' h2
theorem any_round {md : Region.Mode} {ops : Array Oper} {Q : Act → Prop} {Q' : Exit → Act → World → Prop} (hd : ∀ (i : Nat) o, ops[i]? = some o → ∀ c, o.op ≠ .defer c) (hQ : ∀ a w, C w → Q a → Q' .normal a w) : ∀ (fuel : Nat) (listed : Array Bool) (a : Act) (w : World), C w →
    wpAnyQIn F n P md ops C Q fuel listed a → wpAnyIn F n P md ops Q' fuel listed a w
  | 0, _, _, _, hw, h => ⟨h.1, hQ _ _ hw h.2⟩
  | fuel + 1, listed, a, w, hw, h => by
    refine ⟨fun h0 => hQ _ _ hw (h.1 h0), fun i hi => ?_⟩
    have hq := h.2 i hi
    have next := fun a' w' (hw' : C w') => any_round (md := md) hd hQ fuel (listed.setIfInBounds i true) a' w' hw'
    unfold qOpIn at hq
    unfold wpOpIn
    split
    · rename_i ho
      simp only [ho] at hq
      exact next _ _ hw hq
    · rename_i o ho
      simp only [ho] at hq
      obtain ⟨ha, hq⟩ := hq
      split
      · rename_i hwt
        simp only [hwt, if_true] at hq
        exact op_round (hd i o ho) hw next ha hq
      · rename_i hwt
        simp only [hwt] at hq
        exact ⟨ha w hw, next _ _ hw hq⟩
theorem wpIn_region_past {id : Nat} {Q : Exit → Act → World → Prop} {a : Act} {w : World} {l : List Oper} (hm : P.follows .mixedOrders = true) (hB : Region.lexB .any l.toArray = true) (hd : ∀ o ∈ l, ∀ c, o.op ≠ .defer c)
    (h : wpQuietIn F n P l.toArray (fun w' => ∃ p : PastOf w, w' = p.W) (fun a' => ∀ w', (∃ p : PastOf w, w' = p.W) → Q .normal a' w') l a) : (Code.region id l.toArray true).wpIn F n P Q a w := by
  simp only [Region.lexB, Bool.and_eq_true] at hB
  refine wpIn_region_any hm (any_round (C := fun w' => ∃ p : PastOf w, w' = p.W) (Q := fun a' => ∀ w', (∃ p : PastOf w, w' = p.W) → Q .normal a' w') (fun i o ho => hd o (by have := List.mem_of_getElem? (l := l) (i := i) (a := o) (by simpa using ho); exact this)) (fun _ w' hw' h => h w' hw') _ _ _ _ ⟨⟨w.drew, (Past.refl w).drew⟩, rfl⟩ ?_)
  have := wpAnyQIn_lex (F := F) (n := n) (P := P) (C := fun w' => ∃ p : PastOf w, w' = p.W) (md := .any) hB.1 l 0 (Array.replicate l.toArray.size false) a (by simp) (by simpa using hB.2) h
  simpa using this
/-- A callee's contract, met in a later world. -/
theorem pastIn_call {f : FuncId} {args : Array Value} {w : World} {p : PastOf w} {v : Value}
    (h : CallsIn F n P f args p.W fun e w' => e = .returned v ∧ Below p.W.heap.size p.W w') : CallsIn F n P f args p.W fun e w'' => e = .returned v ∧ ∃ p : PastOf w, w'' = p.W :=
  h.mono fun _ _ ⟨he, hb⟩ => ⟨he, ⟨_, p.h.trans hb⟩, rfl⟩
end

end Go.Proofs.Ytaojognjkiifmaa
