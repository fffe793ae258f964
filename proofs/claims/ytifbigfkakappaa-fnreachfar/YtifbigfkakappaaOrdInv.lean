/-
  A region whose operations come in an open order, by one invariant over the set of operations that are done: a step for each operation, not one for each order.
-/
import Derived.Test.YtifbigfkakappaaDrawInv
namespace Go.Proofs.Ytifbigfkakappaa
open Go.RowKit

/-- One operation more is done. -/
def upd (d : Nat → Bool) (i : Nat) : Nat → Bool := fun j => if j = i then true else d j

/-- Whatever these edges lead to is done. -/
def AllOn (md : Region.Mode) (d : Nat → Bool) : List Edge → Prop
  | [] => True
  | e :: r => (Region.binds md e = true → d e.on = true) ∧ AllOn md d r
theorem allOn_iff {md : Region.Mode} {d : Nat → Bool} : ∀ {l : List Edge}, AllOn md d l ↔ ∀ e ∈ l, Region.binds md e = true → d e.on = true
  | [] => by simp [AllOn]
  | e :: r => by simp [AllOn, allOn_iff (l := r)]

/-- For each operation of a list, with its number. -/
def EachOp (F : Nat → Oper → Prop) : Nat → List Oper → Prop
  | _, [] => True
  | k, o :: r => F k o ∧ EachOp F (k + 1) r
theorem eachOp_get {F : Nat → Oper → Prop} : ∀ {l : List Oper} {k i : Nat} {o : Oper}, EachOp F k l → l[i]? = some o → F (k + i) o
  | [], _, _, _, _, h => by simp at h
  | x :: r, k, 0, o, hE, h => by
    simp at h
    subst h
    exact hE.1
  | x :: r, k, i + 1, o, hE, h => by
    have := eachOp_get (i := i) hE.2 (by simpa using h)
    rwa [show k + 1 + i = k + (i + 1) by omega] at this

def backB (ops : Array Oper) : Bool := (List.range ops.size).all fun i => ((ops[i]?).map (·.after.all fun e => decide (e.on < i))).getD true

section
variable {P : Program} {ops : Array Oper} {Q : Exit → Act → World → Prop} {md : Region.Mode}

theorem oper_then {o : Oper} {a : Act} {w : World} {K K' : Act → World → Prop} (h : o.wp P a w K (Exit.then K' Q)) : o.wp P a w K Q := by
  unfold Oper.wp at *
  generalize (execOp a.eval o).run P w = r at *
  cases r with
  | ok n w' =>
    cases n <;> simp only [Oper.upon] at h ⊢ <;>
      first
        | exact h
        | exact Calls.mono h (fun e w'' he => by cases e <;> exact he)
  | halt x w' => cases x <;> simp only [Oper.upon] at h ⊢ <;> exact h

theorem wpOp_of_list {i : Nat} {o : Oper} {K : Act → World → Prop} {a : Act} {w : World} (hi : ops[i]? = some o) (h : wpList P ops (Exit.then K Q) [o] a w) : wpOp P ops Q i K a w := by
  unfold wpOp
  rw [hi]
  simp only [wpList] at h
  show if _ then _ else _
  split
  · rename_i hw
    rw [if_pos hw] at h
    rcases h with h | h
    · exact .inl (oper_then h)
    · exact .inr h
  · rename_i hw
    rw [if_neg hw] at h
    exact h

def openN (l : Array Bool) : Nat := l.toList.count false

theorem openN_set {l : Array Bool} {i : Nat} (h : l[i]? = some false) : openN (l.setIfInBounds i true) + 1 = openN l := by
  obtain ⟨hlt, he⟩ := Array.getElem?_eq_some_iff.1 h
  have hlt' : i < l.toList.length := by simpa using hlt
  have hmem : false ∈ l.toList := by rw [← he]; simp
  have hpos : 0 < l.toList.count false := List.count_pos_iff.2 hmem
  unfold openN
  rw [Array.toList_setIfInBounds, List.count_set hlt']
  have : l.toList[i] = false := by simpa using he
  rw [this]
  simp only [beq_self_eq_true, if_true, Bool.true_beq, Bool.false_eq_true, if_false]
  omega

theorem ready_mem {l : Array Bool} {i : Nat} (h : i ∈ Region.ready md ops l) : ∃ o, ops[i]? = some o ∧ l.getD i true = false ∧ AllOn md (fun j => l.getD j false) o.after.toList := by
  simp only [Region.ready, List.mem_filter, List.mem_range, Bool.and_eq_true] at h
  obtain ⟨hlt, h1, h2⟩ := h
  refine ⟨ops[i], Array.getElem?_eq_getElem hlt, by simpa using h1, allOn_iff.2 fun e he hb => ?_⟩
  rw [Array.getElem?_eq_getElem hlt] at h2
  simp only [Option.map_some, Option.getD_some, Array.all_eq_true_iff_forall_mem] at h2
  have := h2 e (by simpa using he)
  rw [hb] at this
  simpa using this

theorem ready_of {l : Array Bool} {i : Nat} {o : Oper} (hi : ops[i]? = some o) (hl : l.getD i true = false) (ha : AllOn md (fun j => l.getD j false) o.after.toList) : i ∈ Region.ready md ops l := by
  obtain ⟨hlt, he⟩ := Array.getElem?_eq_some_iff.1 hi
  simp only [Region.ready, List.mem_filter, List.mem_range, Bool.and_eq_true]
  refine ⟨hlt, by simpa using hl, ?_⟩
  rw [hi]
  simp only [Option.map_some, Option.getD_some, Array.all_eq_true_iff_forall_mem]
  intro e he
  have := allOn_iff.1 ha e (by simpa using he)
  cases hb : Region.binds md e with
  | false => simp
  | true => simpa using this hb

/-- Where nothing is ready all is done. -/
theorem all_done (hb : backB ops = true) {l : Array Bool} (hs : l.size = ops.size) (hr : Region.ready md ops l = []) : ∀ i, i < ops.size → l.getD i false = true := by
  intro i
  induction i using Nat.strongRecOn with
  | ind i ih =>
    intro hlt
    have hli : i < l.size := by omega
    cases hg : l.getD i false with
    | true => rfl
    | false =>
      exfalso
      have hgt : l.getD i true = false := by
        rw [Array.getD_eq_getD_getElem?, Array.getElem?_eq_getElem hli] at hg ⊢
        simpa using hg
      have hmem := ready_of (md := md) (Array.getElem?_eq_getElem hlt) hgt (allOn_iff.2 fun e he _ => by
        simp only [backB, List.all_eq_true, List.mem_range] at hb
        have := hb i hlt
        rw [Array.getElem?_eq_getElem hlt] at this
        simp only [Option.map_some, Option.getD_some, Array.all_eq_true_iff_forall_mem, decide_eq_true_eq] at this
        have hon := this e (by simpa using he)
        exact ih e.on hon (by omega))
      rw [hr] at hmem
      cases hmem

theorem upd_get {l : Array Bool} {i : Nat} (hlt : i < l.size) : (fun j => (l.setIfInBounds i true).getD j false) = upd (fun j => l.getD j false) i := by
  funext j
  unfold upd
  rw [Array.getD_eq_getD_getElem?, Array.getElem?_setIfInBounds]
  by_cases h : j = i
  · subst h
    simp [hlt]
  · rw [if_neg (Ne.symm h), if_neg h]
    exact (Array.getD_eq_getD_getElem? ..).symm

theorem wpAny_inv (hb : backB ops = true) (J : (Nat → Bool) → Act → World → Prop)
    (hstep : EachOp (fun i o => ∀ d a w, J d a w → d i = false → AllOn md d o.after.toList → wpList P ops (Exit.then (J (upd d i)) Q) [o] a w) 0 ops.toList)
    (hend : ∀ d a w, (∀ i, i < ops.size → d i = true) → J d a w → Q .normal a w) :
    ∀ (fuel : Nat) (l : Array Bool) (a : Act) (w : World), l.size = ops.size → openN l ≤ fuel → J (fun j => l.getD j false) a w → wpAny P md ops Q fuel l a w := by
  intro fuel
  induction fuel with
  | zero =>
    intro l a w hs hf hJ
    have hr : Region.ready md ops l = [] := by
      refine List.eq_nil_iff_forall_not_mem.2 fun i hi => ?_
      obtain ⟨o, _, hl, _⟩ := ready_mem hi
      have hf0 : l[i]? = some false := by
        rw [Array.getD_eq_getD_getElem?] at hl
        cases h : l[i]? with
        | none => rw [h] at hl; simp at hl
        | some b => rw [h] at hl; simp at hl; rw [hl]
      have := openN_set hf0
      omega
    exact ⟨hr, hend _ _ _ (all_done hb hs hr) hJ⟩
  | succ fuel ih =>
    intro l a w hs hf hJ
    refine ⟨fun hr => hend _ _ _ (all_done hb hs hr) hJ, fun i hi => ?_⟩
    obtain ⟨o, ho, hl, ha⟩ := ready_mem hi
    have hf0 : l[i]? = some false := by
      rw [Array.getD_eq_getD_getElem?] at hl
      cases h : l[i]? with
      | none => rw [h] at hl; simp at hl
      | some b => rw [h] at hl; simp at hl; rw [hl]
    have hlt := (Array.getElem?_eq_some_iff.1 hf0).1
    have hset := openN_set hf0
    have hl' : l.getD i false = false := by rw [Array.getD_eq_getD_getElem?, hf0]; rfl
    have hst := eachOp_get (i := i) hstep (by simpa using ho) _ a w hJ (by simpa using hl') ha
    rw [Nat.zero_add] at hst
    refine wpOp_mono (fun a' w' hJ' => ih _ a' w' (by simpa using hs) (by omega) ?_) (wpOp_of_list ho hst)
    rw [upd_get hlt]
    exact hJ'

/-- A region in an open order, by an invariant. -/
theorem region_inv {id : Nat} {a : Act} {w : World} (hm : P.follows .mixedOrders = true) (hb : backB ops = true) (J : (Nat → Bool) → Act → World → Prop) (h0 : J (fun _ => false) a w.drew)
    (hstep : EachOp (fun i o => ∀ d a w, J d a w → d i = false → AllOn .any d o.after.toList → wpList P ops (Exit.then (J (upd d i)) Q) [o] a w) 0 ops.toList)
    (hend : ∀ d a w, (∀ i, i < ops.size → d i = true) → J d a w → Q .normal a w) : (Code.region id ops true).wp P Q a w := by
  refine wp_region_any hm (wpAny_inv hb J hstep hend _ _ _ _ (by simp) ?_ ?_)
  · unfold openN
    simp
  · have : (fun j => (Array.replicate ops.size false).getD j false) = fun _ => false := by
      funext j
      rw [Array.getD_eq_getD_getElem?, Array.getElem?_replicate]
      split <;> rfl
    rw [this]
    exact h0
end

end Go.Proofs.Ytifbigfkakappaa
