/-
  A region in an open order whose writing operations come one behind the other: each operation looked at once, at the frame as it stands at the end. No condition.
-/
import Derived.Test.YtaojognjkiifmaaOrdInv
import Derived.OwnWalkIn
import Derived.RangeFuncCalls
namespace Go.Proofs.Ytaojognjkiifmaa
open Go.RowKit

/-- No guards, no select, no defer. -/
def plainB (ops : Array Oper) : Bool := ops.toList.all fun o => o.guard.isNone && (match o.op with | .select _ _ => false | .defer _ => false | _ => true)
def bindsTo (md : Region.Mode) (o : Oper) (j : Nat) : Bool := o.after.toList.any fun e => Region.binds md e && (e.on == j)
/-- Whoever reads what another one of them yields comes behind it. -/
def depB (md : Region.Mode) (ops : Array Oper) : Bool := ops.toList.all fun o => o.op.operands.toList.all fun x => match x with
  | .tmp t => (List.range ops.size).all fun j => !(((ops[j]?).bind (·.dst)) == some t) || bindsTo md o j
  | _ => true
/-- No two yield into one slot. -/
def dstB (ops : Array Oper) : Bool := (List.range ops.size).all fun i => (List.range ops.size).all fun j => (i == j) || (((ops[i]?).bind (·.dst)).isNone || !(((ops[i]?).bind (·.dst)) == ((ops[j]?).bind (·.dst))))
/-- The writers, one behind the other. -/
def chainB (md : Region.Mode) (ops : Array Oper) : List Nat → Bool
  | [] => true
  | [i] => decide (i < ops.size)
  | i :: j :: r => decide (i < ops.size) && (match ops[j]? with | some o => bindsTo md o i | none => false) && chainB md ops (j :: r)
/-- Whatever comes ahead of these, over so many edges. -/
def ahead (md : Region.Mode) (ops : Array Oper) : Nat → List Nat → List Nat
  | 0, S => S
  | k + 1, S => ahead md ops k (S ++ S.flatMap fun i => (match ops[i]? with | some o => (o.after.toList.filter (Region.binds md)).map (·.on) | none => []))
def lastB (md : Region.Mode) (ops : Array Oper) (wr : List Nat) : Bool := match wr.getLast? with
  | some z => (List.range ops.size).all fun i => wr.contains i || (ahead md ops ops.size [z]).contains i
  | none => false

section
variable {P : Program} {ops : Array Oper} {md : Region.Mode} {Q : Exit → Act → World → Prop}

def Down (md : Region.Mode) (ops : Array Oper) (d : Nat → Bool) : Prop := ∀ i o, ops[i]? = some o → d i = true → AllOn md d o.after.toList
theorem bindsTo_done {d : Nat → Bool} {o : Oper} {j : Nat} (h : bindsTo md o j = true) (ha : AllOn md d o.after.toList) : d j = true := by
  simp only [bindsTo, List.any_eq_true, Bool.and_eq_true, beq_iff_eq] at h
  obtain ⟨e, he, hb, rfl⟩ := h
  exact allOn_iff.1 ha e he hb
theorem ahead_done {d : Nat → Bool} (hd : Down md ops d) : ∀ (k : Nat) (S : List Nat), (∀ i ∈ S, d i = true) → ∀ i ∈ ahead md ops k S, d i = true
  | 0, S, h => h
  | k + 1, S, h => by
    refine ahead_done hd k _ fun i hi => ?_
    rcases List.mem_append.1 hi with hi | hi
    · exact h i hi
    · obtain ⟨j, hj, hi⟩ := List.mem_flatMap.1 hi
      cases ho : ops[j]? with
      | none => rw [ho] at hi; simp at hi
      | some o =>
        rw [ho] at hi
        obtain ⟨e, he, rfl⟩ := List.mem_map.1 hi
        obtain ⟨he, hb⟩ := List.mem_filter.1 he
        exact allOn_iff.1 (hd j o ho (h j hj)) e he hb

/-- The frame as far as it is done. -/
structure FrameTo (ops : Array Oper) (a0 A : Act) (d : Nat → Bool) (a : Act) : Prop where
  defers : a.defers = A.defers
  size : a.tmps.size = A.tmps.size
  done : ∀ (i : Nat) (o : Oper) (t : Nat), ops[i]? = some o → o.dst = some t → d i = true → a.tmps.getD t undef = A.tmps.getD t undef
  rest : ∀ t : Nat, (∀ (i : Nat) (o : Oper), ops[i]? = some o → o.dst = some t → d i = false) → a.tmps.getD t undef = a0.tmps.getD t undef

theorem getD_set_at (l : Array Value) (t : Nat) (v : Value) (h : v = undef ∨ t < l.size) : (l.setIfInBounds t v).getD t undef = v := by
  rw [Array.getD_eq_getD_getElem?, Array.getElem?_setIfInBounds]
  rw [if_pos rfl]
  by_cases ht : t < l.size
  · simp [ht]
  · rcases h with rfl | h
    · simp [ht]
    · exact absurd h ht
theorem getD_set_off (l : Array Value) (t s : Nat) (v : Value) (h : t ≠ s) : (l.setIfInBounds t v).getD s undef = l.getD s undef := by
  rw [Array.getD_eq_getD_getElem?, Array.getElem?_setIfInBounds, if_neg h, ← Array.getD_eq_getD_getElem?]

theorem FrameTo.put {a0 A a : Act} {d : Nat → Bool} (h : FrameTo ops a0 A d a) (hds : dstB ops = true) {i : Nat} {o : Oper} {v : Value} (ho : ops[i]? = some o) (hv : ∀ t, o.dst = some t → A.tmps.getD t undef = v) : FrameTo ops a0 A (upd d i) (a.put o.dst v) := by
  have two : ∀ j o' t, ops[j]? = some o' → o'.dst = some t → o.dst = some t → j = i := fun j o' t hj h1 h2 => by
    simp only [dstB, List.all_eq_true, List.mem_range, Bool.or_eq_true, beq_iff_eq, Bool.not_eq_true'] at hds
    have hi := (Array.getElem?_eq_some_iff.1 ho).1
    have hj' := (Array.getElem?_eq_some_iff.1 hj).1
    rcases hds j hj' i hi with e | e | e
    · exact e
    · rw [hj] at e; simp [h1] at e
    · rw [hj, ho] at e; simp [h1, h2] at e
  cases hdst : o.dst with
  | none =>
    refine ⟨h.defers, h.size, fun j o' t hj h1 h2 => ?_, fun t ht => h.rest t fun j o' hj h1 => ?_⟩
    · unfold upd at h2
      by_cases e : j = i
      · subst e
        rw [ho] at hj
        injection hj with hj
        subst hj
        rw [hdst] at h1
        cases h1
      · rw [if_neg e] at h2
        exact h.done j o' t hj h1 h2
    · have := ht j o' hj h1
      unfold upd at this
      split at this
      · cases this
      · exact this
  | some s =>
    have hAs := hv s hdst
    have hA : v = undef ∨ s < a.tmps.size := by
      by_cases hs : s < a.tmps.size
      · exact .inr hs
      · left
        have hge : A.tmps.size ≤ s := by rw [← h.size]; exact Nat.le_of_not_lt hs
        rw [← hAs, Array.getD_eq_getD_getElem?, Array.getElem?_eq_none hge]
        rfl
    refine ⟨h.defers, by simp [Act.put, h.size], fun j o' t hj h1 h2 => ?_, fun t ht => ?_⟩
    · by_cases e : t = s
      · subst e
        show (a.tmps.setIfInBounds t v).getD t undef = _
        rw [getD_set_at _ _ _ hA, hAs]
      · show (a.tmps.setIfInBounds s v).getD t undef = _
        rw [getD_set_off _ _ _ _ (Ne.symm e)]
        refine h.done j o' t hj h1 ?_
        unfold upd at h2
        split at h2
        · rename_i e2
          subst e2
          rw [ho] at hj
          injection hj with hj
          subst hj
          rw [hdst] at h1
          injection h1 with h1
          exact absurd h1.symm e
        · exact h2
    · have e : s ≠ t := fun e => by
        subst e
        have := ht i o ho hdst
        simp [upd] at this
      show (a.tmps.setIfInBounds s v).getD t undef = _
      rw [getD_set_off _ _ _ _ e]
      refine h.rest t fun j o' hj h1 => ?_
      have := ht j o' hj h1
      unfold upd at this
      split at this
      · cases this
      · exact this

/-- An operation, carried out at the frame as it stands at the end, yields what stands there. -/
def Yields1 (P : Program) (A : Act) (o : Oper) (w w' : World) : Prop := (execOp A.eval o).run P w = .ok (.value ((o.dst.map fun t => A.tmps.getD t undef).getD undef)) w' ∨ (o.dst = none ∧ (execOp A.eval o).run P w = .ok .skip w')
/-- What each operation does at the frame as it stands at the end: one that reads, in each world ahead of the last writer; a writer, in the world that is its own. -/
def OpAt (P : Program) (A : Act) (wr : List Nat) (ws : Nat → World) (i : Nat) (o : Oper) : Prop :=
  (i ∉ wr → ∀ s, s < wr.length → Yields1 P A o (ws s) (ws s)) ∧ (∀ k, wr[k]? = some i → Yields1 P A o (ws k) (ws (k + 1)))
theorem opAt_quiet {A : Act} {wr : List Nat} {ws : Nat → World} {i : Nat} {o : Oper} (hi : i ∉ wr) (h : ∀ s, s < wr.length → Yields1 P A o (ws s) (ws s)) : OpAt P A wr ws i o := ⟨fun _ => h, fun _ hk => absurd (List.mem_of_getElem? hk) hi⟩
theorem opAt_writer {A : Act} {wr : List Nat} {ws : Nat → World} {i : Nat} {o : Oper} (k : Nat) (hnd : wr.Nodup) (hk : wr[k]? = some i) (h : Yields1 P A o (ws k) (ws (k + 1))) : OpAt P A wr ws i o :=
  ⟨fun hn => absurd (List.mem_of_getElem? hk) hn, fun k' hk' => by
    have hpw := List.pairwise_iff_getElem.1 hnd
    obtain ⟨h1, e1⟩ := List.getElem?_eq_some_iff.1 hk'
    obtain ⟨h2, e2⟩ := List.getElem?_eq_some_iff.1 hk
    have : k' = k := by
      rcases Nat.lt_trichotomy k' k with h | h | h
      · exact absurd (e1.trans e2.symm) (hpw k' k h1 h2 h)
      · exact h
      · exact absurd (e2.trans e1.symm) (hpw k k' h2 h1 h)
    subst this
    exact h⟩

theorem yields1 {A a : Act} {o : Oper} {w w' : World} {K : Act → World → Prop} (h : Yields1 P A o w w') (hK : K (a.put o.dst ((o.dst.map fun t => A.tmps.getD t undef).getD undef)) w') : o.upon P a K Q ((execOp A.eval o).run P w) := by
  rcases h with h | ⟨hd, h⟩
  · rw [h]; exact hK
  · rw [h]
    show K (a.put o.dst undef) w'
    rw [hd] at hK ⊢
    exact hK
theorem any_chain (hb : backB ops = true) (hp : plainB ops = true) (hdep : depB md ops = true) (hds : dstB ops = true) (wr : List Nat) (hch : chainB md ops wr = true) (hla : lastB md ops wr = true) (hnd : wr.Nodup)
    (a0 A : Act) (ws : Nat → World) (hsz : a0.tmps.size = A.tmps.size) (hdf : a0.defers = A.defers) (hbase : ∀ t : Nat, (∀ (i : Nat) (o : Oper), ops[i]? = some o → o.dst ≠ some t) → a0.tmps.getD t undef = A.tmps.getD t undef)
    (hops : EachOp (OpAt P A wr ws) 0 ops.toList) : wpAny P md ops (fun e a w => e = .normal ∧ a = A ∧ w = ws wr.length) ops.size (Array.replicate ops.size false) a0 (ws 0) := by
  have hne : wr ≠ [] := fun e => by rw [e] at hla; simp [lastB] at hla
  have hlen : 0 < wr.length := List.length_pos_iff.2 hne
  have chain : ∀ (l : List Nat), chainB md ops l = true → ∀ k i j, l[k]? = some i → l[k + 1]? = some j → ∃ o, ops[j]? = some o ∧ bindsTo md o i = true := by
    intro l
    induction l with
    | nil => intro _ k i j h; simp at h
    | cons x l ih =>
      intro hc k i j h1 h2
      cases l with
      | nil => simp at h2
      | cons y l =>
        simp only [chainB, Bool.and_eq_true] at hc
        cases k with
        | zero =>
          simp at h1 h2
          subst h1 h2
          cases ho : ops[y]? with
          | none => rw [ho] at hc; simp at hc
          | some o => rw [ho] at hc; exact ⟨o, rfl, hc.1.2⟩
        | succ k => exact ih hc.2 k i j (by simpa using h1) (by simpa using h2)
  let J : (Nat → Bool) → Act → World → Prop := fun d a w => Down md ops d ∧ FrameTo ops a0 A d a ∧ ∃ s, s ≤ wr.length ∧ w = ws s ∧ ∀ k j, wr[k]? = some j → (d j = true ↔ k < s)
  have h0 : J (fun _ => false) a0 (ws 0) := ⟨fun i o _ h => (by cases h), ⟨hdf, hsz, fun i o t _ _ h => (by cases h), fun t _ => rfl⟩, 0, Nat.zero_le _, rfl, fun k j _ => by simp⟩
  refine wpAny_inv hb J ?_ ?_ _ _ _ _ (by simp) (by unfold openN; simp) ?_
  · -- a step
    have each : ∀ (i : Nat) (o : Oper), ops[i]? = some o → ∀ d a w, J d a w → d i = false → AllOn md d o.after.toList → wpList P ops (Exit.then (J (upd d i)) (fun e a w => e = .normal ∧ a = A ∧ w = ws wr.length)) [o] a w := by
      intro i o ho d a w hJ hdi hal
      obtain ⟨hdn, hfr, s, hs, rfl, hw⟩ := hJ
      have hO := eachOp_get (i := i) hops (by simpa using ho)
      rw [Nat.zero_add] at hO
      have hpl := hp
      simp only [plainB, List.all_eq_true, Bool.and_eq_true, Option.isNone_iff_eq_none] at hpl
      obtain ⟨hg, hsd⟩ := hpl o (by have := Array.mem_of_getElem? ho; simpa using this)
      have hcongr : execOp a.eval o = execOp A.eval o := by
        refine execOp_congr o (fun cs b e => by rw [e] at hsd; simp at hsd) fun x hx => ?_
        cases x with
        | tmp t =>
          show a.tmps.getD t undef = A.tmps.getD t undef
          have hd2 := hdep
          simp only [depB, List.all_eq_true] at hd2
          have h3 := hd2 o (by have := Array.mem_of_getElem? ho; simpa using this) (.tmp t) (by simpa using hx)
          simp only [List.all_eq_true, List.mem_range, Bool.or_eq_true, Bool.not_eq_true', beq_eq_false_iff_ne] at h3
          by_cases hex : ∃ (j : Nat) (o' : Oper), ops[j]? = some o' ∧ o'.dst = some t
          · obtain ⟨j, o', hj, hjt⟩ := hex
            rcases h3 j (Array.getElem?_eq_some_iff.1 hj).1 with h4 | h4
            · rw [hj] at h4; simp [hjt] at h4
            · exact hfr.done j o' t hj hjt (bindsTo_done h4 hal)
          · have h5 : ∀ (j : Nat) (o' : Oper), ops[j]? = some o' → o'.dst ≠ some t := fun j o' hj e => hex ⟨j, o', hj, e⟩
            rw [hfr.rest t (fun j o' hj e => absurd e (h5 j o' hj)), hbase t h5]
        | const v => rfl
        | global g => rfl
        | func f => rfl
      have hdn' : Down md ops (upd d i) := fun j o' hj hdj => by
        have mono : ∀ k, d k = true → upd d i k = true := fun k hk => by unfold upd; split <;> simp [hk]
        by_cases e : j = i
        · subst e
          rw [ho] at hj
          injection hj with hj
          subst hj
          exact allOn_iff.2 fun e he hb => mono _ (allOn_iff.1 hal e he hb)
        · have : d j = true := by unfold upd at hdj; rwa [if_neg e] at hdj
          exact allOn_iff.2 fun e he hb => mono _ (allOn_iff.1 (hdn j o' hj this) e he hb)
      have hv : ∀ t, o.dst = some t → A.tmps.getD t undef = (o.dst.map fun t => A.tmps.getD t undef).getD undef := fun t ht => by rw [ht]; rfl
      refine wpList_plain hg fun K hK => ?_
      unfold Oper.wp
      rw [hcongr]
      by_cases hiw : i ∈ wr
      · obtain ⟨k, hk⟩ := List.getElem?_of_mem hiw
        have hks : ¬ k < s := fun h => by rw [(hw k i hk).2 h] at hdi; cases hdi
        have hkl : k < wr.length := (List.getElem?_eq_some_iff.1 hk).1
        have hsk : s = k := by
          rcases Nat.lt_or_ge s k with h | h
          · exfalso
            obtain ⟨i', hi'⟩ : ∃ i', wr[k - 1]? = some i' := ⟨_, List.getElem?_eq_getElem (by omega)⟩
            obtain ⟨o', ho', hbi⟩ := chain wr hch (k - 1) i' i hi' (by rw [show k - 1 + 1 = k by omega]; exact hk)
            rw [ho] at ho'
            injection ho' with ho'
            subst ho'
            have := (hw (k - 1) i' hi').1 (bindsTo_done hbi hal)
            omega
          · omega
        subst hsk
        refine yields1 (hO.2 s hk) (hK _ _ ⟨hdn', hfr.put hds ho hv, s + 1, hkl, rfl, fun k' j hj => ?_⟩)
        unfold upd
        split
        · rename_i e
          subst e
          have : k' = s := by
            have hpw := List.pairwise_iff_getElem.1 hnd
            obtain ⟨h1, e1⟩ := List.getElem?_eq_some_iff.1 hj
            obtain ⟨h2, e2⟩ := List.getElem?_eq_some_iff.1 hk
            rcases Nat.lt_trichotomy k' s with h | h | h
            · exact absurd (e1.trans e2.symm) (hpw k' s h1 h2 h)
            · exact h
            · exact absurd (e2.trans e1.symm) (hpw s k' h2 h1 h)
          simp
          omega
        · rename_i e
          rw [hw k' j hj]
          have : k' ≠ s := fun e2 => by subst e2; rw [hk] at hj; injection hj with hj; exact e hj.symm
          omega
      · have hsl : s < wr.length := by
          rcases Nat.lt_or_ge s wr.length with h | h
          · exact h
          · exfalso
            have hlast : wr.getLast? = some (wr.getLast hne) := List.getLast?_eq_some_getLast hne
            simp only [lastB, hlast, List.all_eq_true, List.mem_range, Bool.or_eq_true] at hla
            have hz : d (wr.getLast hne) = true := (hw (wr.length - 1) _ (by rw [List.getElem?_eq_getElem (by omega), List.getLast_eq_getElem])).2 (by omega)
            rcases hla i (Array.getElem?_eq_some_iff.1 ho).1 with h1 | h1
            · exact hiw (by simpa using h1)
            · have := ahead_done hdn ops.size [wr.getLast hne] (fun i hi => by simp at hi; subst hi; exact hz) i (by simpa using h1)
              rw [hdi] at this
              cases this
        refine yields1 (hO.1 hiw s hsl) (hK _ _ ⟨hdn', hfr.put hds ho hv, s, hs, rfl, fun k' j hj => ?_⟩)
        unfold upd
        split
        · rename_i e
          subst e
          exact absurd (List.mem_of_getElem? hj) hiw
        · exact hw k' j hj
    have go : ∀ (l : List Oper) (k : Nat), (∀ i o, l[i]? = some o → ops[k + i]? = some o) → EachOp (fun i o => ∀ d a w, J d a w → d i = false → AllOn md d o.after.toList → wpList P ops (Exit.then (J (upd d i)) (fun e a w => e = .normal ∧ a = A ∧ w = ws wr.length)) [o] a w) k l := by
      intro l
      induction l with
      | nil => intro k _; trivial
      | cons o l ih =>
        intro k h
        refine ⟨each k o (by have := h 0 o rfl; simpa using this), ih (k + 1) fun i o' hi => ?_⟩
        have := h (i + 1) o' (by simpa using hi)
        rw [show k + 1 + i = k + (i + 1) by omega]
        exact this
    exact go ops.toList 0 (fun i o h => by simpa using h)
  · -- the end
    intro d a w hall hJ
    obtain ⟨_, hfr, s, hs, rfl, hw⟩ := hJ
    refine ⟨rfl, ?_, ?_⟩
    · have he : ∀ t, a.tmps.getD t undef = A.tmps.getD t undef := fun t => by
        by_cases hex : ∃ (j : Nat) (o' : Oper), ops[j]? = some o' ∧ o'.dst = some t
        · obtain ⟨j, o', hj, hjt⟩ := hex
          exact hfr.done j o' t hj hjt (hall j (Array.getElem?_eq_some_iff.1 hj).1)
        · have h5 : ∀ (j : Nat) (o' : Oper), ops[j]? = some o' → o'.dst ≠ some t := fun j o' hj e => hex ⟨j, o', hj, e⟩
          rw [hfr.rest t (fun j o' hj e => absurd e (h5 j o' hj)), hbase t h5]
      have ht : a.tmps = A.tmps := by
        apply Array.ext hfr.size
        intro i h1 h2
        have := he i
        rw [Array.getD_eq_getD_getElem?, Array.getD_eq_getD_getElem?, Array.getElem?_eq_getElem h1, Array.getElem?_eq_getElem h2] at this
        exact this
      have hd := hfr.defers
      cases a
      cases A
      simp only at ht hd
      rw [ht, hd]
    · have : s = wr.length := by
        rcases Nat.lt_or_ge s wr.length with h | h
        · exfalso
          obtain ⟨j, hj⟩ : ∃ j, wr[s]? = some j := ⟨_, List.getElem?_eq_getElem h⟩
          have hjs : j < ops.size := by
            have mem : ∀ (l : List Nat), chainB md ops l = true → ∀ j ∈ l, j < ops.size := by
              intro l
              induction l with
              | nil => intro _ j h; simp at h
              | cons x l ih =>
                intro hc j hj
                cases l with
                | nil => simp [chainB] at hc; simp at hj; omega
                | cons y l =>
                  simp only [chainB, Bool.and_eq_true, decide_eq_true_eq] at hc
                  rcases List.mem_cons.1 hj with rfl | hj
                  · exact hc.1.1
                  · exact ih hc.2 j hj
            exact mem wr hch j (List.mem_of_getElem? hj)
          have := (hw s j hj).1 (hall j hjs)
          omega
        · omega
      rw [this]
  · have : (fun j => (Array.replicate ops.size false).getD j false) = fun _ => false := by
      funext j
      rw [Array.getD_eq_getD_getElem?, Array.getElem?_replicate]
      split <;> rfl
    rw [this]
    exact h0

/-- A region in a round of a loop over an iterator: as everywhere, where nothing is deferred. -/
theorem callsIn_round {n l : Nat} {f : FuncId} {args : Array Value} {w : World} {R : Ending → World → Prop} (h : Calls P f args w R) : CallsIn (Fence.wide.inRound l) n P f args w R := CallsIn.inRound l (callsIn_wide.2 h)
theorem rowsIn_round {n l : Nat} {row : String} {args : Array Value} {w : World} {R : Value → World → Prop} (h : Rows P row args w R) : RowsIn (Fence.wide.inRound l) n P row args w R := fun c cs _ => by
  obtain ⟨v, w', r, s⟩ := h c cs
  exact ⟨v, w', r, stepsIn_wide.2 s⟩
theorem oper_round {n l : Nat} {o : Oper} {a : Act} {w : World} {K : Act → World → Prop} (hd : ∀ c, o.op ≠ .defer c) (h : o.wp P a w K Q) : o.wpIn (Fence.wide.inRound l) n P a w K Q := by
  refine ⟨fun _ _ => trivial, ?_⟩
  rw [Oper.semAt_plain _ _ _ hd]
  unfold Oper.wp at h
  generalize (execOp a.eval o).run P w = r at h ⊢
  cases r with
  | ok x w' =>
    cases x <;> simp only [Oper.upon, Oper.uponIn] at h ⊢ <;>
      first
        | exact h
        | exact ⟨fun e => by simp [Fence.wide] at e, callsIn_round h⟩
        | exact ⟨fun e => by simp [Fence.wide] at e, rowsIn_round h⟩
  | halt x w' => cases x <;> simp only [Oper.upon, Oper.uponIn] at h ⊢ <;> exact h
theorem any_round' {n l : Nat} (hd : ∀ (i : Nat) (o : Oper), ops[i]? = some o → ∀ c, o.op ≠ .defer c) (hno : ¬ LetsOut Q) : ∀ (fuel : Nat) (listed : Array Bool) (a : Act) (w : World), wpAny P md ops Q fuel listed a w → wpAnyIn (Fence.wide.inRound l) n P md ops Q fuel listed a w
  | 0, _, _, _, h => h
  | fuel + 1, listed, a, w, h => by
    refine ⟨h.1, fun i hi => ?_⟩
    have h1 := h.2 i hi
    have next := fun a' w' => any_round' (n := n) (l := l) hd hno fuel (listed.setIfInBounds i true) a' w'
    unfold wpOp at h1
    unfold wpOpIn
    split
    · rename_i ho
      simp only [ho] at h1
      exact next _ _ h1
    · rename_i o ho
      simp only [ho] at h1
      split
      · rename_i hw
        simp only [hw, if_true] at h1
        rcases h1 with h1 | h1
        · exact oper_round (hd i o ho) (Oper.wp_mono next h1)
        · exact absurd h1.2 hno
      · rename_i hw
        simp only [hw] at h1
        exact ⟨fun _ _ => trivial, next _ _ h1⟩

/-- The region whose writers come one behind the other, as everywhere. -/
theorem wp_region_chain {id : Nat} {l : List Oper} {a0 : Act} {w : World} (hm : P.follows .mixedOrders = true) (wr : List Nat) (A : Act) (ws : Nat → World) (hw0 : ws 0 = w.drew)
    (hst : (backB l.toArray && (plainB l.toArray && (depB .any l.toArray && (dstB l.toArray && (chainB .any l.toArray wr && lastB .any l.toArray wr))))) = true) (hnd : wr.Nodup)
    (hsz : a0.tmps.size = A.tmps.size) (hdf : a0.defers = A.defers) (hbase : ∀ t : Nat, (∀ (i : Nat) (o : Oper), l.toArray[i]? = some o → o.dst ≠ some t) → a0.tmps.getD t undef = A.tmps.getD t undef)
    (hops : EachOp (OpAt P A wr ws) 0 l) (hQ : Q .normal A (ws wr.length)) : (Code.region id l.toArray true).wp P Q a0 w := by
  simp only [Bool.and_eq_true] at hst
  obtain ⟨h1, h2, h3, h4, h5, h6⟩ := hst
  have h := any_chain (md := .any) h1 h2 h3 h4 wr h5 h6 hnd a0 A ws hsz hdf hbase hops
  rw [hw0] at h
  exact wp_mono (wp_region_any hm h) (fun e a' w' ⟨e1, e2, e3⟩ => by subst e1 e2 e3; exact hQ)
/-- .. in a round. -/
theorem wpIn_region_chain {n id ld : Nat} {l : List Oper} {a0 : Act} {w : World} (hm : P.follows .mixedOrders = true) (wr : List Nat) (A : Act) (ws : Nat → World) (hw0 : ws 0 = w.drew)
    (hst : (backB l.toArray && (plainB l.toArray && (depB .any l.toArray && (dstB l.toArray && (chainB .any l.toArray wr && lastB .any l.toArray wr))))) = true) (hnd : wr.Nodup)
    (hsz : a0.tmps.size = A.tmps.size) (hdf : a0.defers = A.defers) (hbase : ∀ t : Nat, (∀ (i : Nat) (o : Oper), l.toArray[i]? = some o → o.dst ≠ some t) → a0.tmps.getD t undef = A.tmps.getD t undef)
    (hops : EachOp (OpAt P A wr ws) 0 l) (hQ : Q .normal A (ws wr.length)) : (Code.region id l.toArray true).wpIn (Fence.wide.inRound ld) n P Q a0 w := by
  simp only [Bool.and_eq_true] at hst
  obtain ⟨h1, h2, h3, h4, h5, h6⟩ := hst
  have h := any_chain (md := .any) h1 h2 h3 h4 wr h5 h6 hnd a0 A ws hsz hdf hbase hops
  rw [hw0] at h
  have hd : ∀ (i : Nat) (o : Oper), l.toArray[i]? = some o → ∀ c, o.op ≠ .defer c := fun i o ho c e => by
    simp only [plainB, List.all_eq_true, Bool.and_eq_true] at h2
    have := (h2 o (by have := Array.mem_of_getElem? ho; simpa using this)).2
    rw [e] at this
    simp at this
  have hno : ¬ LetsOut (fun e a' w' => e = .normal ∧ a' = A ∧ w' = ws wr.length) := fun ⟨_, _, e, _⟩ => by cases e
  exact wpIn_mono (wpIn_region_any hm (any_round' hd hno _ _ _ _ h)) (fun e a' w' ⟨e1, e2, e3⟩ => by subst e1 e2 e3; exact hQ)
end

end Go.Proofs.Ytaojognjkiifmaa
