/-
  FnTurnBest answers true at every input: no walk with its turns costs less than what is told. No condition.
-/
import Derived.Test.YtaojognjkiifmaaNCh
import Derived.Test.YtaojognjkiifmaaNear
import Derived.Test.YtaojognjkiifmaaNLen
import Derived.Test.YtaojognjkiifmaaOrdInv
import Derived.OwnWalkIn
import Derived.RangeFuncCalls
import Derived.Sort.LoopGhostIn
import Derived.Laws.EntriesVeiled
import Derived.Test.YtaojognjkiifmaaLineS
import Derived.Test.YtaojognjkiifmaaTOk
import Derived.Test.YtaojognjkiifmaaTArcsS
import Derived.Test.YtaojognjkiifmaaPTurn2
import Derived.Test.YtaojognjkiifmaaPNear
import Derived.Test.YtaojognjkiifmaaBack
import Derived.Test.YtaojognjkiifmaaNRepI
import Derived.Test.YtaojognjkiifmaaQPast
import Derived.Test.YtaojognjkiifmaaTWalkS
import Derived.Test.YtaojognjkiifmaaDraw3
import Derived.Test.YtaojognjkiifmaaOut
import Derived.Test.YtaojognjkiifmaaRTurnL
import Derived.Test.YtaojognjkiifmaaOpenW
import Derived.Test.YtaojognjkiifmaaDraw
import Derived.Deep.RegionWith
namespace Go.Proofs.Ytaojognjkiifmaa
open Go.RowKit

set_option maxRecDepth 100000 in
set_option maxHeartbeats 1000000 in
theorem costsOf_any (g n cap : Nat) (L : List LenD) (w : World) (hn : n ≤ 1048576) (hl : L.length = n) (hr : ∀ j a, L[j]? = some a → w.cell? ⟨g, j * 2, none⟩ = some (.int .i64 a.x0) ∧ w.cell? ⟨g, j * 2 + 1, none⟩ = some (.int .i64 a.x1)) :
    Calls Try.prog 74 #[.slice (some ⟨g, 0, none⟩) n cap] w (Gives w (L.map LenD.x0)) := by
  have hmk := makeInt n hn
  have HL := Lib.hid hl
  have HR := Lib.hid hr
  clear hl hr
  go_enter Try.func74, Try.ntmps74
  go_wp2
  go_loopw [11] (fun i wr => ∃ k : Nat, k ≤ n ∧ i = .int .i64 k ∧ Past w wr ∧ MadeI wr w.heap.size 3 n (L.map LenD.x0) k) (fun i _ => n - (intOf i).toNat)
  case atStart => exact ⟨0, by omega, rfl, (Past.refl w).alloc _, MadeI.start _ _ _ _ _ (by simp [size_madeCells])⟩
  case round =>
    obtain ⟨k, hk, rfl, hb, hm⟩ := hrel
    by_cases hlt : k < n
    · obtain ⟨⟨x0, x1⟩, ha⟩ : ∃ a, L[k]? = some a := ⟨_, List.getElem?_eq_getElem (by have := HL.out; omega)⟩
      obtain ⟨c0, c1⟩ := HR.out k _ ha
      have c0 := cell_in hb c0
      have c1 := cell_in hb c1
      simp only at c0 c1
      have HA : Hid ((L.map LenD.x0)[k]? = some x0) := by rw [Hid, List.getElem?_map, ha]; rfl
      have i0 : (0 : Int) ≤ (k : Int) := by omega
      have i1 : (k : Int) < (n : Int) := by omega
      have hmA := hm.below ((Past.refl wr).alloc (.cells #[.int .i64 x0, .int .i64 x1] 88))
      obtain ⟨v0, e0⟩ := hmA.1.cell (i := k) hlt
      have z0 := hmA.1.frozen k
      have hnx := (hm.next HA.out hlt).below ((Past.refl _).alloc (.cells #[.int .i64 x0, .int .i64 x1] 88))
      have hgk : w.heap.size < wr.heap.size := hm.1.lt
      clear ha
      go_wp2
      go_roundw
      case rel => exact ⟨k + 1, by omega, by go_num, Past.alloc (Below.setCell hb (p := ⟨w.heap.size, k, none⟩) (by simp) _) _, hnx⟩
      case measure => simp [intOf]; omega
    · obtain rfl : n = k := by omega
      go_wp2
      go_ret
      refine ⟨_, rfl, ?_, hb⟩
      have hlm : (L.map LenD.x0).length = n := by rw [List.length_map, HL.out]
      exact (hm.row hlm).res hlm (Nat.le_refl _) hn

set_option maxRecDepth 100000 in
set_option maxHeartbeats 1000000 in
theorem allWithin_any (A : Option Addr) (n c : Nat) (zs : List Int) (mo : Int) (w : World) (hn : n ≤ 1048576) (hl : zs.length = n) (hz : IntsAt w A zs) :
    Calls Try.prog 99 #[.slice A n c, .int .i64 mo] w fun e w' => e = .returned (.bool (zs.all (fun z => inB z 0 mo))) ∧ Below w.heap.size w w' := by
  have HL := Lib.hid hl
  clear hl
  go_enter Try.func99, Try.ntmps99
  go_wp2
  go_loopw [9] (fun i wr => ∃ k : Nat, k ≤ n ∧ i = .int .i64 k ∧ Past w wr ∧ (zs.take k).all (fun z => inB z 0 mo) = true) (fun i _ => n - (intOf i).toNat)
  case atStart => exact ⟨0, by omega, rfl, Past.refl w, by simp⟩
  case round =>
    obtain ⟨k, hk, rfl, hb, hm⟩ := hrel
    have HM := Lib.hid hm
    clear hm
    by_cases hlt : k < n
    · obtain ⟨y, ha⟩ : ∃ a, zs[k]? = some a := ⟨_, List.getElem?_eq_getElem (by have := HL.out; omega)⟩
      obtain ⟨g, o, rfl, c0⟩ := hz k _ ha
      have c0 := cell_in hb c0
      have HA := Lib.hid ha
      have i0 : (0 : Int) ≤ (k : Int) := by omega
      have i1 : (k : Int) < (n : Int) := by omega
      clear ha
      go_wp2_with fail
      refine (within_any y mo _).mono ?_
      rintro e w1 ⟨rfl, rfl⟩
      cases hB : inB y 0 mo with
      | false =>
        have HB := Lib.hid hB
        clear hB
        go_wp2
        go_ret
        exact ⟨ret_bool (by
          symm
          rw [List.all_eq_false]
          exact ⟨y, List.mem_of_getElem? HA.out, by rw [HB.out]; simp⟩), hb⟩
      | true =>
        have HB := Lib.hid hB
        clear hB
        go_wp2
        go_roundw
        case rel => exact ⟨k + 1, by omega, by go_num, hb, by rw [List.take_add_one, List.all_append, HM.out, HA.out]; simp [HB.out]⟩
        case measure => simp [intOf]; omega
    · obtain rfl : n = k := by omega
      go_wp2
      go_ret
      refine ⟨ret_bool ?_, hb⟩
      have := HM.out
      rw [List.take_of_length_le (by have := HL.out; omega)] at this
      exact this.symm

set_option maxRecDepth 100000 in
set_option maxHeartbeats 1000000 in
theorem netHas_any (m : Int) (A : Option Addr) (n c : Nat) (xs : List ArcD) (B : Option Addr) (l cb : Nat) (zs : List Int) (w : World) (hn : n ≤ 1048576) (hnx : xs.length = n) (hx : ArcsAt w A xs) (hl : l ≤ 1048576) (hlz : zs.length = l) (hz : IntsAt w B zs) :
    Calls Try.prog 62 #[.agg #[.int .i64 m, .slice A n c], .slice B l cb] w fun e w' => e = .returned (.bool (netB m xs && zs.all (fun z => inB z 0 (m - 1)))) ∧ Below w.heap.size w w' := by
  have HX := Lib.hid hnx
  have HZ := Lib.hid hlz
  clear hnx hlz
  have hb0 : Past w (w.alloc (.cells #[.int .i64 m, .slice A n c] 32)) := (Past.refl _).alloc _
  go_enter Try.func62, Try.ntmps62
  go_wp2_with fail
  refine (implNetOk_any m A n c xs _ hn HX.out (hx.below hb0)).mono ?_
  rintro e w1 ⟨rfl, hb1⟩
  have b0 := cell_in (p := ⟨w.heap.size, 0, none⟩) (v := .int .i64 m) hb1 (by go_simp)
  cases hB : netB m xs with
  | false =>
    have HB := Lib.hid hB
    clear hB
    go_wp2
    go_ret
    exact ⟨ret_bool (by rw [HB.out]; rfl), hb0.trans hb1⟩
  | true =>
    have hw : IntKind.i64.wrap (m - 1) = m - 1 := by
      obtain ⟨h1, _⟩ := (netB_iff _ _).1 hB
      exact IntWalk.i64_in _ (by omega)
    have HB := Lib.hid hB
    clear hB
    go_wp2_with fail
    refine (allWithin_any B l cb zs (m - 1) _ hl HZ.out ((hz.below hb0).below hb1)).mono ?_
    rintro e w2 ⟨rfl, hb2⟩
    go_wp2
    go_ret
    exact ⟨ret_bool (by rw [HB.out]; rfl), (hb0.trans hb1).trans hb2⟩

end Go.Proofs.Ytaojognjkiifmaa

namespace Go.Proofs.Ytaojognjkiifmaa
open Go.RowKit

theorem net_ne {m : Int} {xs : List ArcD} (h : netB m xs = true) : ∀ a ∈ xs, a.f ≠ a.t := fun a ha => by
  obtain ⟨_, _, h3⟩ := (netB_iff _ _).1 h
  have := h3 a ha
  simp only [arcB, Bool.and_eq_true, Bool.not_eq_true'] at this
  simpa using this.2.2.1

set_option maxRecDepth 100000 in
set_option maxHeartbeats 1000000 in
theorem implNearAll_any (m : Int) (A : Option Addr) (n c : Nat) (xs : List ArcD) (s : Int) (w : World) (hn : n ≤ 1048576) (hnx : xs.length = n) (hx : ArcsAt w A xs) :
    Calls Try.prog 30 #[.agg #[.int .i64 m, .slice A n c], .int .i64 s] w (Gives w (nearI m xs s)) := by
  have HX := Lib.hid hnx
  clear hnx
  go_enter Try.func30, Try.ntmps30
  have hb0 : Past w ((w.alloc (.cells #[.int .i64 m, .slice A n c] 32)).alloc (.cells #[.int .i64 s] 3)) := ((Past.refl _).alloc _).alloc _
  have hz : IntsAt ((w.alloc (.cells #[.int .i64 m, .slice A n c] 32)).alloc (.cells #[.int .i64 s] 3)) (some ⟨w.heap.size + 1, 0, none⟩) [s] := fun k y hk => by
    cases k with
    | zero => simp at hk; subst hk; exact ⟨_, _, rfl, by go_simp⟩
    | succ k => simp at hk
  go_wp2_with fail
  refine (netHas_any m A n c xs _ 1 1 [s] _ hn HX.out (hx.below hb0) (by omega) rfl hz).mono ?_
  rintro e w1 ⟨rfl, hb1⟩
  have b0 := cell_in (p := ⟨w.heap.size, 0, none⟩) (v := .int .i64 m) hb1 (by go_simp)
  have b1 := cell_in (p := ⟨w.heap.size, 1, none⟩) (v := .slice A n c) hb1 (by go_simp)
  have hx1 := (hx.below hb0).below hb1
  have hp1 := hb0.trans hb1
  have hH : (netB m xs && [s].all (fun z => inB z 0 (m - 1))) = hereB m xs s := by simp [hereB]
  rw [hH]
  clear hH hb0 hz hb1
  cases hB : hereB m xs s with
  | false =>
    have HB := Lib.hid hB
    clear hB
    go_wp2
    go_ret
    exact ⟨_, rfl, by rw [nearI, HB.out]; exact Res.nil _ _, hp1⟩
  | true =>
    obtain ⟨hN, h0, h1⟩ := (hereB_iff _ _ _).1 hB
    obtain ⟨M, rfl, h3, h8⟩ := here_nat hN
    obtain ⟨S, rfl⟩ : ∃ S : Nat, s = (S : Int) := ⟨s.toNat, by omega⟩
    have hS : S < M := by omega
    have h16 : n ≤ 16 := by rw [← HX.out]; exact ((netB_iff _ _).1 hN).2.1
    have HB := Lib.hid hB
    have HN := Lib.hid hN
    clear hB hN
    go_wp2_with fail
    refine (lengths_any M S A n c xs _ (by omega) HX.out hx1 (arcsIn_net HN.out) (net_ne HN.out) h3 (by omega) hS).mono ?_
    rintro e w2 ⟨g, L, rfl, hrow, hLl, hlabs, hopen, hb2⟩
    have HL := Lib.hid hlabs
    have HO := Lib.hid hopen
    clear hlabs hopen
    have HG := Lib.hid (fun j a (hj : L[j]? = some a) => hrow.get hLl hj)
    clear hrow
    go_wp2_with fail
    refine (costsOf_any g M M L _ (by omega) hLl HG.out).mono ?_
    rintro e w3 ⟨v3, rfl, hv3, hb3⟩
    go_wp2
    go_ret
    have hnear := HL.out.near (arcsIn_net HN.out) ⟨h0, h1⟩ (by omega) HO.out
    exact ⟨_, rfl, by rw [nearI, HB.out, if_pos rfl, Int.toNat_natCast, ← hnear]; exact hv3.lower (Nat.le_trans hp1.size hb2.size), (hp1.trans hb2).trans hb3⟩

end Go.Proofs.Ytaojognjkiifmaa

namespace Go.Proofs.Ytaojognjkiifmaa
open Go.RowKit

/-- No guards, no select, no defer. -/
def plainB (ops : Array Oper) : Bool := ops.toList.all fun o => o.guard.isNone && (match o.op with | .select _ _ => false | .defer _ => false | _ => true)
def bindsTo (md : Region.Mode) (o : Oper) (j : Nat) : Bool := o.after.toList.any fun e => Region.binds md e && (e.on == j)
/-- Whoever reads what another one of them yields comes behind it. -/
def depB (md : Region.Mode) (ops : Array Oper) : Bool := ops.toList.all fun o => o.op.operands.toList.all fun x => match x with
  | .tmp t => (List.range ops.size).all fun j => !(((ops[j]?).bind (·.dst)) == some t) || bindsTo md o j
  | _ => true
/-- No two yield into one slot. -/
def dstB (ops : Array Oper) : Bool := (List.range ops.size).all fun i => (List.range ops.size).all fun j => (i == j) || (((ops[i]?).bind (·.dst)).isNone || !(((ops[i]?).bind (·.dst)) == ((ops[j]?).bind (·.dst))))
/-- The writers, one behind the other. -/
def chainB (md : Region.Mode) (ops : Array Oper) : List Nat → Bool
  | [] => true
  | [i] => decide (i < ops.size)
  | i :: j :: r => decide (i < ops.size) && (match ops[j]? with | some o => bindsTo md o i | none => false) && chainB md ops (j :: r)
/-- Whatever comes ahead of these, over so many edges. -/
def ahead (md : Region.Mode) (ops : Array Oper) : Nat → List Nat → List Nat
  | 0, S => S
  | k + 1, S => ahead md ops k (S ++ S.flatMap fun i => (match ops[i]? with | some o => (o.after.toList.filter (Region.binds md)).map (·.on) | none => []))
def lastB (md : Region.Mode) (ops : Array Oper) (wr : List Nat) : Bool := match wr.getLast? with
  | some z => (List.range ops.size).all fun i => wr.contains i || (ahead md ops ops.size [z]).contains i
  | none => false

section
variable {P : Program} {ops : Array Oper} {md : Region.Mode} {Q : Exit → Act → World → Prop}

def Down (md : Region.Mode) (ops : Array Oper) (d : Nat → Bool) : Prop := ∀ i o, ops[i]? = some o → d i = true → AllOn md d o.after.toList
theorem bindsTo_done {d : Nat → Bool} {o : Oper} {j : Nat} (h : bindsTo md o j = true) (ha : AllOn md d o.after.toList) : d j = true := by
  simp only [bindsTo, List.any_eq_true, Bool.and_eq_true, beq_iff_eq] at h
  obtain ⟨e, he, hb, rfl⟩ := h
  exact allOn_iff.1 ha e he hb
theorem ahead_done {d : Nat → Bool} (hd : Down md ops d) : ∀ (k : Nat) (S : List Nat), (∀ i ∈ S, d i = true) → ∀ i ∈ ahead md ops k S, d i = true
  | 0, S, h => h
  | k + 1, S, h => by
    refine ahead_done hd k _ fun i hi => ?_
    rcases List.mem_append.1 hi with hi | hi
    · exact h i hi
    · obtain ⟨j, hj, hi⟩ := List.mem_flatMap.1 hi
      cases ho : ops[j]? with
      | none => rw [ho] at hi; simp at hi
      | some o =>
        rw [ho] at hi
        obtain ⟨e, he, rfl⟩ := List.mem_map.1 hi
        obtain ⟨he, hb⟩ := List.mem_filter.1 he
        exact allOn_iff.1 (hd j o ho (h j hj)) e he hb

/-- The frame as far as it is done. -/
structure FrameTo (ops : Array Oper) (a0 A : Act) (d : Nat → Bool) (a : Act) : Prop where
  defers : a.defers = A.defers
  size : a.tmps.size = A.tmps.size
  done : ∀ (i : Nat) (o : Oper) (t : Nat), ops[i]? = some o → o.dst = some t → d i = true → a.tmps.getD t undef = A.tmps.getD t undef
  rest : ∀ t : Nat, (∀ (i : Nat) (o : Oper), ops[i]? = some o → o.dst = some t → d i = false) → a.tmps.getD t undef = a0.tmps.getD t undef

theorem getD_set_at (l : Array Value) (t : Nat) (v : Value) (h : v = undef ∨ t < l.size) : (l.setIfInBounds t v).getD t undef = v := by
  rw [Array.getD_eq_getD_getElem?, Array.getElem?_setIfInBounds]
  rw [if_pos rfl]
  by_cases ht : t < l.size
  · simp [ht]
  · rcases h with rfl | h
    · simp [ht]
    · exact absurd h ht
theorem getD_set_off (l : Array Value) (t s : Nat) (v : Value) (h : t ≠ s) : (l.setIfInBounds t v).getD s undef = l.getD s undef := by
  rw [Array.getD_eq_getD_getElem?, Array.getElem?_setIfInBounds, if_neg h, ← Array.getD_eq_getD_getElem?]

theorem FrameTo.put {a0 A a : Act} {d : Nat → Bool} (h : FrameTo ops a0 A d a) (hds : dstB ops = true) {i : Nat} {o : Oper} {v : Value} (ho : ops[i]? = some o) (hv : ∀ t, o.dst = some t → A.tmps.getD t undef = v) : FrameTo ops a0 A (upd d i) (a.put o.dst v) := by
  have two : ∀ j o' t, ops[j]? = some o' → o'.dst = some t → o.dst = some t → j = i := fun j o' t hj h1 h2 => by
    simp only [dstB, List.all_eq_true, List.mem_range, Bool.or_eq_true, beq_iff_eq, Bool.not_eq_true'] at hds
    have hi := (Array.getElem?_eq_some_iff.1 ho).1
    have hj' := (Array.getElem?_eq_some_iff.1 hj).1
    rcases hds j hj' i hi with e | e | e
    · exact e
    · rw [hj] at e; simp [h1] at e
    · rw [hj, ho] at e; simp [h1, h2] at e
  cases hdst : o.dst with
  | none =>
    refine ⟨h.defers, h.size, fun j o' t hj h1 h2 => ?_, fun t ht => h.rest t fun j o' hj h1 => ?_⟩
    · unfold upd at h2
      by_cases e : j = i
      · subst e
        rw [ho] at hj
        injection hj with hj
        subst hj
        rw [hdst] at h1
        cases h1
      · rw [if_neg e] at h2
        exact h.done j o' t hj h1 h2
    · have := ht j o' hj h1
      unfold upd at this
      split at this
      · cases this
      · exact this
  | some s =>
    have hAs := hv s hdst
    have hA : v = undef ∨ s < a.tmps.size := by
      by_cases hs : s < a.tmps.size
      · exact .inr hs
      · left
        have hge : A.tmps.size ≤ s := by rw [← h.size]; exact Nat.le_of_not_lt hs
        rw [← hAs, Array.getD_eq_getD_getElem?, Array.getElem?_eq_none hge]
        rfl
    refine ⟨h.defers, by simp [Act.put, h.size], fun j o' t hj h1 h2 => ?_, fun t ht => ?_⟩
    · by_cases e : t = s
      · subst e
        show (a.tmps.setIfInBounds t v).getD t undef = _
        rw [getD_set_at _ _ _ hA, hAs]
      · show (a.tmps.setIfInBounds s v).getD t undef = _
        rw [getD_set_off _ _ _ _ (Ne.symm e)]
        refine h.done j o' t hj h1 ?_
        unfold upd at h2
        split at h2
        · rename_i e2
          subst e2
          rw [ho] at hj
          injection hj with hj
          subst hj
          rw [hdst] at h1
          injection h1 with h1
          exact absurd h1.symm e
        · exact h2
    · have e : s ≠ t := fun e => by
        subst e
        have := ht i o ho hdst
        simp [upd] at this
      show (a.tmps.setIfInBounds s v).getD t undef = _
      rw [getD_set_off _ _ _ _ e]
      refine h.rest t fun j o' hj h1 => ?_
      have := ht j o' hj h1
      unfold upd at this
      split at this
      · cases this
      · exact this

/-- An operation, carried out at the frame as it stands at the end, yields what stands there. -/
def Yields1 (P : Program) (A : Act) (o : Oper) (w w' : World) : Prop := (execOp A.eval o).run P w = .ok (.value ((o.dst.map fun t => A.tmps.getD t undef).getD undef)) w' ∨ (o.dst = none ∧ (execOp A.eval o).run P w = .ok .skip w')
/-- What each operation does at the frame as it stands at the end: one that reads, in each world ahead of the last writer; a writer, in the world that is its own. -/
def OpAt (P : Program) (A : Act) (wr : List Nat) (ws : Nat → World) (i : Nat) (o : Oper) : Prop :=
  (i ∉ wr → ∀ s, s < wr.length → Yields1 P A o (ws s) (ws s)) ∧ (∀ k, wr[k]? = some i → Yields1 P A o (ws k) (ws (k + 1)))
theorem opAt_quiet {A : Act} {wr : List Nat} {ws : Nat → World} {i : Nat} {o : Oper} (hi : i ∉ wr) (h : ∀ s, s < wr.length → Yields1 P A o (ws s) (ws s)) : OpAt P A wr ws i o := ⟨fun _ => h, fun _ hk => absurd (List.mem_of_getElem? hk) hi⟩
theorem opAt_writer {A : Act} {wr : List Nat} {ws : Nat → World} {i : Nat} {o : Oper} (k : Nat) (hnd : wr.Nodup) (hk : wr[k]? = some i) (h : Yields1 P A o (ws k) (ws (k + 1))) : OpAt P A wr ws i o :=
  ⟨fun hn => absurd (List.mem_of_getElem? hk) hn, fun k' hk' => by
    have hpw := List.pairwise_iff_getElem.1 hnd
    obtain ⟨h1, e1⟩ := List.getElem?_eq_some_iff.1 hk'
    obtain ⟨h2, e2⟩ := List.getElem?_eq_some_iff.1 hk
    have : k' = k := by
      rcases Nat.lt_trichotomy k' k with h | h | h
      · exact absurd (e1.trans e2.symm) (hpw k' k h1 h2 h)
      · exact h
      · exact absurd (e2.trans e1.symm) (hpw k k' h2 h1 h)
    subst this
    exact h⟩

theorem yields1 {A a : Act} {o : Oper} {w w' : World} {K : Act → World → Prop} (h : Yields1 P A o w w') (hK : K (a.put o.dst ((o.dst.map fun t => A.tmps.getD t undef).getD undef)) w') : o.upon P a K Q ((execOp A.eval o).run P w) := by
  rcases h with h | ⟨hd, h⟩
  · rw [h]; exact hK
  · rw [h]
    show K (a.put o.dst undef) w'
    rw [hd] at hK ⊢
    exact hK
theorem any_chain (hb : backB ops = true) (hp : plainB ops = true) (hdep : depB md ops = true) (hds : dstB ops = true) (wr : List Nat) (hch : chainB md ops wr = true) (hla : lastB md ops wr = true) (hnd : wr.Nodup)
    (a0 A : Act) (ws : Nat → World) (hsz : a0.tmps.size = A.tmps.size) (hdf : a0.defers = A.defers) (hbase : ∀ t : Nat, (∀ (i : Nat) (o : Oper), ops[i]? = some o → o.dst ≠ some t) → a0.tmps.getD t undef = A.tmps.getD t undef)
    (hops : EachOp (OpAt P A wr ws) 0 ops.toList) : wpAny P md ops (fun e a w => e = .normal ∧ a = A ∧ w = ws wr.length) ops.size (Array.replicate ops.size false) a0 (ws 0) := by
  have hne : wr ≠ [] := fun e => by rw [e] at hla; simp [lastB] at hla
  have hlen : 0 < wr.length := List.length_pos_iff.2 hne
  have chain : ∀ (l : List Nat), chainB md ops l = true → ∀ k i j, l[k]? = some i → l[k + 1]? = some j → ∃ o, ops[j]? = some o ∧ bindsTo md o i = true := by
    intro l
    induction l with
    | nil => intro _ k i j h; simp at h
    | cons x l ih =>
      intro hc k i j h1 h2
      cases l with
      | nil => simp at h2
      | cons y l =>
        simp only [chainB, Bool.and_eq_true] at hc
        cases k with
        | zero =>
          simp at h1 h2
          subst h1 h2
          cases ho : ops[y]? with
          | none => rw [ho] at hc; simp at hc
          | some o => rw [ho] at hc; exact ⟨o, rfl, hc.1.2⟩
        | succ k => exact ih hc.2 k i j (by simpa using h1) (by simpa using h2)
  let J : (Nat → Bool) → Act → World → Prop := fun d a w => Down md ops d ∧ FrameTo ops a0 A d a ∧ ∃ s, s ≤ wr.length ∧ w = ws s ∧ ∀ k j, wr[k]? = some j → (d j = true ↔ k < s)
  have h0 : J (fun _ => false) a0 (ws 0) := ⟨fun i o _ h => (by cases h), ⟨hdf, hsz, fun i o t _ _ h => (by cases h), fun t _ => rfl⟩, 0, Nat.zero_le _, rfl, fun k j _ => by simp⟩
  refine wpAny_inv hb J ?_ ?_ _ _ _ _ (by simp) (by unfold openN; simp) ?_
  · -- a step
    have each : ∀ (i : Nat) (o : Oper), ops[i]? = some o → ∀ d a w, J d a w → d i = false → AllOn md d o.after.toList → wpList P ops (Exit.then (J (upd d i)) (fun e a w => e = .normal ∧ a = A ∧ w = ws wr.length)) [o] a w := by
      intro i o ho d a w hJ hdi hal
      obtain ⟨hdn, hfr, s, hs, rfl, hw⟩ := hJ
      have hO := eachOp_get (i := i) hops (by simpa using ho)
      rw [Nat.zero_add] at hO
      have hpl := hp
      simp only [plainB, List.all_eq_true, Bool.and_eq_true, Option.isNone_iff_eq_none] at hpl
      obtain ⟨hg, hsd⟩ := hpl o (by have := Array.mem_of_getElem? ho; simpa using this)
      have hcongr : execOp a.eval o = execOp A.eval o := by
        refine execOp_congr o (fun cs b e => by rw [e] at hsd; simp at hsd) fun x hx => ?_
        cases x with
        | tmp t =>
          show a.tmps.getD t undef = A.tmps.getD t undef
          have hd2 := hdep
          simp only [depB, List.all_eq_true] at hd2
          have h3 := hd2 o (by have := Array.mem_of_getElem? ho; simpa using this) (.tmp t) (by simpa using hx)
          simp only [List.all_eq_true, List.mem_range, Bool.or_eq_true, Bool.not_eq_true', beq_eq_false_iff_ne] at h3
          by_cases hex : ∃ (j : Nat) (o' : Oper), ops[j]? = some o' ∧ o'.dst = some t
          · obtain ⟨j, o', hj, hjt⟩ := hex
            rcases h3 j (Array.getElem?_eq_some_iff.1 hj).1 with h4 | h4
            · rw [hj] at h4; simp [hjt] at h4
            · exact hfr.done j o' t hj hjt (bindsTo_done h4 hal)
          · have h5 : ∀ (j : Nat) (o' : Oper), ops[j]? = some o' → o'.dst ≠ some t := fun j o' hj e => hex ⟨j, o', hj, e⟩
            rw [hfr.rest t (fun j o' hj e => absurd e (h5 j o' hj)), hbase t h5]
        | const v => rfl
        | global g => rfl
        | func f => rfl
      have hdn' : Down md ops (upd d i) := fun j o' hj hdj => by
        have mono : ∀ k, d k = true → upd d i k = true := fun k hk => by unfold upd; split <;> simp [hk]
        by_cases e : j = i
        · subst e
          rw [ho] at hj
          injection hj with hj
          subst hj
          exact allOn_iff.2 fun e he hb => mono _ (allOn_iff.1 hal e he hb)
        · have : d j = true := by unfold upd at hdj; rwa [if_neg e] at hdj
          exact allOn_iff.2 fun e he hb => mono _ (allOn_iff.1 (hdn j o' hj this) e he hb)
      have hv : ∀ t, o.dst = some t → A.tmps.getD t undef = (o.dst.map fun t => A.tmps.getD t undef).getD undef := fun t ht => by rw [ht]; rfl
      refine wpList_plain hg fun K hK => ?_
      unfold Oper.wp
      rw [hcongr]
      by_cases hiw : i ∈ wr
      · obtain ⟨k, hk⟩ := List.getElem?_of_mem hiw
        have hks : ¬ k < s := fun h => by rw [(hw k i hk).2 h] at hdi; cases hdi
        have hkl : k < wr.length := (List.getElem?_eq_some_iff.1 hk).1
        have hsk : s = k := by
          rcases Nat.lt_or_ge s k with h | h
          · exfalso
            obtain ⟨i', hi'⟩ : ∃ i', wr[k - 1]? = some i' := ⟨_, List.getElem?_eq_getElem (by omega)⟩
            obtain ⟨o', ho', hbi⟩ := chain wr hch (k - 1) i' i hi' (by rw [show k - 1 + 1 = k by omega]; exact hk)
            rw [ho] at ho'
            injection ho' with ho'
            subst ho'
            have := (hw (k - 1) i' hi').1 (bindsTo_done hbi hal)
            omega
          · omega
        subst hsk
        refine yields1 (hO.2 s hk) (hK _ _ ⟨hdn', hfr.put hds ho hv, s + 1, hkl, rfl, fun k' j hj => ?_⟩)
        unfold upd
        split
        · rename_i e
          subst e
          have : k' = s := by
            have hpw := List.pairwise_iff_getElem.1 hnd
            obtain ⟨h1, e1⟩ := List.getElem?_eq_some_iff.1 hj
            obtain ⟨h2, e2⟩ := List.getElem?_eq_some_iff.1 hk
            rcases Nat.lt_trichotomy k' s with h | h | h
            · exact absurd (e1.trans e2.symm) (hpw k' s h1 h2 h)
            · exact h
            · exact absurd (e2.trans e1.symm) (hpw s k' h2 h1 h)
          simp
          omega
        · rename_i e
          rw [hw k' j hj]
          have : k' ≠ s := fun e2 => by subst e2; rw [hk] at hj; injection hj with hj; exact e hj.symm
          omega
      · have hsl : s < wr.length := by
          rcases Nat.lt_or_ge s wr.length with h | h
          · exact h
          · exfalso
            have hlast : wr.getLast? = some (wr.getLast hne) := List.getLast?_eq_some_getLast hne
            simp only [lastB, hlast, List.all_eq_true, List.mem_range, Bool.or_eq_true] at hla
            have hz : d (wr.getLast hne) = true := (hw (wr.length - 1) _ (by rw [List.getElem?_eq_getElem (by omega), List.getLast_eq_getElem])).2 (by omega)
            rcases hla i (Array.getElem?_eq_some_iff.1 ho).1 with h1 | h1
            · exact hiw (by simpa using h1)
            · have := ahead_done hdn ops.size [wr.getLast hne] (fun i hi => by simp at hi; subst hi; exact hz) i (by simpa using h1)
              rw [hdi] at this
              cases this
        refine yields1 (hO.1 hiw s hsl) (hK _ _ ⟨hdn', hfr.put hds ho hv, s, hs, rfl, fun k' j hj => ?_⟩)
        unfold upd
        split
        · rename_i e
          subst e
          exact absurd (List.mem_of_getElem? hj) hiw
        · exact hw k' j hj
    have go : ∀ (l : List Oper) (k : Nat), (∀ i o, l[i]? = some o → ops[k + i]? = some o) → EachOp (fun i o => ∀ d a w, J d a w → d i = false → AllOn md d o.after.toList → wpList P ops (Exit.then (J (upd d i)) (fun e a w => e = .normal ∧ a = A ∧ w = ws wr.length)) [o] a w) k l := by
      intro l
      induction l with
      | nil => intro k _; trivial
      | cons o l ih =>
        intro k h
        refine ⟨each k o (by have := h 0 o rfl; simpa using this), ih (k + 1) fun i o' hi => ?_⟩
        have := h (i + 1) o' (by simpa using hi)
        rw [show k + 1 + i = k + (i + 1) by omega]
        exact this
    exact go ops.toList 0 (fun i o h => by simpa using h)
  · -- the end
    intro d a w hall hJ
    obtain ⟨_, hfr, s, hs, rfl, hw⟩ := hJ
    refine ⟨rfl, ?_, ?_⟩
    · have he : ∀ t, a.tmps.getD t undef = A.tmps.getD t undef := fun t => by
        by_cases hex : ∃ (j : Nat) (o' : Oper), ops[j]? = some o' ∧ o'.dst = some t
        · obtain ⟨j, o', hj, hjt⟩ := hex
          exact hfr.done j o' t hj hjt (hall j (Array.getElem?_eq_some_iff.1 hj).1)
        · have h5 : ∀ (j : Nat) (o' : Oper), ops[j]? = some o' → o'.dst ≠ some t := fun j o' hj e => hex ⟨j, o', hj, e⟩
          rw [hfr.rest t (fun j o' hj e => absurd e (h5 j o' hj)), hbase t h5]
      have ht : a.tmps = A.tmps := by
        apply Array.ext hfr.size
        intro i h1 h2
        have := he i
        rw [Array.getD_eq_getD_getElem?, Array.getD_eq_getD_getElem?, Array.getElem?_eq_getElem h1, Array.getElem?_eq_getElem h2] at this
        exact this
      have hd := hfr.defers
      cases a
      cases A
      simp only at ht hd
      rw [ht, hd]
    · have : s = wr.length := by
        rcases Nat.lt_or_ge s wr.length with h | h
        · exfalso
          obtain ⟨j, hj⟩ : ∃ j, wr[s]? = some j := ⟨_, List.getElem?_eq_getElem h⟩
          have hjs : j < ops.size := by
            have mem : ∀ (l : List Nat), chainB md ops l = true → ∀ j ∈ l, j < ops.size := by
              intro l
              induction l with
              | nil => intro _ j h; simp at h
              | cons x l ih =>
                intro hc j hj
                cases l with
                | nil => simp [chainB] at hc; simp at hj; omega
                | cons y l =>
                  simp only [chainB, Bool.and_eq_true, decide_eq_true_eq] at hc
                  rcases List.mem_cons.1 hj with rfl | hj
                  · exact hc.1.1
                  · exact ih hc.2 j hj
            exact mem wr hch j (List.mem_of_getElem? hj)
          have := (hw s j hj).1 (hall j hjs)
          omega
        · omega
      rw [this]
  · have : (fun j => (Array.replicate ops.size false).getD j false) = fun _ => false := by
      funext j
      rw [Array.getD_eq_getD_getElem?, Array.getElem?_replicate]
      split <;> rfl
    rw [this]
    exact h0

/-- A region in a round of a loop over an iterator: as everywhere, where nothing is deferred. -/
theorem callsIn_round {n l : Nat} {f : FuncId} {args : Array Value} {w : World} {R : Ending → World → Prop} (h : Calls P f args w R) : CallsIn (Fence.wide.inRound l) n P f args w R := CallsIn.inRound l (callsIn_wide.2 h)
theorem rowsIn_round {n l : Nat} {row : String} {args : Array Value} {w : World} {R : Value → World → Prop} (h : Rows P row args w R) : RowsIn (Fence.wide.inRound l) n P row args w R := fun c cs _ => by
  obtain ⟨v, w', r, s⟩ := h c cs
  exact ⟨v, w', r, stepsIn_wide.2 s⟩
theorem oper_round {n l : Nat} {o : Oper} {a : Act} {w : World} {K : Act → World → Prop} (hd : ∀ c, o.op ≠ .defer c) (h : o.wp P a w K Q) : o.wpIn (Fence.wide.inRound l) n P a w K Q := by
  refine ⟨fun _ _ => trivial, ?_⟩
  rw [Oper.semAt_plain _ _ _ hd]
  unfold Oper.wp at h
  generalize (execOp a.eval o).run P w = r at h ⊢
  cases r with
  | ok x w' =>
    cases x <;> simp only [Oper.upon, Oper.uponIn] at h ⊢ <;>
      first
        | exact h
        | exact ⟨fun e => by simp [Fence.wide] at e, callsIn_round h⟩
        | exact ⟨fun e => by simp [Fence.wide] at e, rowsIn_round h⟩
  | halt x w' => cases x <;> simp only [Oper.upon, Oper.uponIn] at h ⊢ <;> exact h
theorem any_round' {n l : Nat} (hd : ∀ (i : Nat) (o : Oper), ops[i]? = some o → ∀ c, o.op ≠ .defer c) (hno : ¬ LetsOut Q) : ∀ (fuel : Nat) (listed : Array Bool) (a : Act) (w : World), wpAny P md ops Q fuel listed a w → wpAnyIn (Fence.wide.inRound l) n P md ops Q fuel listed a w
  | 0, _, _, _, h => h
  | fuel + 1, listed, a, w, h => by
    refine ⟨h.1, fun i hi => ?_⟩
    have h1 := h.2 i hi
    have next := fun a' w' => any_round' (n := n) (l := l) hd hno fuel (listed.setIfInBounds i true) a' w'
    unfold wpOp at h1
    unfold wpOpIn
    split
    · rename_i ho
      simp only [ho] at h1
      exact next _ _ h1
    · rename_i o ho
      simp only [ho] at h1
      split
      · rename_i hw
        simp only [hw, if_true] at h1
        rcases h1 with h1 | h1
        · exact oper_round (hd i o ho) (Oper.wp_mono next h1)
        · exact absurd h1.2 hno
      · rename_i hw
        simp only [hw] at h1
        exact ⟨fun _ _ => trivial, next _ _ h1⟩

/-- The region whose writers come one behind the other, as everywhere. -/
theorem wp_region_chain {id : Nat} {l : List Oper} {a0 : Act} {w : World} (hm : P.follows .mixedOrders = true) (wr : List Nat) (A : Act) (ws : Nat → World) (hw0 : ws 0 = w.drew)
    (hst : (backB l.toArray && (plainB l.toArray && (depB .any l.toArray && (dstB l.toArray && (chainB .any l.toArray wr && lastB .any l.toArray wr))))) = true) (hnd : wr.Nodup)
    (hsz : a0.tmps.size = A.tmps.size) (hdf : a0.defers = A.defers) (hbase : ∀ t : Nat, (∀ (i : Nat) (o : Oper), l.toArray[i]? = some o → o.dst ≠ some t) → a0.tmps.getD t undef = A.tmps.getD t undef)
    (hops : EachOp (OpAt P A wr ws) 0 l) (hQ : Q .normal A (ws wr.length)) : (Code.region id l.toArray true).wp P Q a0 w := by
  simp only [Bool.and_eq_true] at hst
  obtain ⟨h1, h2, h3, h4, h5, h6⟩ := hst
  have h := any_chain (md := .any) h1 h2 h3 h4 wr h5 h6 hnd a0 A ws hsz hdf hbase hops
  rw [hw0] at h
  exact wp_mono (wp_region_any hm h) (fun e a' w' ⟨e1, e2, e3⟩ => by subst e1 e2 e3; exact hQ)
/-- .. in a round. -/
theorem wpIn_region_chain {n id ld : Nat} {l : List Oper} {a0 : Act} {w : World} (hm : P.follows .mixedOrders = true) (wr : List Nat) (A : Act) (ws : Nat → World) (hw0 : ws 0 = w.drew)
    (hst : (backB l.toArray && (plainB l.toArray && (depB .any l.toArray && (dstB l.toArray && (chainB .any l.toArray wr && lastB .any l.toArray wr))))) = true) (hnd : wr.Nodup)
    (hsz : a0.tmps.size = A.tmps.size) (hdf : a0.defers = A.defers) (hbase : ∀ t : Nat, (∀ (i : Nat) (o : Oper), l.toArray[i]? = some o → o.dst ≠ some t) → a0.tmps.getD t undef = A.tmps.getD t undef)
    (hops : EachOp (OpAt P A wr ws) 0 l) (hQ : Q .normal A (ws wr.length)) : (Code.region id l.toArray true).wpIn (Fence.wide.inRound ld) n P Q a0 w := by
  simp only [Bool.and_eq_true] at hst
  obtain ⟨h1, h2, h3, h4, h5, h6⟩ := hst
  have h := any_chain (md := .any) h1 h2 h3 h4 wr h5 h6 hnd a0 A ws hsz hdf hbase hops
  rw [hw0] at h
  have hd : ∀ (i : Nat) (o : Oper), l.toArray[i]? = some o → ∀ c, o.op ≠ .defer c := fun i o ho c e => by
    simp only [plainB, List.all_eq_true, Bool.and_eq_true] at h2
    have := (h2 o (by have := Array.mem_of_getElem? ho; simpa using this)).2
    rw [e] at this
    simp at this
  have hno : ¬ LetsOut (fun e a' w' => e = .normal ∧ a' = A ∧ w' = ws wr.length) := fun ⟨_, _, e, _⟩ => by cases e
  exact wpIn_mono (wpIn_region_any hm (any_round' hd hno _ _ _ _ h)) (fun e a' w' ⟨e1, e2, e3⟩ => by subst e1 e2 e3; exact hQ)
end

end Go.Proofs.Ytaojognjkiifmaa

namespace Go.Proofs.Ytaojognjkiifmaa
open Go.RowKit Go.Shelf Go.Maps

attribute [local go_sem] Oper.semAt_some

/-- The line net, in new memory. -/
def LineG (w : World) (n : Nat) (xs : List ArcD) (ts : List TurnD) (e : Ending) (w' : World) : Prop :=
  ∃ v, e = .returned (.agg #[.int .i64 (n : Int), v]) ∧ ResA w' w.heap.size v (lineL xs ts) ∧ Below w.heap.size w w'

/-- The frame between two rounds. -/
def nFrame (V X : Nat) (m : Int) (A : Option Addr) (n c : Nat) (B : Option Addr) (l cb P i : Nat) (u : Nat → Value) (ds : List Deferred) : Act :=
  { tmps := (.agg #[.int .i64 m, .slice A n c] :: .slice B l cb :: .pointer (some ⟨V, 0, none⟩) :: undef :: .pointer (some ⟨V + 1, 0, none⟩) :: .pointer (some ⟨X, 0, none⟩) :: .pointer (some ⟨X + 1, 0, none⟩) :: u 7 :: u 8 :: u 9 :: u 10 :: .slice B l cb :: .map (some P) :: .pointer (some ⟨V, 1, none⟩) :: .slice A n c :: .int .i64 (n : Int) :: .agg #[.int .i64 (n : Int), .slice none 0 0] :: .pointer (some ⟨V, 1, none⟩) :: .slice A n c :: .int .i64 (n : Int) :: .int .i64 (i : Int) :: u 21 :: u 22 :: u 23 :: u 24 :: u 25 :: u 26 :: u 27 :: u 28 :: u 29 :: u 30 :: u 31 :: u 32 :: u 33 :: u 34 :: u 35 :: u 36 :: u 37 :: u 38 :: u 39 :: u 40 :: u 41 :: u 42 :: u 43 :: u 44 :: u 45 :: u 46 :: u 47 :: u 48 :: u 49 :: u 50 :: u 51 :: u 52 :: u 53 :: undef :: []).toArray, defers := ds }
theorem nFrame_mk {V X : Nat} {m : Int} {A : Option Addr} {n c : Nat} {B : Option Addr} {l cb P i : Nat} (t : Array Value) (ds : List Deferred) (h : t = (nFrame V X m A n c B l cb P i (fun i => t.getD i undef) ds).tmps) : ∃ u, (Act.mk t ds) = nFrame V X m A n c B l cb P i u ds :=
  ⟨fun i => t.getD i undef, by rw [nFrame]; congr 1⟩

/-- What comes of the arcs that an iterator has told so far. -/
def rowP (xs : List ArcD) (ts : List TurnD) (i : Nat) (p : List Int) : List ArcD := p.flatMap fun y => lineArc xs ts i y.toNat
theorem rowP_snoc (xs : List ArcD) (ts : List TurnD) (i : Nat) (p : List Int) (y : Int) : rowP xs ts i (p ++ [y]) = rowP xs ts i p ++ lineArc xs ts i y.toNat := by simp [rowP]
theorem rowP_all {xs : List ArcD} (ts : List TurnD) {i : Nat} {a : ArcD} (ha : xs[i]? = some a) : ∀ n, n ≤ xs.length → rowP xs ts i (outTo xs a.t n) = rowL xs ts i n
  | 0, _ => rfl
  | n + 1, hn => by
    have ih := rowP_all ts ha n (by omega)
    obtain ⟨b, hb⟩ : ∃ b, xs[n]? = some b := ⟨_, List.getElem?_eq_getElem (by omega)⟩
    rw [rowL, ← ih]
    cases he : (b.f == a.t) with
    | true => rw [outTo_hit hb he, rowP_snoc]; simp
    | false => rw [outTo_miss hb he, lineArc_turn ha hb (by simp at he; exact fun e => he e.symm), List.append_nil]
theorem rowP_len (xs : List ArcD) (ts : List TurnD) (i : Nat) : ∀ p : List Int, (rowP xs ts i p).length ≤ p.length
  | [] => by simp [rowP]
  | y :: p => by
    have h1 := rowP_len xs ts i p
    have h2 := lineArc_len xs ts i y.toNat
    simp only [rowP, List.flatMap_cons, List.length_append, List.length_cons] at *
    omega

/-- What holds between two rounds. -/
def LnLoop (w w1 : World) (m : Int) (A : Option Addr) (n c : Nat) (xs : List ArcD) (B : Option Addr) (l cb : Nat) (ts : List TurnD) (P : Nat) (q : Nat) (a : Act) (wr : World) : Prop :=
  ∃ (i : Nat) (v : Value) (rs : List Nat), i ≤ n ∧ n - i ≤ q ∧ (∃ u, a = nFrame w.heap.size w1.heap.size m A n c B l cb P i u (rs.map mkD)) ∧ LSt (w1.heap.size + 1) w1 wr n v (lineTo xs ts n i) ∧
    wr.cell? ⟨w1.heap.size, 0, none⟩ = some (.map (some P)) ∧ (∀ r ∈ rs, wr.heap[r]? = some (.deferred (some []))) ∧ rs.Nodup ∧ (∀ r ∈ rs, w1.heap.size + 2 ≤ r)
/-- What holds between two rounds of the inner loop; Y: the box of the arc's number. -/
structure LnIn (w1 W : World) (X Y n : Nat) (i : Nat) (P : Nat) (rs : List Nat) (v : Value) (L : List ArcD) : Prop where
  st : LSt (X + 1) w1 W n v L
  costs : W.cell? ⟨X, 0, none⟩ = some (.map (some P))
  num : W.cell? ⟨Y, 0, none⟩ = some (.int .i64 (i : Int))
  defs : ∀ r ∈ rs, W.heap[r]? = some (.deferred (some []))
  off : ∀ b, v.ownBlock = some b → b < Y ∨ Y + 4 ≤ b
  base : Y + 4 ≤ W.heap.size

section
variable {w1 W W' : World} {X Y n i P : Nat} {rs : List Nat} {v : Value} {L : List ArcD}
theorem LnIn.turn {row : Option Nat} (h : LnIn w1 W X Y n i P rs v L) (hXY : w1.heap.size ≤ Y) (hrs : ∀ r ∈ rs, r < Y + 4) (hg : W.grownBy W' row) (hr : ∀ r, row = some r → Y + 4 ≤ r ∧ ∃ o : Obj, W.heap[r]? = some o ∧ o.isCells = false) : LnIn w1 W' X Y n i P rs v L := by
  have no : ∀ x cs t f, W.heap[x]? = some (.cells cs t f) → some x ≠ row := fun x cs t f hx e => by
    obtain ⟨_, o, ho, hc⟩ := hr x e.symm
    rw [hx] at ho
    injection ho with ho
    rw [← ho] at hc
    cases hc
  refine ⟨⟨cell_kept h.st.o0 hg (fun r e => (hr r e).2), cell_kept h.st.o1 hg (fun r e => (hr r e).2), ?_, ?_, Below.grown h.st.past hg h.st.past.size (fun r e => by have := (hr r e).1; omega)⟩, cell_kept h.costs hg (fun r e => (hr r e).2), cell_kept h.num hg (fun r e => (hr r e).2), fun r hr' => ?_, h.off, Nat.le_trans h.base hg.size⟩
  · obtain ⟨cs, hcs, hl⟩ := h.st.row
    exact h.st.row.keep (hg.block _ h.st.row.lt (no _ _ _ _ hcs))
  · refine World.ownsRow.kept h.st.own hg ?_
    cases hv : v.ownBlock with
    | none => simp
    | some b =>
      obtain ⟨cs, hcs⟩ := cells_of_own h.st.own hv
      exact .inr (no _ _ _ _ hcs)
  · have hd := h.defs r hr'
    rw [hg.block r (Array.getElem?_eq_some_iff.1 hd).1 (fun e => by have := (hr r e.symm).1; have := hrs r hr'; omega)]
    exact hd
end

/-- One arc more. -/
theorem LnIn.fill {w1 W : World} {X Y n i P : Nat} {rs : List Nat} {v : Value} {L : List ArcD} (h : LnIn w1 W X Y n i P rs v L) (a : ArcD) (n0 : Nat) (hn0 : n0 ≤ X + 1) (hL : L.length ≤ 1000) (hX : w1.heap.size ≤ X) (hXY : X + 1 < Y) (hrs : ∀ r ∈ rs, X + 2 ≤ r) :
    ∃ v1 w9, (Builtin.append_ #[30, 30] 30 #[v, .slice (some ⟨W.heap.size, 0, none⟩) 1 1]).run Try.prog (W.drew.alloc (.cells #[.int .i64 a.f, .int .i64 a.t, .int .i64 a.c, .int .i64 a.l, .int .i64 a.d] 52)) = .ok v1 w9 ∧
      (∃ A2 k c2, v1 = .slice A2 k c2) ∧ (∀ p u, p.block < X + 2 ∨ (Y ≤ p.block ∧ p.block < Y + 4) → W.cell? p = some u → w9.cell? p = some u) ∧
      (∃ u, w9.cell? ⟨X + 1, 1, none⟩ = some u) ∧ w9.frozen? ⟨X + 1, 1, none⟩ = false ∧ LnIn w1 (w9.setCell ⟨X + 1, 1, none⟩ v1) X Y n i P rs v1 (L ++ [a]) ∧
      KeepsFrom (Y + 4) W (w9.setCell ⟨X + 1, 1, none⟩ v1) ∧ (∀ k, k < X + 1 ∨ (Y ≤ k ∧ k < Y + 4) → (w9.setCell ⟨X + 1, 1, none⟩ v1).heap[k]? = W.heap[k]?) ∧ Below n0 W (w9.setCell ⟨X + 1, 1, none⟩ v1) := by
  obtain ⟨i0, hi, hz0, hz1, hz2⟩ := info_parts infoArc
  have hown := h.st.own
  have hsz := h.base
  have hownA : (W.drew.alloc (.cells #[.int .i64 a.f, .int .i64 a.t, .int .i64 a.c, .int .i64 a.l, .int .i64 a.d] 52)).ownsRow (X + 1 + 1) 52 5 v L.length (cellsOf L) := World.ownsRow.alloc (w := W.drew) hown _
  obtain ⟨v1, w9, hr, h2, h3, _, h5⟩ := run_append_own_at (P := Try.prog) (W.drew.alloc (.cells #[.int .i64 a.f, .int .i64 a.t, .int .i64 a.c, .int .i64 a.l, .int .i64 a.d] 52)) (X + 1 + 1) 30 30 52 i0 _ 5 40 Try.underlying30 hi hz0 hz1 hz2 rfl (by omega) v L.length (cellsOf L) hownA ⟨W.heap.size, 0, none⟩ 1 1 [.int .i64 a.f, .int .i64 a.t, .int .i64 a.c, .int .i64 a.l, .int .i64 a.d] rfl (five_news W.drew _ _ _ _ _ _) (cellsOf_one [a]) (by unfold maxLen; omega) (by omega) (by simp; omega)
  obtain ⟨u9, z9, hS9⟩ := h.st.put (a := a) (wa := W.drew.alloc (.cells #[.int .i64 a.f, .int .i64 a.t, .int .i64 a.c, .int .i64 a.l, .int .i64 a.d] 52)) (by omega) (((Past.refl W).drew).alloc _) h3 h2 rfl rfl
  have hs1 : (W.drew.alloc (.cells #[.int .i64 a.f, .int .i64 a.t, .int .i64 a.c, .int .i64 a.l, .int .i64 a.d] 52)).heap.size = W.heap.size + 1 := by simp
  have off : ∀ k, k < X + 2 ∨ (Y ≤ k ∧ k < Y + 4) → some k ≠ v.ownBlock := fun k hk e => by
    rcases hk with hk | hk
    · exact own_ne hown (g := k) (by omega) e
    · have := h.off k e.symm; omega
  have old : ∀ k, k < W.heap.size → (W.drew.alloc (.cells #[.int .i64 a.f, .int .i64 a.t, .int .i64 a.c, .int .i64 a.l, .int .i64 a.d] 52)).heap[k]? = W.heap[k]? := fun k hk => Below.heap_alloc W.drew _ k hk
  have hX1 : X + 1 < W.heap.size := by omega
  have far : ∀ p u, p.block < X + 2 ∨ (Y ≤ p.block ∧ p.block < Y + 4) → W.cell? p = some u → w9.cell? p = some u := fun p u hp hc => h3.cell (cell_in (((Past.refl W).drew).alloc _) hc) (off _ hp)
  have h9 : ∀ k, k < W.heap.size → some k ≠ v.ownBlock → k ≠ X + 1 → (w9.setCell ⟨X + 1, 1, none⟩ v1).heap[k]? = W.heap[k]? := fun k hk hne hx => (Below.heap_setCell _ _ _ _ hx).trans ((h3.block k (by omega) hne).trans (old k hk))
  have hsz9 : W.heap.size ≤ (w9.setCell ⟨X + 1, 1, none⟩ v1).heap.size := by have := h3.size; rw [hs1] at this; simp; omega
  refine ⟨v1, w9, hr, ?_, far, u9, z9, ⟨hS9, ?_, ?_, fun r hr' => ?_, fun b e => ?_, by omega⟩, ⟨hsz9, fun k o hk ho hc => ?_⟩, fun k hk => h9 k (by omega) (off k (by omega)) (by omega), ?_⟩
  · obtain ⟨g, c, e, _⟩ := World.ownsRow.form h2 (by omega)
    exact ⟨_, _, _, e⟩
  · exact (World.cell?_setCell_other _ _ _ _ (by simp)).trans (far _ _ (.inl (by simp)) h.costs)
  · exact (World.cell?_setCell_other _ _ _ _ (by intro e; injection e; omega)).trans (far _ _ (.inr (by simp)) h.num)
  · have hd := h.defs r hr'
    refine (h9 r (Array.getElem?_eq_some_iff.1 hd).1 (fun e => ?_) (by have := hrs r hr'; omega)).trans hd
    obtain ⟨cs, hcs⟩ := cells_of_own hown e.symm
    rw [hcs] at hd
    cases hd
  · rcases h5 with e5 | e5
    · exact h.off b (e5.symm.trans e)
    · rw [e5] at e
      injection e with e
      omega
  · refine (h9 k (Array.getElem?_eq_some_iff.1 ho).1 (fun e => ?_) (by omega)).trans ho
    obtain ⟨cs, hcs⟩ := cells_of_own hown e.symm
    rw [hcs] at ho
    injection ho with ho
    rw [← ho] at hc
    cases hc
  · refine Below.setCell (Below.grown (Below.alloc (Below.drew (Below.refl n0 W)) (by simp; omega) _) h3 (by rw [hs1]; omega) (fun b e => by have := (hown.lt b e).1; omega)) (by simpa using hn0) _

set_option maxRecDepth 1000000 in
set_option maxHeartbeats 4000000 in
theorem line_in (m : Int) (A : Option Addr) (n c : Nat) (xs : List ArcD) (B : Option Addr) (l cb : Nat) (ts : List TurnD) (w : World) (hn : n ≤ 16) (hnx : xs.length = n) (hx : ArcsAt w A xs) (hl : l ≤ 1048576) (hlt : ts.length = l) (ht : TurnsAt w B ts) (hT : turnsB m xs ts = true) :
    CallsIn Fence.wide 4 Try.prog 63 #[.agg #[.int .i64 m, .slice A n c], .slice B l cb] w (LineG w n xs ts) := by
  have HX := Lib.hid hnx
  have HL := Lib.hid hlt
  have HT := Lib.hid hT
  clear hnx hlt hT
  have hb0 : Past w ((w.alloc (.cells #[.int .i64 m, .slice A n c] 32)).alloc (.cells #[.int .i64 0, .slice none 0 0] 32)) := ((Past.refl _).alloc _).alloc _
  have h16 : xs.length ≤ 16 := by rw [HX.out]; exact hn
  refine callsIn_of_wp_marks Try.func63 rfl trivial ?_ rfl
  simp only [Try.ntmps63, List.size_toArray, List.length_cons, List.length_nil, Nat.reduceAdd, Nat.reduceSub, Array.replicate_succ, Array.replicate_zero, List.push_toArray, List.append_toArray, List.nil_append, List.cons_append]
  gi_wp2_with fail
  refine ⟨trivial, ?_⟩
  refine (callsIn_wide.2 (turnCosts_any B l cb ts _ hl HL.out (ht.below hb0) (fun t hm => turn_wf h16 (List.all_eq_true.1 (turnsB_all HT.out).2.2.1 t hm)))).mono ?_
  rintro e w1 ⟨P, D, rfl, hown, hM, hb1⟩
  have b0 := cell_in (p := ⟨w.heap.size, 0, none⟩) (v := .int .i64 m) hb1 (by go_simp)
  have b1 := cell_in (p := ⟨w.heap.size, 1, none⟩) (v := .slice A n c) hb1 (by go_simp)
  have e0 := cell_in (p := ⟨w.heap.size + 1, 0, none⟩) (v := .int .i64 0) hb1 (by go_simp)
  have e1 := cell_in (p := ⟨w.heap.size + 1, 1, none⟩) (v := .slice none 0 0) hb1 (by go_simp)
  have hrc0 : RowN w1 (w.heap.size + 1) 32 2 := by
    refine RowN.keep (w := ((w.alloc (.cells #[.int .i64 m, .slice A n c] 32)).alloc (.cells #[.int .i64 0, .slice none 0 0] 32))) ⟨#[.int .i64 0, .slice none 0 0], ?_, rfl⟩ (hb1.block _ (by simp))
    have := heap_alloc_new (w.alloc (.cells #[.int .i64 m, .slice A n c] 32)) (.cells #[.int .i64 0, .slice none 0 0] 32)
    simpa using this
  have hp1 := hb0.trans hb1
  have HD := Lib.hid hM.vals
  clear hM hb0 hb1 h16
  have b1A := fun (o : Obj) => cell_in ((Past.refl w1).alloc o) b1
  have b1B := fun (o o' : Obj) => cell_in (((Past.refl w1).alloc o).alloc o') b1
  gi_wp2_with fail
  have hst0 : LSt (w1.heap.size + 1) w1 ((w1.alloc (.cells #[.map (some P)] 100)).alloc (.cells #[.int .i64 (n : Int), .slice none 0 0] 32)) n (.slice none 0 0) (lineTo xs ts n 0) := by
    refine ⟨by go_simp, by go_simp, ⟨_, by have := heap_alloc_new (w1.alloc (.cells #[.map (some P)] 100)) (.cells #[.int .i64 (n : Int), .slice none 0 0] 32); simpa using this, rfl⟩, World.ownsRow_nil _ _ _ _, ((Past.refl w1).alloc _).alloc _⟩
  have hc0 : ((w1.alloc (.cells #[.map (some P)] 100)).alloc (.cells #[.int .i64 (n : Int), .slice none 0 0] 32)).cell? ⟨w1.heap.size, 0, none⟩ = some (.map (some P)) := by go_simp
  refine wpIn_loop_ghost_k (LnLoop w w1 m A n c xs B l cb ts P) n ⟨0, .slice none 0 0, [], Nat.zero_le _, by omega, nFrame_mk _ _ (by rfl), hst0, hc0, by simp, List.nodup_nil, by simp⟩ ?_
  clear hst0 hc0 b1A b1B
  rintro q a wr ⟨i, v, rs, hin, hiq, ⟨u, rfl⟩, hS, hcb, hdf, hnd, hsi⟩ J K hJ hK
  simp only [nFrame]
  have b0r := cell_in hS.past b0
  have b1r := cell_in hS.past b1
  by_cases hlt : i < n
  · obtain ⟨⟨f, t, ca, la, da⟩, ha⟩ : ∃ a, xs[i]? = some a := ⟨_, List.getElem?_eq_getElem (by have := HX.out; omega)⟩
    obtain ⟨g, o, rfl, c0, c1, c2, c3, c4⟩ := ((hx.below hp1).below hS.past) i _ ha
    have HA := Lib.hid ha
    have i0 : (0 : Int) ≤ (i : Int) := by omega
    have i1 : (i : Int) < (n : Int) := by omega
    have b1A := fun (o : Obj) => cell_in ((Past.refl wr).alloc o) b1r
    have b1B := fun (o o' : Obj) => cell_in (((Past.refl wr).alloc o).alloc o') b1r
    have b0B := fun (o o' : Obj) => cell_in (((Past.refl wr).alloc o).alloc o') b0r
    clear ha
    gi_wp2_with fail
    refine ⟨trivial, ?_⟩
    refine (callsIn_wide.2 (arcsFrom_any m t (some ⟨g, o, none⟩) n c _)).mono ?_
    rintro e w5 ⟨rfl, hw5⟩
    clear b1A b1B b0B c0 c1 c2 c3 c4
    have hs5 : w5.heap.size = wr.heap.size + 4 := by rw [hw5]; simp
    have hp5 : Past wr w5 := by rw [hw5]; exact ((((Past.refl _).alloc _).alloc _).alloc _).alloc _
    have hnum : w5.cell? ⟨wr.heap.size, 0, none⟩ = some (.int .i64 (i : Int)) := by rw [hw5]; go_simp
    have hS5 := hS.later hp5
    have hcb5 := cell_in hp5 hcb
    have hdf5 : ∀ r ∈ rs, w5.heap[r]? = some (.deferred (some [])) := fun r hr => (hp5.block r (Array.getElem?_eq_some_iff.1 (hdf r hr)).1).trans (hdf r hr)
    have hC : ArcsC (wr.heap.size + 1 + 1) (wr.heap.size + 1 + 1 + 1) m t (some ⟨g, o, none⟩) n c xs w5 := ⟨by rw [hw5]; go_simp, by rw [hw5]; go_simp, by rw [hw5]; go_simp, ((hx.below hp1).below hS.past).below hp5⟩
    simp only [World.size_alloc]
    clear hw5
    gi_wp2_with fail
    have hrs : ∀ r ∈ rs, r < wr.heap.size + 4 := fun r hr => by have := (Array.getElem?_eq_some_iff.1 (hdf r hr)).1; omega
    have hXr : w1.heap.size + 1 < wr.heap.size := hS.row.lt
    have hw0 := hp1.size
    have hI0 : LnIn w1 w5 w1.heap.size wr.heap.size n i P rs v (lineTo xs ts n i) := ⟨hS5, hcb5, hnum, hdf5, fun b e => .inl (hS.own.lt b e).2, by omega⟩
    refine wpIn_rangeFunc_ownG rfl (by omega) (gf := 100) (lb := #[.pointer (some ⟨wr.heap.size + 1 + 1, 0, none⟩), .pointer (some ⟨wr.heap.size + 1 + 1 + 1, 0, none⟩)]) rfl trivial (enters_of Try.func100 (by kernel_rfl) rfl)
      (arcsK_stops Fence.wide 3 trivial rfl (by omega) (wr.heap.size + 1 + 1) (wr.heap.size + 1 + 1 + 1) w.heap.size m t (some ⟨g, o, none⟩) n c xs HX.out (by omega) w hx (Nat.le_refl _) w5 hC)
      (fun h k => h.trans k) (fun W l o o' hl ho hc hw => ⟨belowK_b (w := w5) (by omega) W l o o' hl ho hc hw, World.putObj_heap_other (by omega), World.putObj_heap_other (by omega)⟩) (Below.refl _ _) (fun _ => rfl)
      (fun pre W => ∃ v, LnIn w1 W w1.heap.size wr.heap.size n i P rs v (lineTo xs ts n i ++ rowP xs ts i (nums pre)))
      (fun _ _ _ => False)
      (fun pre A B row hs hg hr => by
        obtain ⟨v, h⟩ := hs
        exact ⟨v, h.turn (by omega) hrs hg (fun r e => by have := hr r e; rw [hs5] at this; exact this)⟩)
      (fun _ _ _ _ _ hs _ _ => hs)
      ⟨v, by simpa [nums, rowP] using hI0⟩
      (fun x => { tmps := (.agg #[.int .i64 m, .slice (some ⟨g, o, none⟩) n c] :: .slice B l cb :: .pointer (some ⟨w.heap.size, 0, none⟩) :: undef :: .pointer (some ⟨w.heap.size + 1, 0, none⟩) :: .pointer (some ⟨w1.heap.size, 0, none⟩) :: .pointer (some ⟨w1.heap.size + 1, 0, none⟩) :: .pointer (some ⟨wr.heap.size, 0, none⟩) :: .pointer (some ⟨wr.heap.size + 1, 0, none⟩) :: .int .i64 x.1 :: u 10 :: .slice B l cb :: .map (some P) :: .pointer (some ⟨w.heap.size, 1, none⟩) :: .slice (some ⟨g, o, none⟩) n c :: .int .i64 (n : Int) :: .agg #[.int .i64 (n : Int), .slice none 0 0] :: .pointer (some ⟨w.heap.size, 1, none⟩) :: .slice (some ⟨g, o, none⟩) n c :: .int .i64 (n : Int) :: .int .i64 (i : Int) :: .bool true :: .int .i64 (i : Int) :: .pointer (some ⟨g, o + i * 5, none⟩) :: .agg #[.int .i64 f, .int .i64 t, .int .i64 ca, .int .i64 la, .int .i64 da] :: .agg #[.int .i64 m, .slice (some ⟨g, o, none⟩) n c] :: .pointer (some ⟨wr.heap.size + 1, 1, none⟩) :: .int .i64 t :: .func (.func 100) #[] #[.pointer (some ⟨wr.heap.size + 1 + 1, 0, none⟩), .pointer (some ⟨wr.heap.size + 1 + 1 + 1, 0, none⟩)] :: .int .i64 x.1 :: u 30 :: u 31 :: u 32 :: u 33 :: u 34 :: u 35 :: u 36 :: u 37 :: u 38 :: u 39 :: u 40 :: u 41 :: u 42 :: u 43 :: u 44 :: u 45 :: u 46 :: u 47 :: u 48 :: u 49 :: u 50 :: u 51 :: u 52 :: u 53 :: undef :: []).toArray, defers := [] }) ?assign ?body ?done ?stop
    case assign =>
      intro l x W K hK
      gi_wp2
      exact hK
    case body =>
      rintro ld pre ⟨x, j, ⟨f', t', c', l', d'⟩, rfl, hb', hf⟩ W ⟨v, hI⟩ hlt'
      have hf : f' = t := hf
      subst hf
      have hjk : j < n := by rw [← HX.out]; exact (List.getElem?_eq_some_iff.1 hb').1
      obtain ⟨bb, oo, eg, d0, d1, d2, d3, d4⟩ := ((hx.below hp1).below hI.st.past) j _ hb'
      injection eg with eg
      injection eg with eg1 eg2
      subst eg1 eg2
      have hcst := hI.costs
      have hnm := hI.num
      have hmap := hown.kept (grown_of_below hI.st.past none) (by simp)
      obtain ⟨Kl, hkey⟩ := pair_key (i : Int) (j : Int) (WalkArith.wf_i64 (by omega)) (WalkArith.wf_i64 (by omega))
      have hrun : (Instr.lookup 100 (.map (some P)) (.agg #[.int .i64 (i : Int), .int .i64 (j : Int)]) false).run Try.prog W = .ok (.int .i64 (costF ts (i : Int) (j : Int))) W := by
        obtain ⟨cc, h1, h2, _⟩ := World.ownsMap.lookup_int (w := W) (q := .i64) (t := 100) (e := 3) hmap pairLaw Try.underlying100 Try.underlying3 (by kernel_rfl) hkey
        rw [HD.out (i : Int) (j : Int) Kl hkey, ← HL.out, costLT_all ts _ _ (turnsB_all HT.out).2.2.2] at h2
        have h3 : costF ts (i : Int) (j : Int) = cc := by simpa using h2
        rw [h1, h3]
      have hcb' := costF_bd (turnsB_all HT.out).2.2.1 (i : Int) (j : Int)
      obtain ⟨C, hCC⟩ : ∃ C, C = costF ts (i : Int) (j : Int) := ⟨_, rfl⟩
      rw [← hCC] at hrun hcb'
      have HCC := Lib.hid hCC
      have HB' := Lib.hid hb'
      clear hCC hkey hmap d0 d1 d3 d4
      have hrow : (nums (xs := xs) (node := f') pre).length ≤ n := by rw [nums_length]; omega
      by_cases hneg : C = -1
      · have q1 : (C != -1) = false := by simpa using hneg
        have HN : Hid (lineTo xs ts n i ++ rowP xs ts i (nums pre ++ [(j : Int)]) = lineTo xs ts n i ++ rowP xs ts i (nums pre)) := by
          rw [Hid, rowP_snoc, Int.toNat_natCast, lineArc_no HA.out HB'.out (by rw [← HCC.out]; omega), List.append_nil]
        clear hneg
        gi_wp2
        exact ⟨⟨Nat.le_refl _, fun b o _ ho _ => ho⟩, ⟨Below.refl _ _, rfl, rfl⟩, v, by rw [nums_snoc, HN.out]; exact hI⟩
      · have q1 : (C != -1) = true := by simpa using hneg
        gi_wp2_with fail
        have hbw := cell_in hI.st.past b1
        have o1 := hI.st.o1
        have hgl : g < w.heap.size := by
          obtain ⟨g3, o3, e3, h3, _⟩ := hx j _ HB'.out
          injection e3 with e3
          injection e3 with e4 e5
          subst e4
          exact lt_of_cell h3
        have hbo := ((netB_iff _ _).1 (turnsB_all HT.out).1).2.2 _ (List.mem_of_getElem? HB'.out)
        simp [arcB, inB_iff] at hbo
        obtain ⟨L, hL⟩ : ∃ L, L = lineTo xs ts n i ++ rowP xs ts i (nums pre) := ⟨_, rfl⟩
        have HN : Hid (lineTo xs ts n i ++ rowP xs ts i (nums pre ++ [(j : Int)]) = L ++ [⟨(i : Int), (j : Int), C + c', 0, 9⟩]) := by
          rw [Hid, rowP_snoc, Int.toNat_natCast, lineArc_hit HA.out HB'.out rfl (by rw [← HCC.out]; omega), ← HCC.out, ← List.append_assoc, hL]
        have hlen : L.length ≤ 1000 := by
          have h1 := lineTo_len xs ts n i
          have h2 := rowP_len xs ts i (nums pre)
          have h3 : i * n ≤ 16 * 16 := Nat.mul_le_mul (by omega) hn
          rw [hL, List.length_append]
          omega
        rw [← hL] at hI
        obtain ⟨v1, w9, hr, ⟨A2, k2, c2, rfl⟩, far, ⟨u9, x9⟩, z9, hI9, hkf, hblk, hbel⟩ := hI.fill ⟨(i : Int), (j : Int), C + c', 0, 9⟩ w.heap.size (by omega) hlen (Nat.le_refl _) hXr hsi
        have s1 : IntKind.i64.wrap (C + c') = C + c' := IntWalk.i64_in _ (by omega)
        generalize hV1 : Value.slice A2 k2 c2 = v1 at hr hI9 hkf hblk hbel
        refine wpIn_region_chain (by kernel_rfl) [13, 14, 16] { tmps := (.agg #[.int .i64 m, .slice (some ⟨g, o, none⟩) n c] :: .slice B l cb :: .pointer (some ⟨w.heap.size, 0, none⟩) :: undef :: .pointer (some ⟨w.heap.size + 1, 0, none⟩) :: .pointer (some ⟨w1.heap.size, 0, none⟩) :: .pointer (some ⟨w1.heap.size + 1, 0, none⟩) :: .pointer (some ⟨wr.heap.size, 0, none⟩) :: .pointer (some ⟨wr.heap.size + 1, 0, none⟩) :: .int .i64 (j : Int) :: .int .i64 C :: .slice B l cb :: .map (some P) :: .pointer (some ⟨w.heap.size, 1, none⟩) :: .slice (some ⟨g, o, none⟩) n c :: .int .i64 (n : Int) :: .agg #[.int .i64 (n : Int), .slice none 0 0] :: .pointer (some ⟨w.heap.size, 1, none⟩) :: .slice (some ⟨g, o, none⟩) n c :: .int .i64 (n : Int) :: .int .i64 (i : Int) :: .bool true :: .int .i64 (i : Int) :: .pointer (some ⟨g, o + i * 5, none⟩) :: .agg #[.int .i64 f, .int .i64 f', .int .i64 ca, .int .i64 la, .int .i64 da] :: .agg #[.int .i64 m, .slice (some ⟨g, o, none⟩) n c] :: .pointer (some ⟨wr.heap.size + 1, 1, none⟩) :: .int .i64 f' :: .func (.func 100) #[] #[.pointer (some ⟨wr.heap.size + 1 + 1, 0, none⟩), .pointer (some ⟨wr.heap.size + 1 + 1 + 1, 0, none⟩)] :: .int .i64 (j : Int) :: .map (some P) :: .int .i64 (i : Int) :: .int .i64 (j : Int) :: .agg #[.int .i64 (i : Int), .int .i64 (j : Int)] :: .int .i64 C :: .int .i64 C :: .bool true :: .pointer (some ⟨w1.heap.size + 1, 1, none⟩) :: v :: .int .i64 (i : Int) :: .int .i64 (j : Int) :: .int .i64 C :: .pointer (some ⟨w.heap.size, 1, none⟩) :: .slice (some ⟨g, o, none⟩) n c :: .int .i64 (j : Int) :: .pointer (some ⟨g, o + j * 5, none⟩) :: .pointer (some ⟨g, o + j * 5 + 2, none⟩) :: .int .i64 c' :: (.int .i64 (C + c')) :: (.agg #[.int .i64 (i : Int), .int .i64 (j : Int), .int .i64 (C + c'), .int .i64 0, .int .i64 9]) :: .slice (some ⟨W.heap.size, 0, none⟩) 1 1 :: v1 :: .pointer (some ⟨w1.heap.size + 1, 1, none⟩) :: u 53 :: undef :: []).toArray, defers := [] } (fun s => ([W.drew, W.drew.alloc (.cells #[.int .i64 (i : Int), .int .i64 (j : Int), .int .i64 (C + c'), .int .i64 0, .int .i64 9] 52), w9, w9.setCell ⟨w1.heap.size + 1, 1, none⟩ v1] : List World).getD s W) rfl (by kernel_rfl) (by decide) rfl rfl ?base ?eachop ?fin
        case base =>
          intro t ht
          iterate 37 (rcases t with _ | t; · rfl)
          rcases t with _ | t; · exact absurd rfl (ht 0 _ rfl)
          rcases t with _ | t; · exact absurd rfl (ht 1 _ rfl)
          rcases t with _ | t; · exact absurd rfl (ht 2 _ rfl)
          rcases t with _ | t; · exact absurd rfl (ht 3 _ rfl)
          rcases t with _ | t; · exact absurd rfl (ht 4 _ rfl)
          rcases t with _ | t; · exact absurd rfl (ht 5 _ rfl)
          rcases t with _ | t; · exact absurd rfl (ht 6 _ rfl)
          rcases t with _ | t; · exact absurd rfl (ht 7 _ rfl)
          rcases t with _ | t; · exact absurd rfl (ht 8 _ rfl)
          rcases t with _ | t; · exact absurd rfl (ht 9 _ rfl)
          rcases t with _ | t; · exact absurd rfl (ht 10 _ rfl)
          rcases t with _ | t; · exact absurd rfl (ht 11 _ rfl)
          rcases t with _ | t; · exact absurd rfl (ht 12 _ rfl)
          rcases t with _ | t; · exact absurd rfl (ht 13 _ rfl)
          rcases t with _ | t; · exact absurd rfl (ht 14 _ rfl)
          rcases t with _ | t; · exact absurd rfl (ht 15 _ rfl)
          rfl
        case eachop =>
          have g0 : ∀ s, s < 3 → (([W.drew, W.drew.alloc (.cells #[.int .i64 (i : Int), .int .i64 (j : Int), .int .i64 (C + c'), .int .i64 0, .int .i64 9] 52), w9, w9.setCell ⟨w1.heap.size + 1, 1, none⟩ v1] : List World).getD s W).cell? ⟨w1.heap.size + 1, 1, none⟩ = some v ∧
              (([W.drew, W.drew.alloc (.cells #[.int .i64 (i : Int), .int .i64 (j : Int), .int .i64 (C + c'), .int .i64 0, .int .i64 9] 52), w9, w9.setCell ⟨w1.heap.size + 1, 1, none⟩ v1] : List World).getD s W).cell? ⟨wr.heap.size, 0, none⟩ = some (.int .i64 (i : Int)) ∧
              (([W.drew, W.drew.alloc (.cells #[.int .i64 (i : Int), .int .i64 (j : Int), .int .i64 (C + c'), .int .i64 0, .int .i64 9] 52), w9, w9.setCell ⟨w1.heap.size + 1, 1, none⟩ v1] : List World).getD s W).cell? ⟨w.heap.size, 1, none⟩ = some (.slice (some ⟨g, o, none⟩) n c) ∧
              (([W.drew, W.drew.alloc (.cells #[.int .i64 (i : Int), .int .i64 (j : Int), .int .i64 (C + c'), .int .i64 0, .int .i64 9] 52), w9, w9.setCell ⟨w1.heap.size + 1, 1, none⟩ v1] : List World).getD s W).cell? ⟨g, o + j * 5 + 2, none⟩ = some (.int .i64 c') := by
            intro s hs
            rcases s with _ | _ | _ | s
            · exact ⟨o1, hnm, hbw, d2⟩
            · exact ⟨cell_in (((Past.refl W).drew).alloc _) o1, cell_in (((Past.refl W).drew).alloc _) hnm, cell_in (((Past.refl W).drew).alloc _) hbw, cell_in (((Past.refl W).drew).alloc _) d2⟩
            · exact ⟨far _ _ (.inl (by simp)) o1, far _ _ (.inr (by simp)) hnm, far _ _ (.inl (by simp; omega)) hbw, far _ _ (.inl (by simp; omega)) d2⟩
            · omega
          generalize hWS : ([W.drew, W.drew.alloc (.cells #[.int .i64 (i : Int), .int .i64 (j : Int), .int .i64 (C + c'), .int .i64 0, .int .i64 9] 52), w9, w9.setCell ⟨w1.heap.size + 1, 1, none⟩ v1] : List World) = wl at g0 ⊢
          have q0 : ∀ s, s < 3 → (wl.getD s W).cell? ⟨w1.heap.size + 1, 1, none⟩ = some v := fun s h => (g0 s h).1
          have q1 : ∀ s, s < 3 → (wl.getD s W).cell? ⟨wr.heap.size, 0, none⟩ = some (.int .i64 (i : Int)) := fun s h => (g0 s h).2.1
          have q2 : ∀ s, s < 3 → (wl.getD s W).cell? ⟨w.heap.size, 1, none⟩ = some (.slice (some ⟨g, o, none⟩) n c) := fun s h => (g0 s h).2.2.1
          have q3 : ∀ s, s < 3 → (wl.getD s W).cell? ⟨g, o + j * 5 + 2, none⟩ = some (.int .i64 c') := fun s h => (g0 s h).2.2.2
          have j0 : (0 : Int) ≤ (j : Int) := by omega
          have j1 : (j : Int) < (n : Int) := by omega
          refine ⟨?o0, ?o1, ?o2, ?o3, ?o4, ?o5, ?o6, ?o7, ?o8, ?o9, ?o10, ?o11, ?o12, ?o13, ?o14, ?o15, ?o16, trivial⟩
          case o13 => refine opAt_writer 0 (by decide) rfl (.inl ?_); subst hWS; go_simp
          case o14 =>
            refine opAt_writer 1 (by decide) rfl (.inl ?_)
            subst hWS
            unfold execOp
            simp only [resolve, invoke, builtin, Sem.run_bind, Sem.run_pure, Result.andThen_ok, List.map_toArray, List.map_cons, List.map_nil]
            refine Eq.trans (congrArg (fun r => Result.andThen r _) hr) ?_
            rfl
          case o16 => refine opAt_writer 2 (by decide) rfl (.inr ⟨rfl, ?_⟩); subst hWS hV1; go_simp
          all_goals refine opAt_quiet (by decide) fun s hs => .inl ?_
          all_goals have hs : s < 3 := hs
          all_goals have q0 := q0 s hs
          all_goals have q1 := q1 s hs
          all_goals have q2 := q2 s hs
          all_goals have q3 := q3 s hs
          all_goals clear hWS g0 far x9 z9 hI9 hkf hblk hbel hr
          all_goals generalize wl.getD s W = ww at *
          all_goals go_simp
        case fin =>
          exact ⟨by rw [hs5]; exact hkf, ⟨hbel, hblk _ (.inr (by omega)), hblk _ (.inr (by omega))⟩, _, by rw [nums_snoc, HN.out]; exact hI9⟩
    case done =>
      rintro Dd ys W hD hys ⟨v', hI⟩ hDd
      have hL : lineTo xs ts n i ++ rowP xs ts i (nums ys) = lineTo xs ts n (i + 1) := by
        rw [lineTo, hys, rowP_all ts HA.out n (by rw [HX.out]; exact Nat.le_refl _)]
      rw [hL] at hI
      have hI1 := hI.st
      have hI2 := hI.costs
      have hI3 := hI.defs
      clear hI hL
      gi_wp2
      refine Handed.intro (n - (i + 1)) (by omega) (hJ _ _ _ ⟨i + 1, v', Dd :: rs, by omega, Nat.le_refl _, nFrame_mk _ _ (by rfl), hI1, hI2, fun r hr => ?_, List.nodup_cons.2 ⟨fun hr => ?_, hnd⟩, fun r hr => ?_⟩)
      · rcases List.mem_cons.1 hr with rfl | hr
        · exact hDd
        · exact hI3 r hr
      · have := hrs Dd hr
        omega
      · rcases List.mem_cons.1 hr with rfl | hr
        · omega
        · exact hsi r hr
    case stop =>
      rintro D c pre W _ _ h _
      exact h.elim
  · obtain rfl : i = n := by omega
    have e0r := cell_in hS.past e0
    have e1r := cell_in hS.past e1
    have hrc : RowN w1 (w.heap.size + 1) 32 2 := hrc0
    have rr := hrc.keep (hS.past.block _ hrc.lt)
    have z0r := rr.frozen 0
    have z1r := rr.frozen 1
    have sv : w.heap.size + 1 < w1.heap.size := lt_of_cell e0
    obtain ⟨D, hD⟩ : ∃ D, D = (lineTo xs ts i i).length := ⟨_, rfl⟩
    obtain ⟨A2, c2, rfl, hx9, _⟩ := (show ResA wr (w1.heap.size + 1 + 1) v (lineTo xs ts i i) from hS.own).form
    have hown := hS.own
    have o0 := hS.o0
    have o1 := hS.o1
    rw [← hD] at hown o1
    have HDD := Lib.hid hD
    have HS := Lib.hid hS
    have HLL : Hid (lineTo xs ts i i = lineL xs ts) := by rw [Hid, lineL, HX.out]
    clear hS hD
    gi_wp2
    have hbl : Past w ((wr.setCell ⟨w.heap.size + 1, 0, none⟩ (.int .i64 (i : Int))).setCell ⟨w.heap.size + 1, 1, none⟩ (.slice A2 D c2)) := Below.setCell (Below.setCell (hp1.trans HS.out.past) (by simp) _) (by simp) _
    have hblk : ∀ r, r ≠ w.heap.size + 1 → ((wr.setCell ⟨w.heap.size + 1, 0, none⟩ (.int .i64 (i : Int))).setCell ⟨w.heap.size + 1, 1, none⟩ (.slice A2 D c2)).heap[r]? = wr.heap[r]? := fun r hr => (Below.heap_setCell _ _ _ _ hr).trans (Below.heap_setCell _ _ _ _ hr)
    refine leaves_marks rs _ hnd (fun r hr => (hblk r (by have := hsi r hr; omega)).trans (hdf r hr)) (fun W' hc => ⟨.agg #[.int .i64 (i : Int), .slice A2 D c2], ?_, ⟨_, rfl, ?_, ?_⟩⟩)
    · have nr : ¬ (w.heap.size + 1 ∈ rs) := fun h => by have := hsi _ h; omega
      have q0 := hc.cell (p := ⟨w.heap.size + 1, 0, none⟩) ((World.cell?_setCell_other _ _ _ _ (by simp)).trans (World.cell?_setCell_same wr ⟨w.heap.size + 1, 0, none⟩ (.int .i64 (i : Int)) e0r)) nr
      have q1 := hc.cell (p := ⟨w.heap.size + 1, 1, none⟩) (World.cell?_setCell_same (wr.setCell ⟨w.heap.size + 1, 0, none⟩ (.int .i64 (i : Int))) ⟨w.heap.size + 1, 1, none⟩ (.slice A2 D c2) ((World.cell?_setCell_other _ _ _ _ (by simp)).trans e1r)) nr
      simp [results, Try.results63, go_sem, q0, q1]
    · have h1 : ((wr.setCell ⟨w.heap.size + 1, 0, none⟩ (.int .i64 (i : Int))).setCell ⟨w.heap.size + 1, 1, none⟩ (.slice A2 D c2)).ownsRow (w1.heap.size + 1 + 1) 52 5 (.slice A2 D c2) D (cellsOf (lineTo xs ts i i)) :=
        own_far (own_far hown (fun e => own_ne hown (g := w.heap.size + 1) (by omega) e.symm) _) (fun e => own_ne hown (g := w.heap.size + 1) (by omega) e.symm) _
      have h2 := hc.own h1 (fun x e hx => by
        obtain ⟨cs, hcs⟩ := cells_of_own h1 e
        have hd := (hblk x (by have := (h1.lt x e).1; omega)).trans (hdf x hx)
        rw [hcs] at hd
        cases hd)
      rw [← HLL.out]
      refine ResA.lower (lo := w1.heap.size + 1 + 1) ?_ (by have := hp1.size; omega)
      unfold ResA
      rw [← HDD.out]
      exact h2
    · exact hbl.belowTrans (hc.below hbl.size (fun x hx hr => by have := hsi x hr; have := hp1.size; omega))

end Go.Proofs.Ytaojognjkiifmaa

namespace Go.Proofs.Ytaojognjkiifmaa
open Go.RowKit

theorem line_any (m : Int) (A : Option Addr) (n c : Nat) (xs : List ArcD) (B : Option Addr) (l cb : Nat) (ts : List TurnD) (w : World) (hn : n ≤ 16) (hnx : xs.length = n) (hx : ArcsAt w A xs) (hl : l ≤ 1048576) (hlt : ts.length = l) (ht : TurnsAt w B ts) (hT : turnsB m xs ts = true) :
    Calls Try.prog 63 #[.agg #[.int .i64 m, .slice A n c], .slice B l cb] w (LineG w n xs ts) :=
  (callsIn_wide (n := 4)).1 (line_in m A n c xs B l cb ts w hn hnx hx hl hlt ht hT)
theorem lineL_len (xs : List ArcD) (ts : List TurnD) (h : xs.length ≤ 16) : (lineL xs ts).length ≤ 256 := by
  have h1 := lineTo_len xs ts xs.length xs.length
  have h2 : xs.length * xs.length ≤ 16 * 16 := Nat.mul_le_mul h h
  rw [lineL]
  omega
theorem tnetL_lenM (m : Int) (xs : List ArcD) (ts : List TurnD) : (tnetL m xs ts).length ≤ 1048576 := by
  have := tnetL_len16 m xs ts
  omega

set_option maxRecDepth 100000 in
set_option maxHeartbeats 2000000 in
theorem implTurnNet_any (m : Int) (A : Option Addr) (n c : Nat) (xs : List ArcD) (B : Option Addr) (l cb : Nat) (ts : List TurnD) (w : World) (hn : n ≤ 1048576) (hnx : xs.length = n) (hx : ArcsAt w A xs) (hl : l ≤ 1048576) (hlt : ts.length = l) (ht : TurnsAt w B ts) :
    Calls Try.prog 35 #[.agg #[.int .i64 m, .slice A n c], .slice B l cb] w (GivesNB w (tnetN m xs ts) (tnetL m xs ts) (tnetB m xs ts)) := by
  have HX := Lib.hid hnx
  have HL := Lib.hid hlt
  clear hnx hlt
  have hb0 : Past w ((w.alloc (.cells #[.int .i64 m, .slice A n c] 32)).alloc (.cells #[.int .i64 0, .slice none 0 0] 32)) := ((Past.refl _).alloc _).alloc _
  go_enter Try.func35, Try.ntmps35
  go_wp2_with fail
  refine (implTurnsOk_any m A n c xs B l cb ts _ hn HX.out (hx.below hb0) hl HL.out (ht.below hb0)).mono ?_
  rintro e w1 ⟨rfl, hb1⟩
  have b0 := cell_in (p := ⟨w.heap.size, 0, none⟩) (v := .int .i64 m) hb1 (by go_simp)
  have b1 := cell_in (p := ⟨w.heap.size, 1, none⟩) (v := .slice A n c) hb1 (by go_simp)
  have e0 := cell_in (p := ⟨w.heap.size + 1, 0, none⟩) (v := .int .i64 0) hb1 (by go_simp)
  have e1 := cell_in (p := ⟨w.heap.size + 1, 1, none⟩) (v := .slice none 0 0) hb1 (by go_simp)
  have z0 := free_in (p := ⟨w.heap.size + 1, 0, none⟩) (v := .int .i64 0) hb1 (by go_simp) (by go_simp)
  have z1 := free_in (p := ⟨w.heap.size + 1, 1, none⟩) (v := .slice none 0 0) hb1 (by go_simp) (by go_simp)
  have hp1 := hb0.trans hb1
  have sw : w.heap.size + 1 < w1.heap.size := lt_of_cell e0
  clear hb0 hb1
  cases hB : turnsB m xs ts with
  | false =>
    have HF : Hid (tnetB m xs ts = false) := tnet_turns hB
    clear hB
    go_wp2
    exact bodyPost_ret (v := .tuple #[.agg #[.int .i64 0, .slice none 0 0], .bool false]) (by simp [results, Try.results35, go_sem, e0, e1]) rfl (givesNB_no HF.out rfl (Below.setCell (Below.setCell hp1 (by simp) _) (by simp) _))
  | true =>
  have HT := Lib.hid hB
  have h16 : xs.length ≤ 16 := ((netB_iff _ _).1 (turnsB_all hB).1).2.1
  have hln := lineL_len xs ts h16
  rw [HX.out] at h16
  clear hB
  go_wp2_with fail
  refine (line_any m A n c xs B l cb ts _ h16 HX.out (hx.below hp1) hl HL.out (ht.below hp1) HT.out).mono ?_
  rintro e w2 ⟨v, rfl, hv, hb2⟩
  have z0 := free_in hb2 e0 z0
  have z1 := free_in hb2 e1 z1
  have e0 := cell_in hb2 e0
  have e1 := cell_in hb2 e1
  have hp2 := hp1.trans hb2
  obtain ⟨D, hD⟩ : ∃ D, D = (lineL xs ts).length := ⟨_, rfl⟩
  obtain ⟨A2, c2, rfl, hx2, _⟩ := hv.form
  rw [← hD] at hv hln
  have hown : w2.ownsRow w1.heap.size 52 5 (.slice A2 D c2) D (cellsOf (lineL xs ts)) := by
    have h := hv
    unfold ResA at h
    rw [← hD] at h
    exact h
  rw [← hD]
  have HD := Lib.hid hD
  clear hD hv hb2 b0 b1
  have hbA : Past w2 (w2.alloc (.cells #[.int .i64 (n : Int), .slice A2 D c2] 32)) := (Past.refl w2).alloc _
  go_wp2_with fail
  refine (implNetOk_any (n : Int) A2 D c2 (lineL xs ts) _ (by omega) HD.out.symm (hx2.below hbA)).mono ?_
  rintro e w3 ⟨rfl, hb3⟩
  have q0 := cell_in (p := ⟨w2.heap.size, 0, none⟩) (v := .int .i64 (n : Int)) hb3 (by go_simp)
  have q1 := cell_in (p := ⟨w2.heap.size, 1, none⟩) (v := .slice A2 D c2) hb3 (by go_simp)
  have hp23 := hbA.trans hb3
  have z0 := free_in hp23 e0 z0
  have z1 := free_in hp23 e1 z1
  have e0 := cell_in hp23 e0
  have e1 := cell_in hp23 e1
  have hown := World.ownsRow.kept hown (grown_of_below hp23 none) (by cases hv : (Value.slice A2 D c2).ownBlock <;> simp)
  have hp3 := hp2.trans hp23
  have hp1s := hp1.size
  have HE : Hid (tnetB m xs ts = netB (n : Int) (lineL xs ts)) := by rw [Hid, tnet_line HT.out, HX.out]
  clear hb3 hbA hp23 hp2 hp1
  cases hO : netB (n : Int) (lineL xs ts) with
  | false =>
    have HV : Hid (tnetB m xs ts = false) := HE.out.trans hO
    clear hO
    go_wp2
    exact bodyPost_ret (v := .tuple #[.agg #[.int .i64 0, .slice none 0 0], .bool false]) (by simp [results, Try.results35, go_sem, e0, e1]) rfl (givesNB_no HV.out rfl (Below.setCell (Below.setCell hp3 (by simp) _) (by simp) _))
  | true =>
    have HV : Hid (tnetB m xs ts = true) := HE.out.trans hO
    clear hO
    go_wp2
    refine bodyPost_ret (v := .tuple #[.agg #[.int .i64 (n : Int), .slice A2 D c2], .bool true]) (by simp [results, Try.results35, go_sem, e0, e1]) rfl ?_
    refine givesNB_yes (lo := w1.heap.size) (cs := cellsOf (lineL xs ts)) HV.out HX.out.symm (by omega) D HD.out rfl ?_ (Below.setCell (Below.setCell hp3 (by simp) _) (by simp) _)
    exact own_far (own_far hown (fun e => own_ne hown (g := w.heap.size + 1) (by omega) e.symm) _) (fun e => own_ne hown (g := w.heap.size + 1) (by omega) e.symm) _

end Go.Proofs.Ytaojognjkiifmaa

namespace Go.Proofs.Ytaojognjkiifmaa
open Go.RowKit

/-- To each node what it costs to end with an arc that leads there. -/
def intoTo (xs : List ArcD) (d o : List Int) : Nat → List Int
  | 0 => o
  | k + 1 => match xs[k]? with
    | some a => if at_ d (k : Int) < at_ (intoTo xs d o k) a.t then (intoTo xs d o k).set a.t.toNat (at_ d (k : Int)) else intoTo xs d o k
    | none => intoTo xs d o k
theorem intoTo_length (xs : List ArcD) (d o : List Int) : ∀ k, (intoTo xs d o k).length = o.length
  | 0 => rfl
  | k + 1 => by
    have h := intoTo_length xs d o k
    unfold intoTo
    split
    · split
      · rw [List.length_set]; exact h
      · exact h
    · exact h
theorem intoTo_next {xs : List ArcD} {d o : List Int} {k : Nat} {a : ArcD} (ha : xs[k]? = some a) : intoTo xs d o (k + 1) = if at_ d (k : Int) < at_ (intoTo xs d o k) a.t then (intoTo xs d o k).set a.t.toNat (at_ d (k : Int)) else intoTo xs d o k := by
  rw [intoTo, ha]
def tallL (m : Nat) (xs : List ArcD) (ts : List TurnD) (s : Int) : List Int := intoTo xs (arcsL xs ts s) (start m s) xs.length
theorem tallL_length (m : Nat) (xs : List ArcD) (ts : List TurnD) (s : Int) : (tallL m xs ts s).length = m := by rw [tallL, intoTo_length, start_length]

set_option maxRecDepth 100000 in
set_option maxHeartbeats 4000000 in
theorem l4All_any (m : Nat) (A : Option Addr) (n c : Nat) (xs : List ArcD) (B : Option Addr) (l cb : Nat) (ts : List TurnD) (s : Int) (w : World) (hnx : xs.length = n) (hx : ArcsAt w A xs) (hl : l ≤ 1048576) (hlt : ts.length = l) (ht : TurnsAt w B ts) (hT : turnsB m xs ts = true) (hs : 0 ≤ s ∧ s < m) :
    Calls Try.prog 58 #[.agg #[.int .i64 (m : Int), .slice A n c], .slice B l cb, .int .i64 s] w (Gives w (tallL m xs ts s)) := by
  obtain ⟨hs0, hs1⟩ := hs
  have hn16 : n ≤ 16 := by rw [← hnx]; exact ((netB_iff _ _).1 (turnsB_all hT).1).2.1
  have hm8 : m ≤ 8 := by have := ((netB_iff _ _).1 (turnsB_all hT).1).1; omega
  have HIN := Lib.hid (arcsIn_net (turnsB_all hT).1)
  have HX := Lib.hid hnx
  have HL := Lib.hid hlt
  have HT := Lib.hid hT
  clear hnx hlt hT
  have hmk := makeInt m (by omega)
  have hb0 : Past w (w.alloc (.cells #[.int .i64 (m : Int), .slice A n c] 32)) := (Past.refl _).alloc _
  go_enter Try.func58, Try.ntmps58
  go_wp2_with fail
  refine (l4Arcs_any (m : Int) A n c xs B l cb ts s _ HX.out (hx.below hb0) hl HL.out (ht.below hb0) HT.out).mono ?_
  rintro e W ⟨v, rfl, hv, hbW⟩
  have b0 := cell_in (p := ⟨w.heap.size, 0, none⟩) (v := .int .i64 (m : Int)) hbW (by go_simp)
  have b1 := cell_in (p := ⟨w.heap.size, 1, none⟩) (v := .slice A n c) hbW (by go_simp)
  obtain ⟨F, cf, rfl, hd, _⟩ := hv.form
  rw [arcsL_length, HX.out]
  obtain ⟨E, hE⟩ : ∃ E, E = arcsL xs ts s := ⟨_, rfl⟩
  have hEl : E.length = n := by rw [hE, arcsL_length, HX.out]
  rw [← hE] at hd
  have HE := Lib.hid hE
  have hxW := (hx.below hb0).below hbW
  have hp0 : Past w W := hb0.trans hbW
  have hw0 := hp0.size
  clear hE hv hbW
  go_wp2
  go_loopw [9] (fun i wr => ∃ k : Nat, k ≤ m ∧ i = .int .i64 k ∧ Past W wr ∧ MadeI wr W.heap.size 3 m (List.replicate m farI) k) (fun i _ => m - (intOf i).toNat)
  case atStart => exact ⟨0, by omega, rfl, (Past.refl _).alloc _, MadeI.start W 3 m (List.replicate m farI) (madeCells #[.int .i64 0] m) (by simp [size_madeCells])⟩
  case round =>
    obtain ⟨k, hk, rfl, hb, hmd⟩ := hrel
    have b0' := cell_in hb b0
    by_cases hlt : k < m
    · have HF : Hid ((List.replicate m farI)[k]? = some farI) := by rw [Hid, List.getElem?_replicate, if_pos hlt]
      obtain ⟨v0, e0⟩ := hmd.1.cell (i := k) hlt
      have z0 := hmd.1.frozen k
      go_wp2
      go_roundw
      case rel => exact ⟨k + 1, by omega, by go_num, Below.setCell hb (by simp) _, hmd.next HF.out hlt⟩
      case measure => simp [intOf]; omega
    · obtain rfl : m = k := by omega
      have hrow : RowI wr W.heap.size (List.replicate m farI) := hmd.row (by simp)
      have hst := hrow.set s.toNat 0 (by simp; omega)
      have HST : Hid (RowI (wr.setCell ⟨W.heap.size, s.toNat, none⟩ (.int .i64 0)) W.heap.size (intoTo xs E (start m s) 0)) := hst
      obtain ⟨v0, e0⟩ := hmd.1.cell (i := s.toNat) (by omega)
      have z0 := hmd.1.frozen s.toNat
      have hbs : Past W (wr.setCell ⟨W.heap.size, s.toNat, none⟩ (.int .i64 0)) := Below.setCell hb (by simp) _
      clear hst hrow hmd
      go_wp2
      go_loopw [10] (fun i wq => ∃ k : Nat, k ≤ n ∧ i = .int .i64 k ∧ Past W wq ∧ RowI wq W.heap.size (intoTo xs E (start m s) k)) (fun i _ => n - (intOf i).toNat)
      case atStart => exact ⟨0, by omega, rfl, hbs, HST.out⟩
      case round =>
        obtain ⟨k, hk, rfl, hbq, hrow⟩ := hrel
        have b1q := cell_in hbq b1
        clear hbs HST
        by_cases hlt : k < n
        · obtain ⟨⟨f, t, c', l', d'⟩, ha⟩ : ∃ a, xs[k]? = some a := ⟨_, List.getElem?_eq_getElem (by have := HX.out; omega)⟩
          obtain ⟨g, o, rfl, a0, a1, a2, a3, a4⟩ := (hxW.below hbq) k _ ha
          obtain ⟨g2, o2, rfl, d0⟩ := (hd.below hbq) k _ (List.getElem?_eq_getElem (by omega))
          have hbd := HIN.out _ (List.mem_of_getElem? ha)
          simp only at hbd
          obtain ⟨D, hD⟩ : ∃ D, D = intoTo xs E (start m s) k := ⟨_, rfl⟩
          have hDl : D.length = m := by rw [hD, intoTo_length, start_length]
          have hnx := intoTo_next (d := E) (o := start m s) ha
          rw [← hD] at hrow hnx
          simp only at hnx
          have hat : at_ E (k : Int) = E[k] := by simp [at_, hEl, hlt]
          have dt := hrow.at_ (v := t) (by omega) (by omega)
          obtain ⟨p, hp⟩ : ∃ p, p = E[k] := ⟨_, rfl⟩
          obtain ⟨q, hq⟩ : ∃ q, q = at_ D t := ⟨_, rfl⟩
          rw [hat, ← hp, ← hq] at hnx
          rw [← hp] at d0
          rw [← hq] at dt
          have htl : t.toNat < D.length := by omega
          have HN := Lib.hid hnx
          have k0 : (0 : Int) ≤ (k : Int) := by omega
          have k1 : (k : Int) < (n : Int) := by omega
          have j2 : (0 : Int) ≤ t := by omega
          have j3 : t < (m : Int) := by omega
          simp only at a1
          have z1 := hrow.1.frozen t.toNat
          clear hnx hat hp hq hD ha hbd a0 a2 a3 a4
          by_cases hc : p < q
          · have g1 : decide (p < q) = true := by simpa using hc
            have HV := Lib.hid (HN.out.trans (if_pos hc))
            clear hc
            go_wp2_with fail
            go_quiet (fail)
            clear g1
            obtain ⟨W2, hW2⟩ : ∃ W2, W2 = wr.drewN nq := ⟨_, rfl⟩
            have b1q : W2.cell? ⟨w.heap.size, 1, none⟩ = some (.slice (some ⟨g, o, none⟩) n c) := by rw [hW2]; exact b1q
            have a1 : W2.cell? ⟨g, o + k * 5 + 1, none⟩ = some (.int .i64 t) := by rw [hW2]; exact a1
            have d0 : W2.cell? ⟨g2, o2 + k, none⟩ = some (.int .i64 p) := by rw [hW2]; exact d0
            have dt : W2.cell? ⟨W.heap.size, t.toNat, none⟩ = some (.int .i64 q) := by rw [hW2]; exact dt
            have z1 : W2.frozen? ⟨W.heap.size, t.toNat, none⟩ = false := by rw [hW2]; exact z1
            have hrow2 : RowI W2.drew W.heap.size D := by rw [hW2]; exact hrow
            have hb2 : Past W W2.drew := by rw [hW2]; exact (hbq.drewN nq).drew
            have HSET2 := Lib.hid (hrow2.set t.toNat p htl)
            have HB2 := Lib.hid (show Past W (W2.drew.setCell ⟨W.heap.size, t.toNat, none⟩ (.int .i64 p)) from Below.setCell hb2 (by simp) _)
            go_wp2_with fail
            rw [← hW2]
            clear hW2 hrow2 hb2 hrow
            go_still_tail 12, (by kernel_rfl)
            change wpList _ _ _ _ _ W2.drew
            go_wp2
            go_roundw
            case rel => exact ⟨k + 1, by omega, by go_num, HB2.out, by rw [HV.out]; exact HSET2.out⟩
            case measure => simp [intOf]; omega
          · have g1 : decide (p < q) = false := by simpa using hc
            have HV := Lib.hid (HN.out.trans (if_neg hc))
            clear hc
            go_wp2_with fail
            go_quiet (fail)
            clear g1
            go_wp2
            go_roundw
            case rel => exact ⟨k + 1, by omega, by go_num, hbq.drewN _, by rw [HV.out]; exact hrow.drewN _⟩
            case measure => simp [intOf]; omega
        · obtain rfl : k = n := by omega
          have hrow : RowI wr W.heap.size (tallL m xs ts s) := by rw [tallL, HX.out, ← HE.out]; exact hrow
          go_wp2
          go_ret
          exact ⟨_, rfl, hrow.res (tallL_length m xs ts s) (by omega) (by omega), hp0.trans hbq⟩

/-- A plan of turns and a node that are there. -/
def theretB (m : Int) (xs : List ArcD) (ts : List TurnD) (s : Int) : Bool := turnsB m xs ts && inB s 0 (m - 1)
def tallI (m : Int) (xs : List ArcD) (ts : List TurnD) (s : Int) : List Int := if theretB m xs ts s then tallL m.toNat xs ts s else []
theorem theretB_iff (m : Int) (xs : List ArcD) (ts : List TurnD) (s : Int) : theretB m xs ts s = true ↔ turnsB m xs ts = true ∧ 0 ≤ s ∧ s < m := by
  simp only [theretB, Bool.and_eq_true, inB_iff]
  exact ⟨fun ⟨h1, h2, h3⟩ => ⟨h1, h2, by omega⟩, fun ⟨h1, h2, h3⟩ => ⟨h1, h2, by omega⟩⟩
theorem tallI_len (m : Int) (xs : List ArcD) (ts : List TurnD) (s : Int) : (tallI m xs ts s).length ≤ 1048576 := by
  unfold tallI
  split
  · rename_i h
    rw [tallL_length]
    have := ((netB_iff _ _).1 (turnsB_all ((theretB_iff _ _ _ _).1 h).1).1).1
    omega
  · simp

set_option maxRecDepth 100000 in
set_option maxHeartbeats 2000000 in
theorem specTurnAll_any (m : Int) (A : Option Addr) (n c : Nat) (xs : List ArcD) (B : Option Addr) (l cb : Nat) (ts : List TurnD) (s : Int) (w : World) (hn : n ≤ 1048576) (hnx : xs.length = n) (hx : ArcsAt w A xs) (hl : l ≤ 1048576) (hlt : ts.length = l) (ht : TurnsAt w B ts) :
    Calls Try.prog 17 #[.agg #[.int .i64 m, .slice A n c], .slice B l cb, .int .i64 s] w (Gives w (tallI m xs ts s)) := by
  have HX := Lib.hid hnx
  have HL := Lib.hid hlt
  clear hnx hlt
  have hb0 : Past w (w.alloc (.cells #[.int .i64 m, .slice A n c] 32)) := (Past.refl _).alloc _
  go_enter Try.func17, Try.ntmps17
  go_wp2_with fail
  refine (l1Ok_any m A n c xs _ hn HX.out (hx.below hb0)).mono ?_
  rintro e w1 ⟨rfl, hb1⟩
  have b0 := cell_in (p := ⟨w.heap.size, 0, none⟩) (v := .int .i64 m) hb1 (by go_simp)
  have b1 := cell_in (p := ⟨w.heap.size, 1, none⟩) (v := .slice A n c) hb1 (by go_simp)
  have hp1 : Past w w1 := hb0.trans hb1
  clear hb0 hb1
  cases hB : netB m xs with
  | false =>
    have HF : Hid (theretB m xs ts s = false) := by rw [Hid, theretB, turnsB_list, hB]; rfl
    clear hB
    go_wp2
    go_ret
    exact ⟨_, rfl, by rw [tallI, HF.out]; exact Res.nil _ _, hp1⟩
  | true =>
  have HF : Hid (turnsB m xs ts = tlistB xs ts) := by rw [Hid, turnsB_list, hB]; rfl
  have hm8 := ((netB_iff _ _).1 hB).1
  clear hB
  go_wp2_with fail
  refine (l4Ok_any m A n c xs B l cb ts _ hn HX.out (hx.below hp1) hl HL.out (ht.below hp1)).mono ?_
  rintro e w2 ⟨rfl, hb2⟩
  have b0 := cell_in hb2 b0
  have b1 := cell_in hb2 b1
  have hp2 : Past w w2 := hp1.trans hb2
  clear hb2 hp1
  cases hC : tlistB xs ts with
  | false =>
    have HV : Hid (theretB m xs ts s = false) := by rw [Hid, theretB, HF.out, hC]; rfl
    clear hC
    go_wp2
    go_ret
    exact ⟨_, rfl, by rw [tallI, HV.out]; exact Res.nil _ _, hp2⟩
  | true =>
  have HT : Hid (turnsB m xs ts = true) := by rw [Hid, HF.out, hC]
  clear hC HF
  have s1 : IntKind.i64.wrap (m - 1) = m - 1 := IntWalk.i64_in _ (by omega)
  cases hD : inB s 0 (m - 1) with
  | false =>
    have HV : Hid (theretB m xs ts s = false) := by rw [Hid, theretB, hD, Bool.and_false]
    have cA := fun w => (in_q hD w).mono (R' := fun e w' => e = .returned (.bool _) ∧ w = w') fun _ _ e => ⟨e.1, e.2.symm⟩
    clear hD
    go_wp2_with fail
    refine (cA _).mono ?_
    rintro e w3 ⟨rfl, rfl⟩
    go_wp2
    go_ret
    exact ⟨_, rfl, by rw [tallI, HV.out]; exact Res.nil _ _, hp2⟩
  | true =>
  have HV : Hid (theretB m xs ts s = true) := by rw [Hid, theretB, HT.out, hD]; rfl
  have hs := (inB_iff _ _ _).1 hD
  have cA := fun w => (in_q hD w).mono (R' := fun e w' => e = .returned (.bool _) ∧ w = w') fun _ _ e => ⟨e.1, e.2.symm⟩
  clear hD
  obtain ⟨M, rfl⟩ : ∃ M : Nat, m = M := ⟨m.toNat, by omega⟩
  go_wp2_with fail
  refine (cA _).mono ?_
  rintro e w3 ⟨rfl, rfl⟩
  clear cA
  go_wp2_with fail
  refine (l4All_any M A n c xs B l cb ts s _ HX.out (hx.below hp2) hl HL.out (ht.below hp2) HT.out (by omega)).mono ?_
  rintro e w4 ⟨v, rfl, hv, hb4⟩
  go_wp2
  go_ret
  exact ⟨_, rfl, by rw [tallI, HV.out]; exact (show Res w4 w2.heap.size v (tallL M xs ts s) from hv).lower hp2.size, hp2.trans hb4⟩

end Go.Proofs.Ytaojognjkiifmaa

namespace Go.Proofs.Ytaojognjkiifmaa

/-- Each arc's cost at its end, if it is less. -/
def minTo (xs : List ArcD) (d o : List Int) : Nat → List Int
  | 0 => o
  | k + 1 => match xs[k]? with
    | some a => (minTo xs d o k).set a.t.toNat (min (at_ (minTo xs d o k) a.t) (at_ d (k : Int)))
    | none => minTo xs d o k
theorem minTo_length (xs : List ArcD) (d o : List Int) : ∀ k, (minTo xs d o k).length = o.length
  | 0 => rfl
  | k + 1 => by
    have h := minTo_length xs d o k
    unfold minTo
    split
    · rw [List.length_set]; exact h
    · exact h
theorem minTo_next {xs : List ArcD} {d o : List Int} {k : Nat} {a : ArcD} (ha : xs[k]? = some a) : minTo xs d o (k + 1) = (minTo xs d o k).set a.t.toNat (min (at_ (minTo xs d o k) a.t) (at_ d (k : Int))) := by
  rw [minTo, ha]
theorem set_self_at {o : List Int} {t : Int} : o.set t.toNat (at_ o t) = o := by
  unfold at_
  apply List.ext_getElem?
  intro j
  rw [List.getElem?_set]
  split
  · rename_i e
    subst e
    split
    · rename_i h
      rw [List.getElem?_eq_getElem h]
      simp [h]
    · rename_i h
      rw [List.getElem?_eq_none (by omega)]
  · rfl

theorem minTo_into {m : Nat} {xs : List ArcD} {d : List Int} {s : Int} (hx : ArcsIn m xs) (hd : InR d) (hs : 0 ≤ s ∧ s < m) : ∀ k, (minTo xs d (List.replicate m farI) k).set s.toNat 0 = intoTo xs d (start m s) k
  | 0 => rfl
  | k + 1 => by
    have ih := minTo_into hx hd hs k
    cases ha : xs[k]? with
    | none => rw [minTo, intoTo, ha]; exact ih
    | some a =>
      have hb := hx a (List.mem_of_getElem? ha)
      have hl : (minTo xs d (List.replicate m farI) k).length = m := by rw [minTo_length]; simp
      have hk := hd.at_ (k : Int)
      rw [minTo_next ha, intoTo_next ha, ← ih]
      rw [at_set _ s a.t 0 hs.1 (by omega) (by omega)]
      by_cases e : a.t = s
      · rw [if_pos e, if_neg (by omega), e, List.set_set]
      · have hne : a.t.toNat ≠ s.toNat := by omega
        rw [if_neg e]
        split
        · rename_i h
          rw [Int.min_eq_right (by omega), List.set_comm _ _ hne]
        · rename_i h
          rw [Int.min_eq_left (by omega), set_self_at]

/-- What the implementation hands back. -/
theorem tall_of_near {M : Nat} {m : Int} {xs : List ArcD} {ts : List TurnD} {s : Int} (hT : turnsB m xs ts = true) (hM : m = M) (hs : 0 ≤ s ∧ s < m) :
    (minTo xs ((nearL (xs.length + 1) (turnArcs xs ts s) (xs.length : Int)).take xs.length) (List.replicate M farI) xs.length).set s.toNat 0 = tallL M xs ts s := by
  have hN := (turnsB_all hT).1
  have hB := (turnsB_all hT).2.2.1
  subst hM
  have hx := arcsIn_net hN
  rw [arcs_near hN hB, List.take_left' (arcsL_length xs ts s), tallL]
  refine minTo_into hx ?_ hs _
  exact (startA_in s hN).rounds (fun a ha => by
    obtain ⟨i, j, h⟩ := lineTo_mem _ ha
    exact lineArc_c hN h) _

end Go.Proofs.Ytaojognjkiifmaa

namespace Go.Proofs.Ytaojognjkiifmaa
open Go.RowKit Go.Shelf Go.Maps

/-- X: the net's box, X + 1: the box of the start, X + 2 and X + 3: the iterator's. The arcs lie anywhere else from lo on. -/
structure TaIn (w W : World) (X n lo : Nat) (v : Value) (L : List ArcD) : Prop where
  o0 : W.cell? ⟨X, 0, none⟩ = some (.int .i64 ((n : Int) + 1))
  o1 : W.cell? ⟨X, 1, none⟩ = some v
  num : W.cell? ⟨X + 1, 0, none⟩ = some (.int .i64 (n : Int))
  row : RowN W X 32 2
  own : W.ownsRow lo 52 5 v L.length (cellsOf L)
  off : ∀ b, v.ownBlock = some b → b < X ∨ X + 4 ≤ b
  base : X + 4 ≤ W.heap.size
  past : Past w W

theorem TaIn.turn {w W W' : World} {X n lo : Nat} {v : Value} {L : List ArcD} {row : Option Nat} (h : TaIn w W X n lo v L) (hwX : w.heap.size ≤ X) (hg : W.grownBy W' row) (hr : ∀ r, row = some r → X + 4 ≤ r ∧ ∃ o : Obj, W.heap[r]? = some o ∧ o.isCells = false) : TaIn w W' X n lo v L := by
  have no : ∀ x cs t f, W.heap[x]? = some (.cells cs t f) → some x ≠ row := fun x cs t f hx e => by
    obtain ⟨_, o, ho, hc⟩ := hr x e.symm
    rw [hx] at ho
    injection ho with ho
    rw [← ho] at hc
    cases hc
  refine ⟨cell_kept h.o0 hg (fun r e => (hr r e).2), cell_kept h.o1 hg (fun r e => (hr r e).2), cell_kept h.num hg (fun r e => (hr r e).2), ?_, ?_, h.off, Nat.le_trans h.base hg.size, Below.grown h.past hg h.past.size (fun r e => by have := (hr r e).1; omega)⟩
  · obtain ⟨cs, hcs, hl⟩ := h.row
    exact h.row.keep (hg.block _ h.row.lt (no _ _ _ _ hcs))
  · refine World.ownsRow.kept h.own hg ?_
    cases hv : v.ownBlock with
    | none => simp
    | some b =>
      obtain ⟨cs, hcs⟩ := cells_of_own h.own hv
      exact .inr (no _ _ _ _ hcs)

/-- One arc more. -/
theorem TaIn.fill {w W : World} {X n lo : Nat} {v : Value} {L : List ArcD} (h : TaIn w W X n lo v L) (a : ArcD) (hlo : w.heap.size ≤ lo) (hloX : lo ≤ X) (hL : L.length ≤ 1000) :
    ∃ v1 w9, (Builtin.append_ #[30, 30] 30 #[v, .slice (some ⟨W.heap.size, 0, none⟩) 1 1]).run Try.prog (W.drew.alloc (.cells #[.int .i64 a.f, .int .i64 a.t, .int .i64 a.c, .int .i64 a.l, .int .i64 a.d] 52)) = .ok v1 w9 ∧
      (∃ A2 k c2, v1 = .slice A2 k c2) ∧ (∀ p u, p.block < lo ∨ (X ≤ p.block ∧ p.block < X + 4) → W.cell? p = some u → w9.cell? p = some u) ∧
      (∃ u, w9.cell? ⟨X, 1, none⟩ = some u) ∧ w9.frozen? ⟨X, 1, none⟩ = false ∧ TaIn w (w9.setCell ⟨X, 1, none⟩ v1) X n lo v1 (L ++ [a]) ∧
      KeepsFrom (X + 4) W (w9.setCell ⟨X, 1, none⟩ v1) ∧ (∀ k, k < lo ∨ (X + 1 ≤ k ∧ k < X + 4) → (w9.setCell ⟨X, 1, none⟩ v1).heap[k]? = W.heap[k]?) ∧ Below w.heap.size W (w9.setCell ⟨X, 1, none⟩ v1) := by
  obtain ⟨i0, hi, hz0, hz1, hz2⟩ := info_parts infoArc
  have hown := h.own
  have hsz := h.base
  have hownA : (W.drew.alloc (.cells #[.int .i64 a.f, .int .i64 a.t, .int .i64 a.c, .int .i64 a.l, .int .i64 a.d] 52)).ownsRow lo 52 5 v L.length (cellsOf L) := World.ownsRow.alloc (w := W.drew) hown _
  obtain ⟨v1, w9, hr, h2, h3, _, h5⟩ := run_append_own_at (P := Try.prog) (W.drew.alloc (.cells #[.int .i64 a.f, .int .i64 a.t, .int .i64 a.c, .int .i64 a.l, .int .i64 a.d] 52)) lo 30 30 52 i0 _ 5 40 Try.underlying30 hi hz0 hz1 hz2 rfl (by omega) v L.length (cellsOf L) hownA ⟨W.heap.size, 0, none⟩ 1 1 [.int .i64 a.f, .int .i64 a.t, .int .i64 a.c, .int .i64 a.l, .int .i64 a.d] rfl (five_news W.drew _ _ _ _ _ _) (cellsOf_one [a]) (by unfold maxLen; omega) (by omega) (by simp; omega)
  have hs1 : (W.drew.alloc (.cells #[.int .i64 a.f, .int .i64 a.t, .int .i64 a.c, .int .i64 a.l, .int .i64 a.d] 52)).heap.size = W.heap.size + 1 := by simp
  have off : ∀ k, k < lo ∨ (X ≤ k ∧ k < X + 4) → some k ≠ v.ownBlock := fun k hk e => by
    rcases hk with hk | hk
    · exact own_ne hown (g := k) (by omega) e
    · have := h.off k e.symm; omega
  have old : ∀ k, k < W.heap.size → (W.drew.alloc (.cells #[.int .i64 a.f, .int .i64 a.t, .int .i64 a.c, .int .i64 a.l, .int .i64 a.d] 52)).heap[k]? = W.heap[k]? := fun k hk => Below.heap_alloc W.drew _ k hk
  have far : ∀ p u, p.block < lo ∨ (X ≤ p.block ∧ p.block < X + 4) → W.cell? p = some u → w9.cell? p = some u := fun p u hp hc => h3.cell (cell_in (((Past.refl W).drew).alloc _) hc) (off _ hp)
  have h9 : ∀ k, k < W.heap.size → some k ≠ v.ownBlock → k ≠ X → (w9.setCell ⟨X, 1, none⟩ v1).heap[k]? = W.heap[k]? := fun k hk hne hx => (Below.heap_setCell _ _ _ _ hx).trans ((h3.block k (by omega) hne).trans (old k hk))
  have hsz9 : W.heap.size ≤ (w9.setCell ⟨X, 1, none⟩ v1).heap.size := by have := h3.size; rw [hs1] at this; simp; omega
  have r9 : RowN w9 X 32 2 := h.row.keep ((h3.block X (by omega) (off X (.inr (by omega)))).trans (old X (by omega)))
  have x9 := far ⟨X, 1, none⟩ v (.inr (by simp)) h.o1
  have off1 : ∀ b, v1.ownBlock = some b → b < X ∨ X + 4 ≤ b := fun b e => by
    rcases h5 with e5 | e5
    · exact h.off b (e5.symm.trans e)
    · rw [e5] at e
      injection e with e
      omega
  have hbel : Below w.heap.size W (w9.setCell ⟨X, 1, none⟩ v1) := Below.setCell (Below.grown (Below.alloc (Below.drew (Below.refl w.heap.size W)) (by simp; omega) _) h3 (by rw [hs1]; omega) (fun b e => by have := (hown.lt b e).1; omega)) (by simp; omega) _
  refine ⟨v1, w9, hr, ?_, far, ⟨_, x9⟩, r9.frozen 1, ⟨?_, World.cell?_setCell_same _ _ _ x9, ?_, r9.set _ _, ?_, off1, by omega, h.past.belowTrans hbel⟩, ⟨hsz9, fun k o hk ho hc => ?_⟩, fun k hk => h9 k (by omega) (off k (by omega)) (by omega), hbel⟩
  · obtain ⟨g, c, e, _⟩ := World.ownsRow.form h2 (by omega)
    exact ⟨_, _, _, e⟩
  · exact (World.cell?_setCell_other _ _ _ _ (by simp)).trans (far _ _ (.inr (by simp)) h.o0)
  · exact (World.cell?_setCell_other _ _ _ _ (by intro e; injection e; omega)).trans (far _ _ (.inr (by simp)) h.num)
  · rw [List.length_append, cellsOf_append]
    exact own_far h2 (fun e => by have := off1 X e; omega) _
  · refine (h9 k (Array.getElem?_eq_some_iff.1 ho).1 (fun e => ?_) (by omega)).trans ho
    obtain ⟨cs, hcs⟩ := cells_of_own hown e.symm
    rw [hcs] at ho
    injection ho with ho
    rw [← ho] at hc
    cases hc

end Go.Proofs.Ytaojognjkiifmaa

namespace Go.Proofs.Ytaojognjkiifmaa

theorem turnsB_nil (m : Int) (xs : List ArcD) : turnsB m xs [] = netB m xs := by simp [turnsB, freeB]
theorem turnSum_nil (ys : List Int) : ∀ k, turnSum [] ys k = 0
  | 0 => rfl
  | k + 1 => by rw [turnSum, turnSum_nil ys k]; simp [costF]
theorem turnBad_nil (ys : List Int) : ∀ k, turnBad [] ys k = false
  | 0 => rfl
  | k + 1 => by rw [turnBad, turnBad_nil ys k]; simp [costF]
theorem twalkI_nil (m : Int) (xs : List ArcD) (ys : List Int) : twalkI m xs [] ys = costI m xs ys := by
  cases ho : okB m xs ys with
  | true =>
    have hn : turnsB m xs [] = true := by rw [turnsB_nil]; exact ((okB_iff _ _ _).1 ho).1
    rw [twalkI_ok hn ho, turnBad_nil, turnSum_nil, costI, ho]
    simp
  | false => rw [twalkI_walk ho, costI, ho]; simp
theorem costLT_bd {xs : List ArcD} {ts : List TurnD} (h : ts.all (turnB xs) = true) (a b : Int) : ∀ k, -1 ≤ costLT ts a b k ∧ costLT ts a b k ≤ 99
  | 0 => by simp [costLT]
  | k + 1 => by
    have ih := costLT_bd h a b k
    cases ht : ts[k]? with
    | none => rw [costLT, ht]; exact ih
    | some t =>
      cases hs : sameT a b t with
      | true =>
        rw [costLT_hit ht hs]
        have := List.all_eq_true.1 h t (List.mem_of_getElem? ht)
        simp only [turnB, Bool.and_eq_true, inB_iff] at this
        omega
      | false => rw [costLT_miss ht hs]; exact ih
theorem costLT_first {ts : List TurnD} {a b : Int} {k : Nat} {t : TurnD} (h : ts[k]? = some t) (hf : freeB ts ts.length = true) (e : sameT a b t = true) : costLT ts a b k = 0 := by
  have hk : k < ts.length := (List.getElem?_eq_some_iff.1 h).1
  have h1 := freeB_mono ts _ (k + 1) hk hf
  have h2 := freeB_mono ts _ k (by omega) hf
  rw [freeB_next h, Bool.and_eq_true, Bool.not_eq_true'] at h1
  obtain ⟨rfl, rfl⟩ := sameT_iff.1 e
  rw [costLT_free ts _ _ k (by omega) h2, costF_none h1.2]
theorem okB_long {m : Int} {xs : List ArcD} {ys : List Int} (h : okB m xs ys = true) : costI m xs ys = sumTo xs ys ys.length := by rw [costI, if_pos h]

end Go.Proofs.Ytaojognjkiifmaa

namespace Go.Proofs.Ytaojognjkiifmaa

/-- Numbers are nodes of a net that is ok, and not too many. -/
def listB (m : Int) (xs : List ArcD) (ys : List Int) : Bool := netB m xs && (decide (ys.length ≤ 8) && ys.all (fun z => inB z 0 (m - 1)))

theorem listB_iff (m : Int) (xs : List ArcD) (ys : List Int) : listB m xs ys = true ↔ netB m xs = true ∧ ys.length ≤ 8 ∧ ∀ y ∈ ys, 0 ≤ y ∧ y < m := by
  simp only [listB, Bool.and_eq_true, decide_eq_true_eq, List.all_eq_true, inB_iff]
  constructor
  · rintro ⟨h1, h2, h3⟩
    exact ⟨h1, h2, fun y hy => by have := h3 y hy; omega⟩
  · rintro ⟨h1, h2, h3⟩
    exact ⟨h1, h2, fun y hy => by have := h3 y hy; omega⟩

/-- Which of the first k numbers is least, and how much that is: -1 and Far, if none is less than Far. -/
def least (cs : List Int) : Nat → Int × Int
  | 0 => (-1, 99999)
  | k + 1 => if at_ cs (k : Int) < (least cs k).2 then ((k : Int), at_ cs (k : Int)) else least cs k

theorem least_bd (cs : List Int) : ∀ k : Nat, -1 ≤ (least cs k).1 ∧ (least cs k).1 < k ∧ (least cs k).2 ≤ 99999
  | 0 => by simp [least]
  | k + 1 => by
    have ih := least_bd cs k
    unfold least
    split
    · simp only; omega
    · omega

theorem least_le (cs : List Int) : ∀ k i : Nat, i < k → (least cs k).2 ≤ at_ cs (i : Int)
  | 0, i, h => by omega
  | k + 1, i, h => by
    have ih := least_le cs k
    unfold least
    by_cases e : i = k
    · subst e
      split
      · exact Int.le_refl _
      · omega
    · have := ih i (by omega)
      split
      · simp only; omega
      · exact this

theorem least_first (cs : List Int) : ∀ k i : Nat, i < k → (i : Int) < (least cs k).1 → (least cs k).2 < at_ cs (i : Int)
  | 0, i, h => by omega
  | k + 1, i, h => by
    have ih := least_first cs k
    have hle := least_le cs k
    have hbd := least_bd cs k
    unfold least
    split
    · intro h2
      simp only at h2 ⊢
      have := hle i (by omega)
      omega
    · intro h2
      exact ih i (by omega) h2

theorem least_at (cs : List Int) : ∀ k : Nat, ((least cs k).1 = -1 ∧ (least cs k).2 = 99999) ∨ ∃ j : Nat, j < k ∧ (least cs k).1 = j ∧ at_ cs (j : Int) = (least cs k).2
  | 0 => by simp [least]
  | k + 1 => by
    have ih := least_at cs k
    unfold least
    split
    · exact .inr ⟨k, by omega, rfl, rfl⟩
    · rcases ih with h | ⟨j, h1, h2⟩
      · exact .inl h
      · exact .inr ⟨j, by omega, h2⟩

theorem least_next_lt {cs : List Int} {k : Nat} {z : Int} (hz : at_ cs (k : Int) = z) (h : z < (least cs k).2) : least cs (k + 1) = ((k : Int), z) := by
  subst hz
  simp only [least, if_pos h]
theorem least_next_ge {cs : List Int} {k : Nat} {z : Int} (hz : at_ cs (k : Int) = z) (h : ¬ z < (least cs k).2) : least cs (k + 1) = least cs k := by
  subst hz
  simp only [least, if_neg h]

/-- What it costs from a node to each of a list. -/
def costsL (m : Int) (xs : List ArcD) (s : Int) (ys : List Int) : List Int := ys.map (at_ (nearL m.toNat xs s))

theorem at_map {f : Int → Int} {ys : List Int} {k : Nat} {y : Int} (h : ys[k]? = some y) : at_ (ys.map f) (k : Int) = f y := by
  simp [at_, h]

/-- Which of a list of nodes is nearest, and what that costs. -/
def manyW (m : Int) (xs : List ArcD) (s : Int) (ys : List Int) : Int := if listB m xs ys && inB s 0 (m - 1) then (least (costsL m xs s ys) ys.length).1 else -1
def manyC (m : Int) (xs : List ArcD) (s : Int) (ys : List Int) : Int := if listB m xs ys && inB s 0 (m - 1) then (least (costsL m xs s ys) ys.length).2 else -1

end Go.Proofs.Ytaojognjkiifmaa

namespace Go.Proofs.Ytaojognjkiifmaa

theorem getElem_at (d : List Int) (i : Nat) (h : i < d.length) : d[i]? = some (at_ d (i : Int)) := by simp [at_, h]
theorem Way.join {xs : List ArcD} {s u v c c' : Int} {l l' : List Int} (h : Way xs s u c l) (k : Way xs u v c' l') : ∃ l'', Way xs s v (c + c') l'' := by
  induction k with
  | nil => exact ⟨l, by rw [Int.add_zero]; exact h⟩
  | @snoc x c' l' a _ ha e ih =>
    obtain ⟨l'', h2⟩ := ih
    exact ⟨_, by have := Way.snoc h2 ha e; rw [Int.add_assoc] at this; exact this⟩
theorem near_over {m : Nat} {xs : List ArcD} {s u v : Int} (hm : m ≤ 17) (hx : ArcsIn m xs) (hs : 0 ≤ s ∧ s < m) (hu : 0 ≤ u ∧ u < m) (hv : 0 ≤ v ∧ v < m)
    (h1 : at_ (nearL m xs s) u < farI) (h2 : at_ (nearL m xs u) v < farI) : at_ (nearL m xs s) v ≤ at_ (nearL m xs s) u + at_ (nearL m xs u) v := by
  obtain ⟨l1, w1⟩ := ((nearL_sound hx hs).2 u hu.1 hu.2).2.resolve_left (by omega)
  obtain ⟨l2, w2⟩ := ((nearL_sound hx hu).2 v hv.1 hv.2).2.resolve_left (by omega)
  obtain ⟨l3, w3⟩ := w1.join w2
  exact nearL_le hm hx hs w3
theorem nearL_bound {m : Nat} {xs : List ArcD} {s v : Int} (hx : ArcsIn m xs) (hs : 0 ≤ s ∧ s < m) (hv : 0 ≤ v ∧ v < m) : 0 ≤ at_ (nearL m xs s) v ∧ at_ (nearL m xs s) v ≤ farI := by
  obtain ⟨h1, h2⟩ := (nearL_sound hx hs).2 v hv.1 hv.2
  refine ⟨?_, h1⟩
  rcases h2 with e | ⟨l, h⟩
  · rw [e]; unfold farI; omega
  · exact (h.cost hx).1
/-- What is reached has an arc that leads there, or is where one begins. -/
theorem nearL_last {m : Nat} {xs : List ArcD} {s v : Int} (hm : m ≤ 17) (hx : ArcsIn m xs) (hs : 0 ≤ s ∧ s < m) (hv : 0 ≤ v ∧ v < m) (h : at_ (nearL m xs s) v < farI) : v = s ∨ ∃ a ∈ xs, a.t = v ∧ at_ (nearL m xs s) a.f < farI ∧ at_ (nearL m xs s) v = at_ (nearL m xs s) a.f + a.c := by
  obtain ⟨l, w⟩ := ((nearL_sound hx hs).2 v hv.1 hv.2).2.resolve_left (by omega)
  generalize hc : at_ (nearL m xs s) v = c at w
  cases w with
  | nil => exact .inl rfl
  | @snoc u c l a w ha e =>
    right
    subst e
    have hb := hx a ha
    have h1 := nearL_le hm hx hs w
    have hlt : at_ (nearL m xs s) a.f < farI := by omega
    obtain ⟨l2, w2⟩ := ((nearL_sound hx hs).2 a.f (by omega) (by omega)).2.resolve_left (by omega)
    have h3 := nearL_le hm hx hs (.snoc w2 ha rfl)
    exact ⟨a, ha, rfl, hlt, by omega⟩
/-- No arc makes anything nearer. -/
theorem nearL_arc {m : Nat} {xs : List ArcD} {s : Int} (hm : m ≤ 17) (hx : ArcsIn m xs) (hs : 0 ≤ s ∧ s < m) {a : ArcD} (ha : a ∈ xs) (h : at_ (nearL m xs s) a.f < farI) : at_ (nearL m xs s) a.t ≤ at_ (nearL m xs s) a.f + a.c := by
  have hb := hx a ha
  obtain ⟨l, w⟩ := ((nearL_sound hx hs).2 a.f (by omega) (by omega)).2.resolve_left (by omega)
  exact nearL_le hm hx hs (.snoc w ha rfl)
theorem nearL_start {m : Nat} {xs : List ArcD} {s : Int} (hm : m ≤ 17) (hx : ArcsIn m xs) (hs : 0 ≤ s ∧ s < m) : at_ (nearL m xs s) s = 0 := by
  have h1 := nearL_le hm hx hs (.nil : Way xs s s 0 [])
  have h2 := (nearL_bound hx hs hs).1
  omega

end Go.Proofs.Ytaojognjkiifmaa

namespace Go.Proofs.Ytaojognjkiifmaa

theorem Way.one {xs : List ArcD} {a : ArcD} (ha : a ∈ xs) : Way xs a.f a.t a.c [a.f] := by
  have := Way.snoc (.nil : Way xs a.f a.f 0 []) ha rfl
  rw [Int.zero_add] at this
  exact this
theorem Way.back {xs : List ArcD} {s v c : Int} {l : List Int} (h : Way xs s v c l) : ∃ l', Way (xs.map flip) v s c l' := by
  induction h with
  | nil => exact ⟨_, .nil⟩
  | @snoc u c l a _ ha e ih =>
    obtain ⟨l', h'⟩ := ih
    subst e
    have h1 : Way (xs.map flip) a.t a.f a.c [a.t] := Way.one (a := flip a) (List.mem_map.2 ⟨a, ha, rfl⟩)
    obtain ⟨l2, h2⟩ := h1.join h'
    exact ⟨l2, by rw [Int.add_comm]; exact h2⟩
theorem flips_id (xs : List ArcD) : (xs.map flip).map flip = xs := by rw [List.map_map]; exact (List.map_congr_left fun _ _ => rfl).trans (List.map_id _)
theorem arcsIn_back {m : Int} {xs : List ArcD} (h : ArcsIn m xs) : ArcsIn m (xs.map flip) := fun a ha => by
  obtain ⟨b, hb, rfl⟩ := List.mem_map.1 ha
  have := h b hb
  simp only [flip]
  omega
theorem near_back {m : Nat} {xs : List ArcD} {s v : Int} (hm : m ≤ 17) (hx : ArcsIn m xs) (hs : 0 ≤ s ∧ s < m) (hv : 0 ≤ v ∧ v < m) : at_ (nearL m xs s) v = at_ (nearL m (xs.map flip) v) s := by
  have hy := arcsIn_back hx
  obtain ⟨a1, a2⟩ := (nearL_sound hx hs).2 v hv.1 hv.2
  obtain ⟨b1, b2⟩ := (nearL_sound hy hv).2 s hs.1 hs.2
  rcases a2 with a2 | ⟨l, a2⟩
  · rcases b2 with b2 | ⟨l', b2⟩
    · omega
    · obtain ⟨l2, h2⟩ := b2.back
      rw [flips_id] at h2
      have := nearL_le hm hx hs h2
      omega
  · obtain ⟨l2, h2⟩ := a2.back
    have h3 := nearL_le hm hy hv h2
    rcases b2 with b2 | ⟨l', b2⟩
    · omega
    · obtain ⟨l4, h4⟩ := b2.back
      rw [flips_id] at h4
      have := nearL_le hm hx hs h4
      omega

end Go.Proofs.Ytaojognjkiifmaa

namespace Go.Proofs.Ytaojognjkiifmaa
open Go.RowKit

/-- What can be reached costs little. -/
theorem nearL_small {m : Nat} {xs : List ArcD} {s v : Int} (hm : m ≤ 17) (hx : ArcsIn m xs) (hs : 0 ≤ s ∧ s < m) (hv : 0 ≤ v ∧ v < m) (h : at_ (nearL m xs s) v ≠ 99999) : at_ (nearL m xs s) v ≤ 11200 := by
  obtain ⟨_, h2⟩ := (nearL_sound hx hs).2 v hv.1 hv.2
  rcases h2 with h2 | ⟨l, h2⟩
  · exact absurd h2 h
  · obtain ⟨c2, l2, h1, _, _, h4⟩ := h2.simple hx
    have hf := h1.few hx hs h4
    have hc := h1.cost hx
    have := nearL_le hm hx hs h1
    omega

theorem near_tri {m : Nat} {xs : List ArcD} {s u v : Int} (hm : m ≤ 17) (hx : ArcsIn m xs) (hs : 0 ≤ s ∧ s < m) (hu : 0 ≤ u ∧ u < m) (hv : 0 ≤ v ∧ v < m) : at_ (nearL m xs s) v ≤ at_ (nearL m xs s) u + at_ (nearL m xs u) v := by
  have b1 := nearL_bound hx hs hu
  have b2 := nearL_bound hx hu hv
  have b3 := nearL_bound hx hs hv
  by_cases h1 : at_ (nearL m xs s) u < farI
  · by_cases h2 : at_ (nearL m xs u) v < farI
    · exact near_over hm hx hs hu hv h1 h2
    · omega
  · omega

/-- How much more one distance is than another one. -/
def surI (a b : Int) : Int := if b = 99999 then 0 else if 49999 < a - b then 99999 else a - b
/-- What is known of one mark: d from it, b to it. -/
def lessM (d b : List Int) (f t : Int) : Int :=
  let p := if at_ d f < 99999 ∧ 0 < at_ d t - at_ d f then at_ d t - at_ d f else 0
  let q := if at_ b t < 99999 ∧ p < at_ b f - at_ b t then at_ b f - at_ b t else p
  if 49999 < q then 99999 else q
theorem sur_less {d b : List Int} {f t z : Int} (h1 : 0 ≤ at_ d f ∧ at_ d f ≤ 99999) (h2 : 0 ≤ at_ d t ∧ at_ d t ≤ 99999) (h3 : 0 ≤ at_ b f ∧ at_ b f ≤ 99999) (h4 : 0 ≤ at_ b t ∧ at_ b t ≤ 99999) (hz : 0 ≤ z) :
    max (max z (surI (at_ d t) (at_ d f))) (surI (at_ b f) (at_ b t)) = max z (lessM d b f t) := by
  unfold surI lessM
  simp only
  split <;> split <;> (repeat' split) <;> omega
theorem lessM_bound {d b : List Int} {f t : Int} (_h1 : 0 ≤ at_ d f ∧ at_ d f ≤ 99999) (_h2 : 0 ≤ at_ d t ∧ at_ d t ≤ 99999) (_h3 : 0 ≤ at_ b f ∧ at_ b f ≤ 99999) (_h4 : 0 ≤ at_ b t ∧ at_ b t ≤ 99999) :
    0 ≤ lessM d b f t ∧ lessM d b f t ≤ 99999 := by
  unfold lessM
  simp only
  repeat' split
  all_goals omega

/-- What is known of the first k marks. -/
def boundTo (M : Nat) (xs : List ArcD) (ks : List Int) (f t : Int) : Nat → Int
  | 0 => 0
  | k + 1 => max (boundTo M xs ks f t k) (lessM (nearL M xs (at_ ks (k : Int))) (nearL M (xs.map flip) (at_ ks (k : Int))) f t)
def boundI (m : Int) (xs : List ArcD) (ks : List Int) (f t : Int) : Int := if listB m xs ks && (inB f 0 (m - 1) && inB t 0 (m - 1)) then boundTo m.toNat xs ks f t ks.length else -1

theorem at_mem {ks : List Int} {k : Nat} (h : k < ks.length) : at_ ks (k : Int) ∈ ks := by
  have : at_ ks (k : Int) = ks[k] := by simp [at_, h]
  rw [this]
  exact List.getElem_mem h

section
variable {M : Nat} {xs : List ArcD} {ks : List Int} {f t : Int}
theorem four (hx : ArcsIn M xs) (hf : 0 ≤ f ∧ f < M) (ht : 0 ≤ t ∧ t < M) {s : Int} (hs : 0 ≤ s ∧ s < M) :
    (0 ≤ at_ (nearL M xs s) f ∧ at_ (nearL M xs s) f ≤ 99999) ∧ (0 ≤ at_ (nearL M xs s) t ∧ at_ (nearL M xs s) t ≤ 99999) ∧ (0 ≤ at_ (nearL M (xs.map flip) s) f ∧ at_ (nearL M (xs.map flip) s) f ≤ 99999) ∧ (0 ≤ at_ (nearL M (xs.map flip) s) t ∧ at_ (nearL M (xs.map flip) s) t ≤ 99999) :=
  ⟨nearL_bound hx hs hf, nearL_bound hx hs ht, nearL_bound (arcsIn_back hx) hs hf, nearL_bound (arcsIn_back hx) hs ht⟩
theorem boundTo_bound (hx : ArcsIn M xs) (hk : ∀ y ∈ ks, 0 ≤ y ∧ y < M) (hf : 0 ≤ f ∧ f < M) (ht : 0 ≤ t ∧ t < M) : ∀ k, k ≤ ks.length → 0 ≤ boundTo M xs ks f t k ∧ boundTo M xs ks f t k ≤ 99999
  | 0, _ => by unfold boundTo; omega
  | k + 1, h => by
    have ih := boundTo_bound hx hk hf ht k (by omega)
    obtain ⟨h1, h2, h3, h4⟩ := four hx hf ht (hk _ (at_mem (ks := ks) (k := k) (by omega)))
    have := lessM_bound h1 h2 h3 h4
    unfold boundTo
    omega
/-- One mark says no more than what it costs. -/
theorem lessM_le (hM : M ≤ 17) (hx : ArcsIn M xs) (hf : 0 ≤ f ∧ f < M) (ht : 0 ≤ t ∧ t < M) {s : Int} (hs : 0 ≤ s ∧ s < M) :
    lessM (nearL M xs s) (nearL M (xs.map flip) s) f t ≤ at_ (nearL M xs f) t := by
  obtain ⟨h1, h2, h3, h4⟩ := four hx hf ht hs
  have c1 := near_tri hM hx hs hf ht
  have c2 := near_tri hM hx hf ht hs
  have e1 := near_back hM hx hf hs
  have e2 := near_back hM hx ht hs
  have b0 := nearL_bound hx hf ht
  have s1 := fun h => nearL_small hM hx hs hf h
  have s2 := fun h => nearL_small hM (arcsIn_back hx) hs ht h
  have s3 := fun h => nearL_small hM hx hf ht h
  unfold lessM
  simp only
  unfold farI at *
  rw [e1, e2] at c2
  repeat' split
  all_goals omega
theorem boundTo_le (hM : M ≤ 17) (hx : ArcsIn M xs) (hk : ∀ y ∈ ks, 0 ≤ y ∧ y < M) (hf : 0 ≤ f ∧ f < M) (ht : 0 ≤ t ∧ t < M) : ∀ k, k ≤ ks.length → boundTo M xs ks f t k ≤ at_ (nearL M xs f) t
  | 0, _ => by
    have := nearL_bound hx hf ht
    unfold boundTo
    omega
  | k + 1, h => by
    have ih := boundTo_le hM hx hk hf ht k (by omega)
    have := lessM_le hM hx hf ht (hk _ (at_mem (ks := ks) (k := k) (by omega)))
    unfold boundTo
    omega
/-- The first node as a mark says what it costs. -/
theorem lessM_self (hM : M ≤ 17) (hx : ArcsIn M xs) (hf : 0 ≤ f ∧ f < M) (ht : 0 ≤ t ∧ t < M) :
    lessM (nearL M xs f) (nearL M (xs.map flip) f) f t = at_ (nearL M xs f) t := by
  have hle := lessM_le hM hx hf ht hf
  obtain ⟨h1, h2, h3, h4⟩ := four hx hf ht hf
  have e0 := nearL_start hM hx hf
  have e1 := nearL_start hM (arcsIn_back hx) hf
  have s3 := fun h => nearL_small hM hx hf ht h
  unfold lessM at hle ⊢
  simp only at hle ⊢
  rw [e0, e1] at hle ⊢
  repeat' split at hle
  all_goals (repeat' split) <;> omega
theorem boundTo_app (js : List Int) : ∀ k, k ≤ ks.length → boundTo M xs (ks ++ js) f t k = boundTo M xs ks f t k
  | 0, _ => rfl
  | k + 1, h => by
    have ih := boundTo_app js k (by omega)
    have e : at_ (ks ++ js) (k : Int) = at_ ks (k : Int) := by simp [at_, List.getD_eq_getElem?_getD, List.getElem?_append_left (show k < ks.length by omega)]
    rw [boundTo, boundTo, ih, e]
theorem boundTo_with (hM : M ≤ 17) (hx : ArcsIn M xs) (hk : ∀ y ∈ ks, 0 ≤ y ∧ y < M) (hf : 0 ≤ f ∧ f < M) (ht : 0 ≤ t ∧ t < M) : boundTo M xs (ks ++ [f]) f t (ks.length + 1) = at_ (nearL M xs f) t := by
  have hle := boundTo_le hM hx hk hf ht ks.length (Nat.le_refl _)
  have e : at_ (ks ++ [f]) ((ks.length : Nat) : Int) = f := by simp [at_]
  rw [boundTo, boundTo_app _ _ (Nat.le_refl _), e, lessM_self hM hx hf ht]
  omega
/-- Over an arc. -/
theorem lessM_arc (hM : M ≤ 17) (hx : ArcsIn M xs) (ht : 0 ≤ t ∧ t < M) {s : Int} (hs : 0 ≤ s ∧ s < M) {a : ArcD} (ha : a ∈ xs) (hfar : lessM (nearL M xs s) (nearL M (xs.map flip) s) a.t t < 99999) :
    lessM (nearL M xs s) (nearL M (xs.map flip) s) a.f t ≤ a.c + lessM (nearL M xs s) (nearL M (xs.map flip) s) a.t t := by
  have hb := hx a ha
  have hf : 0 ≤ a.f ∧ a.f < M := ⟨hb.1, hb.2.1⟩
  have hg : 0 ≤ a.t ∧ a.t < M := ⟨hb.2.2.1, hb.2.2.2.1⟩
  obtain ⟨h1, h2, h3, h4⟩ := four hx hf ht hs
  obtain ⟨g1, _, g3, _⟩ := four hx hg ht hs
  have c1 : at_ (nearL M xs s) a.f < 99999 → at_ (nearL M xs s) a.t ≤ at_ (nearL M xs s) a.f + a.c := fun h => nearL_arc hM hx hs ha h
  have c2 : at_ (nearL M (xs.map flip) s) a.t < 99999 → at_ (nearL M (xs.map flip) s) a.f ≤ at_ (nearL M (xs.map flip) s) a.t + a.c := fun h => nearL_arc hM (arcsIn_back hx) hs (a := flip a) (List.mem_map_of_mem ha) h
  have s1 := fun h => nearL_small hM hx hs hf h
  have s2 := fun h => nearL_small hM hx hs hg h
  have s3 := fun h => nearL_small hM hx hs ht h
  have r1 := fun h => nearL_small hM (arcsIn_back hx) hs hf h
  have r2 := fun h => nearL_small hM (arcsIn_back hx) hs hg h
  have r3 := fun h => nearL_small hM (arcsIn_back hx) hs ht h
  unfold lessM at hfar ⊢
  simp only at hfar ⊢
  repeat' split at hfar
  all_goals (repeat' split) <;> omega
theorem boundTo_arc (hM : M ≤ 17) (hx : ArcsIn M xs) (hk : ∀ y ∈ ks, 0 ≤ y ∧ y < M) (ht : 0 ≤ t ∧ t < M) {a : ArcD} (ha : a ∈ xs) : ∀ k, k ≤ ks.length → boundTo M xs ks a.t t k < 99999 → boundTo M xs ks a.f t k ≤ a.c + boundTo M xs ks a.t t k
  | 0, _, _ => by
    have := hx a ha
    unfold boundTo
    omega
  | k + 1, h, hb => by
    have hs := hk _ (at_mem (ks := ks) (k := k) (by omega))
    unfold boundTo at hb ⊢
    have ih := boundTo_arc hM hx hk ht ha k (by omega) (by omega)
    have := lessM_arc hM hx ht hs ha (by omega)
    omega
theorem boundTo_self (hx : ArcsIn M xs) : ∀ k, boundTo M xs ks t t k = 0
  | 0 => rfl
  | k + 1 => by
    rw [boundTo, boundTo_self hx k]
    unfold lessM
    simp only [Int.sub_self]
    simp
end

end Go.Proofs.Ytaojognjkiifmaa

namespace Go.Proofs.Ytaojognjkiifmaa

/-- A walk with its turns, from s: the number of the last arc, and what it has cost. -/
inductive TW (xs : List ArcD) (ts : List TurnD) (s : Int) : Nat → Int → Prop
  | one {j : Nat} {b : ArcD} : xs[j]? = some b → b.f = s → TW xs ts s j b.c
  | more {i k : Nat} {a b : ArcD} {c : Int} : TW xs ts s i c → xs[i]? = some a → xs[k]? = some b → a.t = b.f → 0 ≤ costF ts i k → TW xs ts s k (c + (costF ts i k + b.c))

section
variable {m : Int} {xs : List ArcD} {ts : List TurnD} {s : Int}
theorem TW.has {j : Nat} {c : Int} (h : TW xs ts s j c) : ∃ b, xs[j]? = some b := by
  cases h with
  | one h _ => exact ⟨_, h⟩
  | more _ _ h _ _ => exact ⟨_, h⟩
theorem rowL_has {i j : Nat} {a : ArcD} (h : a ∈ lineArc xs ts i j) : ∀ k, j < k → a ∈ rowL xs ts i k
  | 0, hk => by omega
  | k + 1, hk => by
    simp only [rowL, List.mem_append]
    by_cases e : j = k
    · subst e; exact .inr h
    · exact .inl (rowL_has h k (by omega))
theorem lineTo_has {n i j : Nat} {a : ArcD} (h : a ∈ lineArc xs ts i j) (hj : j < n) : ∀ k, i < k → a ∈ lineTo xs ts n k
  | 0, hk => by omega
  | k + 1, hk => by
    simp only [lineTo, List.mem_append]
    by_cases e : i = k
    · subst e; exact .inr (rowL_has h n hj)
    · exact .inl (lineTo_has h hj k (by omega))
theorem lineArc_link {i k : Nat} {a : ArcD} (h : a ∈ lineArc xs ts i k) : ∃ x b, xs[i]? = some x ∧ xs[k]? = some b ∧ x.t = b.f ∧ 0 ≤ costF ts i k ∧ a = ⟨i, k, costF ts i k + b.c, 0, 9⟩ := by
  unfold lineArc at h
  split at h
  · rename_i x b hx hb
    split at h
    · rename_i hc
      exact ⟨x, b, hx, hb, hc.1, hc.2, by simpa using h⟩
    · simp at h
  · simp at h
/-- A way over the arcs' own arcs is a walk with its turns. -/
theorem way_tw {v c : Int} {l : List Int} (h : Way (turnArcs xs ts s) (xs.length : Int) v c l) : (v = xs.length ∧ c = 0) ∨ ∃ j : Nat, v = j ∧ TW xs ts s j c := by
  induction h with
  | nil => exact .inl ⟨rfl, rfl⟩
  | @snoc u c l a _ ha e ih =>
    right
    rcases List.mem_append.1 ha with ha | ha
    · obtain ⟨i, j, ha⟩ := lineTo_mem _ ha
      obtain ⟨x, b, h1, h2, h3, h4, rfl⟩ := lineArc_link ha
      simp only at e ⊢
      have hi := (List.getElem?_eq_some_iff.1 h1).1
      rcases ih with ⟨e1, _⟩ | ⟨i', e1, ht⟩
      · omega
      · obtain rfl : i = i' := by omega
        exact ⟨j, rfl, .more ht h1 h2 h3 h4⟩
    · obtain ⟨j, b, _, h2, h3, rfl⟩ := extra_mem _ ha
      simp only at e ⊢
      rcases ih with ⟨_, e2⟩ | ⟨i', e1, ht⟩
      · exact ⟨j, rfl, by rw [e2, Int.zero_add]; exact .one h2 h3⟩
      · obtain ⟨b', hb'⟩ := ht.has
        have := (List.getElem?_eq_some_iff.1 hb').1
        omega
theorem TW.way {j : Nat} {c : Int} (h : TW xs ts s j c) : ∃ l, Way (turnArcs xs ts s) (xs.length : Int) (j : Int) c l := by
  induction h with
  | @one j b h1 h2 =>
    have hj := (List.getElem?_eq_some_iff.1 h1).1
    have := Way.snoc (xs := turnArcs xs ts s) (s := (xs.length : Int)) .nil (a := ⟨(xs.length : Int), (j : Int), b.c, 0, 0⟩) (List.mem_append_right _ (extra_has h1 h2 _ hj)) rfl
    rw [Int.zero_add] at this
    exact ⟨_, this⟩
  | @more i k a b c _ h1 h2 h3 h4 ih =>
    obtain ⟨l, w⟩ := ih
    have hi := (List.getElem?_eq_some_iff.1 h1).1
    have hk := (List.getElem?_eq_some_iff.1 h2).1
    exact ⟨_, .snoc w (a := ⟨(i : Int), (k : Int), costF ts i k + b.c, 0, 9⟩) (List.mem_append_left _ (lineTo_has (i := i) (j := k) (by rw [lineArc_hit h1 h2 h3 h4]; simp) hk _ hi)) rfl⟩

/-- No walk with its turns costs less than what is told of its last arc. -/
theorem arcsL_le (hT : turnsB m xs ts = true) {j : Nat} {c : Int} (h : TW xs ts s j c) : at_ (arcsL xs ts s) (j : Int) ≤ c ∧ at_ (arcsL xs ts s) (j : Int) < farI := by
  have hN := (turnsB_all hT).1
  have hB := (turnsB_all hT).2.2.1
  have h16 := ((netB_iff _ _).1 hN).2.1
  have hx := turnArcs_in (xs := xs) (ts := ts) s hN hB
  obtain ⟨b, hb⟩ := h.has
  have hj := (List.getElem?_eq_some_iff.1 hb).1
  obtain ⟨l, w⟩ := h.way
  have hs : (0 : Int) ≤ (xs.length : Int) ∧ (xs.length : Int) < ((xs.length + 1 : Nat) : Int) := by omega
  have e : at_ (arcsL xs ts s) (j : Int) = at_ (nearL (xs.length + 1) (turnArcs xs ts s) (xs.length : Int)) (j : Int) := by
    rw [arcs_near hN hB, at_app (by omega) (by rw [arcsL_length]; omega)]
  rw [e]
  obtain ⟨c2, l2, h1, h2, _, h4⟩ := w.simple hx
  have hf := h1.few hx hs h4
  have hc := h1.cost hx
  have := nearL_le (by omega) hx hs h1
  unfold farI
  omega
/-- What is told of an arc is far, or what a walk with its turns costs. -/
theorem arcsL_is (hT : turnsB m xs ts = true) {j : Nat} (hj : j < xs.length) : 0 ≤ at_ (arcsL xs ts s) (j : Int) ∧ (at_ (arcsL xs ts s) (j : Int) = farI ∨ TW xs ts s j (at_ (arcsL xs ts s) (j : Int))) := by
  have hN := (turnsB_all hT).1
  have hB := (turnsB_all hT).2.2.1
  have h16 := ((netB_iff _ _).1 hN).2.1
  have hx := turnArcs_in (xs := xs) (ts := ts) s hN hB
  have hs : (0 : Int) ≤ (xs.length : Int) ∧ (xs.length : Int) < ((xs.length + 1 : Nat) : Int) := by omega
  have e : at_ (arcsL xs ts s) (j : Int) = at_ (nearL (xs.length + 1) (turnArcs xs ts s) (xs.length : Int)) (j : Int) := by
    rw [arcs_near hN hB, at_app (by omega) (by rw [arcsL_length]; omega)]
  have hb := nearL_bound hx hs (v := (j : Int)) (by omega)
  rw [e]
  refine ⟨hb.1, ?_⟩
  rcases ((nearL_sound hx hs).2 (j : Int) (by omega) (by omega)).2 with h | ⟨l, w⟩
  · exact .inl h
  · right
    rcases way_tw w with ⟨e1, _⟩ | ⟨i, e1, ht⟩
    · omega
    · obtain rfl : j = i := by omega
      exact ht

/-- The least of the arcs that lead there. -/
theorem into_fact {d o : List Int} (hx : ∀ a ∈ xs, 0 ≤ a.t ∧ a.t.toNat < o.length) (v : Int) (hv : 0 ≤ v) : ∀ k, k ≤ xs.length → (∀ j b, j < k → xs[j]? = some b → b.t = v → at_ (intoTo xs d o k) v ≤ at_ d (j : Int)) ∧ at_ (intoTo xs d o k) v ≤ at_ o v ∧ (at_ (intoTo xs d o k) v = at_ o v ∨ ∃ j b, j < k ∧ xs[j]? = some b ∧ b.t = v ∧ at_ (intoTo xs d o k) v = at_ d (j : Int))
  | 0, _ => ⟨fun j b h => by omega, Int.le_refl _, .inl rfl⟩
  | k + 1, hk => by
    obtain ⟨h1, h2, h3⟩ := into_fact hx v hv (d := d) k (by omega)
    obtain ⟨a, ha⟩ : ∃ a, xs[k]? = some a := ⟨_, List.getElem?_eq_getElem (show k < xs.length by omega)⟩
    have hb := hx a (List.mem_of_getElem? ha)
    rw [intoTo_next ha]
    split
    · rename_i hlt
      rw [at_set _ _ _ _ hb.1 (by rw [intoTo_length]; exact hb.2) hv]
      split
      · rename_i e
        subst e
        refine ⟨fun j b hj hjb hbt => ?_, by omega, .inr ⟨k, a, by omega, ha, rfl, rfl⟩⟩
        by_cases e : j = k
        · subst e; exact Int.le_refl _
        · have := h1 j b (by omega) hjb hbt; omega
      · rename_i e
        refine ⟨fun j b hj hjb hbt => ?_, h2, ?_⟩
        · by_cases e' : j = k
          · subst e'; rw [ha] at hjb; injection hjb with hjb; subst hjb; exact absurd hbt.symm e
          · exact h1 j b (by omega) hjb hbt
        · rcases h3 with h3 | ⟨j, b, g1, g2, g3, g4⟩
          · exact .inl h3
          · exact .inr ⟨j, b, by omega, g2, g3, g4⟩
    · rename_i hlt
      refine ⟨fun j b hj hjb hbt => ?_, h2, ?_⟩
      · by_cases e' : j = k
        · subst e'; rw [ha] at hjb; injection hjb with hjb; subst hjb; subst hbt; omega
        · exact h1 j b (by omega) hjb hbt
      · rcases h3 with h3 | ⟨j, b, g1, g2, g3, g4⟩
        · exact .inl h3
        · exact .inr ⟨j, b, by omega, g2, g3, g4⟩

variable {M : Nat}
theorem tall_fact (hT : turnsB (M : Int) xs ts = true) (hs : 0 ≤ s ∧ s < M) {v : Int} (hv : 0 ≤ v ∧ v < M) : (∀ (j : Nat) (b : ArcD), xs[j]? = some b → b.t = v → at_ (tallL M xs ts s) v ≤ at_ (arcsL xs ts s) (j : Int)) ∧ at_ (tallL M xs ts s) v ≤ (if v = s then 0 else farI) ∧ (at_ (tallL M xs ts s) v = (if v = s then 0 else farI) ∨ ∃ (j : Nat) (b : ArcD), xs[j]? = some b ∧ b.t = v ∧ at_ (tallL M xs ts s) v = at_ (arcsL xs ts s) (j : Int)) := by
  have hx := arcsIn_net (turnsB_all hT).1
  have h := into_fact (xs := xs) (d := arcsL xs ts s) (o := start M s) (fun a ha => by have := hx a ha; rw [start_length]; omega) v hv.1 xs.length (Nat.le_refl _)
  rw [at_start M s v hs hv] at h
  refine ⟨fun j b hj hb => h.1 j b (List.getElem?_eq_some_iff.1 hj).1 hj hb, h.2.1, ?_⟩
  rcases h.2.2 with h3 | ⟨j, b, _, g2, g3, g4⟩
  · exact .inl h3
  · exact .inr ⟨j, b, g2, g3, g4⟩
theorem tall_bound (hT : turnsB (M : Int) xs ts = true) (hs : 0 ≤ s ∧ s < M) {v : Int} (hv : 0 ≤ v ∧ v < M) : 0 ≤ at_ (tallL M xs ts s) v ∧ at_ (tallL M xs ts s) v ≤ farI := by
  obtain ⟨_, h2, h3⟩ := tall_fact hT hs hv
  constructor
  · rcases h3 with h | ⟨j, b, g2, _, g4⟩
    · rw [h]; split
      · omega
      · unfold farI; omega
    · rw [g4]; exact (arcsL_is hT (List.getElem?_eq_some_iff.1 g2).1).1
  · split at h2
    · unfold farI; omega
    · exact h2
theorem tall_start (hT : turnsB (M : Int) xs ts = true) (hs : 0 ≤ s ∧ s < M) : at_ (tallL M xs ts s) s = 0 := by
  have h1 := (tall_fact hT hs hs).2.1
  have h2 := (tall_bound hT hs hs).1
  rw [if_pos rfl] at h1
  omega
/-- No walk with its turns costs less. -/
theorem tall_le (hT : turnsB (M : Int) xs ts = true) (hs : 0 ≤ s ∧ s < M) {j : Nat} {b : ArcD} {c : Int} (hb : xs[j]? = some b) (h : TW xs ts s j c) : at_ (tallL M xs ts s) b.t ≤ c ∧ at_ (tallL M xs ts s) b.t < farI := by
  have hbd := arcsIn_net (turnsB_all hT).1 b (List.mem_of_getElem? hb)
  have h1 := (tall_fact hT hs (v := b.t) (by omega)).1 j b hb rfl
  have h2 := arcsL_le hT h
  omega
/-- What is told is far, nothing, or what a walk with its turns costs. -/
theorem tall_is (hT : turnsB (M : Int) xs ts = true) (hs : 0 ≤ s ∧ s < M) {v : Int} (hv : 0 ≤ v ∧ v < M) (hf : at_ (tallL M xs ts s) v < farI) : v = s ∨ ∃ (j : Nat) (b : ArcD), xs[j]? = some b ∧ b.t = v ∧ TW xs ts s j (at_ (tallL M xs ts s) v) := by
  obtain ⟨_, _, h3⟩ := tall_fact hT hs hv
  by_cases e : v = s
  · exact .inl e
  · right
    rw [if_neg e] at h3
    rcases h3 with h | ⟨j, b, g2, g3, g4⟩
    · omega
    · refine ⟨j, b, g2, g3, ?_⟩
      rcases (arcsL_is hT (s := s) (List.getElem?_eq_some_iff.1 g2).1).2 with h | h
      · omega
      · rw [g4]; exact h

/-- Without its turns a walk costs no more. -/
theorem TW.plain {j : Nat} {b : ArcD} {c : Int} (h : TW xs ts s j c) (hb : xs[j]? = some b) : ∃ c2 l, Way xs s b.t c2 l ∧ c2 ≤ c := by
  induction h generalizing b with
  | @one j b' h1 h2 =>
    rw [h1] at hb
    injection hb with hb
    subst hb
    have := Way.snoc (xs := xs) (s := s) .nil (List.mem_of_getElem? h1) h2
    rw [Int.zero_add] at this
    exact ⟨_, _, this, Int.le_refl _⟩
  | @more i k a b' c _ h1 h2 h3 h4 ih =>
    rw [h2] at hb
    injection hb with hb
    subst hb
    obtain ⟨c2, l, w, hc⟩ := ih h1
    exact ⟨_, _, .snoc w (List.mem_of_getElem? h2) h3.symm, by omega⟩
/-- Where turns cost nothing is nearer. -/
theorem tall_near (hT : turnsB (M : Int) xs ts = true) (hs : 0 ≤ s ∧ s < M) {v : Int} (hv : 0 ≤ v ∧ v < M) : at_ (nearL M xs s) v ≤ at_ (tallL M xs ts s) v := by
  have hN := (turnsB_all hT).1
  have hM := ((netB_iff _ _).1 hN).1
  have hx := arcsIn_net hN
  have hb := nearL_bound hx hs hv
  by_cases hf : at_ (tallL M xs ts s) v < farI
  · rcases tall_is hT hs hv hf with e | ⟨j, b, g2, g3, g4⟩
    · subst e
      have := nearL_start (by omega) hx hs
      have := (tall_bound hT hs hs).1
      omega
    · obtain ⟨c2, l, w, hc⟩ := g4.plain g2
      rw [g3] at w
      have := nearL_le (by omega) hx hs w
      omega
  · omega
theorem costF_nil (a b : Int) : costF [] a b = 0 := rfl
/-- Without turns the walk of a way. -/
theorem way_none {v c : Int} {l : List Int} (h : Way xs s v c l) : (v = s ∧ c = 0) ∨ ∃ (j : Nat) (b : ArcD), xs[j]? = some b ∧ b.t = v ∧ TW xs [] s j c := by
  induction h with
  | nil => exact .inl ⟨rfl, rfl⟩
  | @snoc u c l a _ ha e ih =>
    right
    obtain ⟨k, hk⟩ := List.getElem?_of_mem ha
    refine ⟨k, a, hk, rfl, ?_⟩
    rcases ih with ⟨e1, e2⟩ | ⟨i, b, g1, g2, g3⟩
    · rw [e2, Int.zero_add]
      exact .one hk (by omega)
    · have := TW.more g3 g1 hk (by omega) (by rw [costF_nil]; omega)
      rw [costF_nil, Int.zero_add] at this
      exact this
theorem TW.none {j : Nat} {b : ArcD} {c : Int} (h : TW xs [] s j c) (hb : xs[j]? = some b) : ∃ l, Way xs s b.t c l := by
  induction h generalizing b with
  | @one j b' h1 h2 =>
    rw [h1] at hb
    injection hb with hb
    subst hb
    have := Way.snoc (xs := xs) (s := s) .nil (List.mem_of_getElem? h1) h2
    rw [Int.zero_add] at this
    exact ⟨_, this⟩
  | @more i k a b' c _ h1 h2 h3 h4 ih =>
    rw [h2] at hb
    injection hb with hb
    subst hb
    obtain ⟨l, w⟩ := ih h1
    have := Way.snoc w (List.mem_of_getElem? h2) h3.symm
    rw [costF_nil, Int.zero_add]
    exact ⟨_, this⟩
/-- Without turns all is as near. -/
theorem tall_none (hN : netB (M : Int) xs = true) (hs : 0 ≤ s ∧ s < M) : tallL M xs [] s = nearL M xs s := by
  have hT : turnsB (M : Int) xs [] = true := by rw [turnsB_nil]; exact hN
  have hM := ((netB_iff _ _).1 hN).1
  have hx := arcsIn_net hN
  refine nearL_unique (by omega) hx hs ⟨by rw [tallL_length], fun v h0 h1 => ?_⟩ (fun {v c l} w => ?_)
  · have hb := tall_bound hT hs ⟨h0, h1⟩
    refine ⟨hb.2, ?_⟩
    by_cases hf : at_ (tallL M xs [] s) v < farI
    · right
      rcases tall_is hT hs ⟨h0, h1⟩ hf with e | ⟨j, b, g2, g3, g4⟩
      · subst e
        rw [tall_start hT hs]
        exact ⟨[], .nil⟩
      · obtain ⟨l, w⟩ := g4.none g2
        rw [g3] at w
        exact ⟨l, w⟩
    · left; omega
  · rcases way_none w with ⟨e1, e2⟩ | ⟨j, b, g1, g2, g3⟩
    · rw [e1, e2, tall_start hT hs]; exact Int.le_refl _
    · have := (tall_le hT hs g1 g3).1
      rw [g2] at this
      exact this
theorem tallI_none (m : Int) (xs : List ArcD) (s : Int) : tallI m xs [] s = nearI m xs s := by
  unfold tallI nearI
  have e : theretB m xs [] s = hereB m xs s := by rw [theretB, turnsB_nil, hereB]
  rw [e]
  split
  · rename_i h
    obtain ⟨hN, h0, h1⟩ := (hereB_iff _ _ _).1 h
    obtain ⟨M, rfl, _, _⟩ := here_nat hN
    rw [Int.toNat_natCast]
    exact tall_none hN ⟨h0, h1⟩
  · rfl
end

end Go.Proofs.Ytaojognjkiifmaa

namespace Go.Proofs.Ytaojognjkiifmaa
open Go.RowKit Go.Shelf Go.Maps

attribute [local go_sem] Oper.semAt_some

/-- What comes of the arcs that the iterator has told so far. -/
def exArc (xs : List ArcD) (N k : Nat) : List ArcD := match xs[k]? with | some b => [⟨(N : Int), (k : Int), b.c, 0, 0⟩] | none => []
def exP (xs : List ArcD) (N : Nat) (p : List Int) : List ArcD := p.flatMap fun y => exArc xs N y.toNat
theorem exP_snoc (xs : List ArcD) (N : Nat) (p : List Int) (y : Int) : exP xs N (p ++ [y]) = exP xs N p ++ exArc xs N y.toNat := by simp [exP]
theorem exP_all {xs : List ArcD} {s : Int} {N : Nat} : ∀ n, n ≤ xs.length → exP xs N (outTo xs s n) = extraTo xs s N n
  | 0, _ => rfl
  | n + 1, hn => by
    have ih := exP_all (xs := xs) (s := s) (N := N) n (by omega)
    obtain ⟨b, hb⟩ : ∃ b, xs[n]? = some b := ⟨_, List.getElem?_eq_getElem (show n < xs.length by omega)⟩
    rw [extraTo, ← ih, hb]
    cases he : (b.f == s) with
    | true => rw [outTo_hit hb he, exP_snoc]; simp at he; simp [exArc, hb, he]
    | false => rw [outTo_miss hb he]; simp at he; simp [he]
theorem exP_len (xs : List ArcD) (N : Nat) : ∀ p : List Int, (exP xs N p).length ≤ p.length
  | [] => by simp [exP]
  | y :: p => by
    have h1 := exP_len xs N p
    have h2 : (exArc xs N y.toNat).length ≤ 1 := by unfold exArc; split <;> simp
    simp only [exP, List.flatMap_cons, List.length_append, List.length_cons] at *
    omega

theorem extraTo_len (xs : List ArcD) (s : Int) (N : Nat) : ∀ k, (extraTo xs s N k).length ≤ k
  | 0 => by simp [extraTo]
  | k + 1 => by
    have ih := extraTo_len xs s N k
    rw [extraTo, List.length_append]
    cases xs[k]? with
    | none => simp; omega
    | some b => simp only; split <;> simp <;> omega
theorem turnArcs_len (xs : List ArcD) (ts : List TurnD) (s : Int) (h : xs.length ≤ 16) : (turnArcs xs ts s).length ≤ 400 := by
  have h1 := lineL_len xs ts h
  have h2 := extraTo_len xs s xs.length xs.length
  rw [turnArcs, List.length_append]
  omega
theorem turnArcs_ne {m : Int} {xs : List ArcD} {ts : List TurnD} (s : Int) (hn : netB m xs = true) : ∀ a ∈ turnArcs xs ts s, a.f ≠ a.t := fun a ha => by
  rcases List.mem_append.1 ha with ha | ha
  · obtain ⟨i, j, ha⟩ := lineTo_mem _ ha
    obtain ⟨x, b, h1, h2, h3, _, rfl⟩ := lineArc_link ha
    intro e
    simp only at e
    obtain rfl : i = j := by omega
    rw [h1] at h2
    injection h2 with h2
    subst h2
    exact net_ne hn x (List.mem_of_getElem? h1) h3.symm
  · obtain ⟨j, b, h1, h2, _, rfl⟩ := extra_mem _ ha
    simp only
    omega

set_option maxRecDepth 1000000 in
set_option maxHeartbeats 4000000 in
theorem tall_in (m : Int) (A : Option Addr) (n c : Nat) (xs : List ArcD) (B : Option Addr) (l cb : Nat) (ts : List TurnD) (s : Int) (w : World) (hn : n ≤ 1048576) (hnx : xs.length = n) (hx : ArcsAt w A xs) (hl : l ≤ 1048576) (hlt : ts.length = l) (ht : TurnsAt w B ts) :
    CallsIn Fence.wide 4 Try.prog 20 #[.agg #[.int .i64 m, .slice A n c], .slice B l cb, .int .i64 s] w (Gives w (tallI m xs ts s)) := by
  have HX := Lib.hid hnx
  have HL := Lib.hid hlt
  clear hnx hlt
  have hb0 : Past w (w.alloc (.cells #[.int .i64 m, .slice A n c] 32)) := (Past.refl _).alloc _
  refine callsIn_of_wp_marks Try.func20 rfl trivial ?_ rfl
  simp only [Try.ntmps20, List.size_toArray, List.length_cons, List.length_nil, Nat.reduceAdd, Nat.reduceSub, Array.replicate_succ, Array.replicate_zero, List.push_toArray, List.append_toArray, List.nil_append, List.cons_append]
  gi_wp2_with fail
  refine ⟨trivial, ?_⟩
  refine (callsIn_wide.2 (implTurnsOk_any m A n c xs B l cb ts _ hn HX.out (hx.below hb0) hl HL.out (ht.below hb0))).mono ?_
  rintro e w1 ⟨rfl, hb1⟩
  have b0 := cell_in (p := ⟨w.heap.size, 0, none⟩) (v := .int .i64 m) hb1 (by go_simp)
  have b1 := cell_in (p := ⟨w.heap.size, 1, none⟩) (v := .slice A n c) hb1 (by go_simp)
  have hp1 : Past w w1 := hb0.trans hb1
  clear hb0 hb1
  cases hB : turnsB m xs ts with
  | false =>
    have HF : Hid (theretB m xs ts s = false) := by rw [Hid, theretB, hB]; rfl
    clear hB
    gi_wp2_with fail
    refine ⟨trivial, ?_⟩
    gi_wp2
    exact leaves_marks [] _ List.nodup_nil (by simp) (fun W' hc => ⟨.slice none 0 0, by simp [results, Try.results20, go_sem], ⟨_, rfl, by rw [tallI, HF.out]; exact Res.nil _ _, hp1.belowTrans (hc.below hp1.size (by simp))⟩⟩)
  | true =>
  have HT := Lib.hid hB
  have hz : IntsAt (w1.alloc (.cells #[.int .i64 s] 3)) (some ⟨w1.heap.size, 0, none⟩) [s] := fun k y hk => by
    cases k with
    | zero => simp at hk; subst hk; exact ⟨_, _, rfl, by go_simp⟩
    | succ k => simp at hk
  have b0A := fun (o : Obj) => cell_in ((Past.refl w1).alloc o) b0
  have b1A := fun (o : Obj) => cell_in ((Past.refl w1).alloc o) b1
  clear hB
  gi_wp2_with fail
  refine ⟨trivial, ?_⟩
  refine (callsIn_wide.2 (netHas_any m A n c xs _ 1 1 [s] _ hn HX.out ((hx.below hp1).below ((Past.refl w1).alloc _)) (by omega) rfl hz)).mono ?_
  rintro e w2 ⟨rfl, hb2⟩
  have hp12 : Past w1 w2 := ((Past.refl w1).alloc (.cells #[.int .i64 s] 3)).trans hb2
  have b0 := cell_in hp12 b0
  have b1 := cell_in hp12 b1
  have hp2 : Past w w2 := hp1.trans hp12
  clear b0A b1A hb2 hp12 hz
  have hH : (netB m xs && [s].all (fun z => inB z 0 (m - 1))) = inB s 0 (m - 1) := by rw [(turnsB_all HT.out).1]; simp
  rw [hH]
  clear hH
  cases hD : inB s 0 (m - 1) with
  | false =>
    have HF : Hid (theretB m xs ts s = false) := by rw [Hid, theretB, hD, Bool.and_false]
    clear hD
    gi_wp2
    exact leaves_marks [] _ List.nodup_nil (by simp) (fun W' hc => ⟨.slice none 0 0, by simp [results, Try.results20, go_sem], ⟨_, rfl, by rw [tallI, HF.out]; exact Res.nil _ _, hp2.belowTrans (hc.below hp2.size (by simp))⟩⟩)
  | true =>
  have HF : Hid (theretB m xs ts s = true) := by rw [Hid, theretB, HT.out, hD]; rfl
  have hs := (inB_iff _ _ _).1 hD
  have h16 : n ≤ 16 := by rw [← HX.out]; exact ((netB_iff _ _).1 (turnsB_all HT.out).1).2.1
  have hm8 := ((netB_iff _ _).1 (turnsB_all HT.out).1).1
  obtain ⟨M, rfl⟩ : ∃ M : Nat, m = M := ⟨m.toNat, by omega⟩
  clear hD
  gi_wp2_with fail
  refine ⟨trivial, ?_⟩
  refine (callsIn_wide.2 (line_any (M : Int) A n c xs B l cb ts _ h16 HX.out (hx.below hp2) hl HL.out (ht.below hp2) HT.out)).mono ?_
  rintro e w3 ⟨v, rfl, hv, hb3⟩
  have hp23 : Past w2 w3 := hb3
  have hs23 := hp23.size
  have hs02 := hp2.size
  have B0 := Lib.hid b0
  have B1 := Lib.hid b1
  have b0 := cell_in hb3 b0
  have b1 := cell_in hb3 b1
  have hp3 : Past w w3 := hp2.trans hb3
  have s1 : IntKind.i64.wrap ((n : Int) + 1) = (n : Int) + 1 := IntWalk.i64_in _ (by omega)
  obtain ⟨K, hK⟩ : ∃ K, K = (lineL xs ts).length := ⟨_, rfl⟩
  obtain ⟨A2, c2, rfl, hx2, _⟩ := hv.form
  rw [← hK]
  have HK := Lib.hid hK
  have HV := Lib.hid hv
  clear hK hv hb3 hx2
  have b0B := fun (o o' : Obj) => cell_in (((Past.refl w3).alloc o).alloc o') b0
  have b1B := fun (o o' : Obj) => cell_in (((Past.refl w3).alloc o).alloc o') b1
  gi_wp2_with fail
  refine ⟨trivial, ?_⟩
  refine (callsIn_wide.2 (arcsFrom_any (M : Int) s A n c _)).mono ?_
  rintro e w5 ⟨rfl, hw5⟩
  clear b0B b1B
  have hs5 : w5.heap.size = w3.heap.size + 4 := by rw [hw5]; simp
  have hp35 : Past w3 w5 := by rw [hw5]; exact ((((Past.refl _).alloc _).alloc _).alloc _).alloc _
  have hpA : Past (w3.alloc (.cells #[.int .i64 ((n : Int) + 1), .slice A2 K c2] 32)) w5 := by rw [hw5]; exact (((Past.refl _).alloc _).alloc _).alloc _
  have hp5 : Past w w5 := hp3.trans hp35
  have hown3 : w3.ownsRow w2.heap.size 52 5 (.slice A2 K c2) (lineL xs ts).length (cellsOf (lineL xs ts)) := by rw [HK.out]; exact HV.out
  have hT0 : TaIn w2 w5 w3.heap.size n w2.heap.size (.slice A2 K c2) (lineL xs ts) := by
    refine ⟨by rw [hw5]; go_simp, by rw [hw5]; go_simp, by rw [hw5]; go_simp, ?_, World.ownsRow.kept hown3 (grown_of_below hp35 none) (by cases hv : (Value.slice A2 K c2).ownBlock <;> simp), fun b e => .inl (hown3.lt b e).2, by omega, hp23.trans hp35⟩
    exact RowN.keep (w := w3.alloc (.cells #[.int .i64 ((n : Int) + 1), .slice A2 K c2] 32)) ⟨_, heap_alloc_new w3 _, rfl⟩ (hpA.block _ (by simp))
  have hC : ArcsC (w3.heap.size + 1 + 1) (w3.heap.size + 1 + 1 + 1) (M : Int) s A n c xs w5 := ⟨by rw [hw5]; go_simp, by rw [hw5]; go_simp, by rw [hw5]; go_simp, hx.below hp5⟩
  have b0 := cell_in hp35 b0
  have b1 := cell_in hp35 b1
  simp only [World.size_alloc]
  clear hw5 hpA hp35 hown3
  gi_wp2_with fail
  refine wpIn_rangeFunc_ownG rfl (by omega) (gf := 100) (lb := #[.pointer (some ⟨w3.heap.size + 1 + 1, 0, none⟩), .pointer (some ⟨w3.heap.size + 1 + 1 + 1, 0, none⟩)]) rfl trivial (enters_of Try.func100 (by kernel_rfl) rfl)
    (arcsK_stops Fence.wide 3 trivial rfl (by omega) (w3.heap.size + 1 + 1) (w3.heap.size + 1 + 1 + 1) w2.heap.size (M : Int) s A n c xs HX.out (by omega) w2 (hx.below hp2) (Nat.le_refl _) w5 hC)
    (fun h k => h.trans k) (fun W l o o' hl ho hc hw => ⟨belowK_b (w := w5) (by omega) W l o o' hl ho hc hw, World.putObj_heap_other (by omega), World.putObj_heap_other (by omega)⟩) (Below.refl _ _) (fun _ => rfl)
    (fun pre W => ∃ v, TaIn w2 W w3.heap.size n w2.heap.size v (lineL xs ts ++ exP xs n (nums pre)))
    (fun _ _ _ => False)
    (fun pre A B row hs hg hr => by
      obtain ⟨v, h⟩ := hs
      exact ⟨v, h.turn hs23 hg (fun r e => by have := hr r e; rw [hs5] at this; exact this)⟩)
    (fun _ _ _ _ _ hs _ _ => hs)
    ⟨_, by simpa [nums, exP] using hT0⟩
    (fun x => { tmps := (.agg #[.int .i64 (M : Int), .slice A n c] :: .slice B l cb :: .int .i64 s :: .pointer (some ⟨w.heap.size, 0, none⟩) :: undef :: undef :: .slice none 0 0 :: .pointer (some ⟨w3.heap.size, 0, none⟩) :: .pointer (some ⟨w3.heap.size + 1, 0, none⟩) :: .int .i64 x.1 :: undef :: undef :: undef :: undef :: .agg #[.int .i64 (M : Int), .slice A n c] :: .slice B l cb :: .bool true :: .bool false :: .bool false :: .agg #[.int .i64 (M : Int), .slice A n c] :: .int .i64 s :: .slice (some ⟨w1.heap.size, 0, none⟩) 1 1 :: .bool true :: .bool false :: .bool false :: .agg #[.int .i64 (M : Int), .slice A n c] :: .slice B l cb :: .agg #[.int .i64 (n : Int), .slice A2 K c2] :: .pointer (some ⟨w3.heap.size, 0, none⟩) :: .int .i64 (n : Int) :: .pointer (some ⟨w3.heap.size, 0, none⟩) :: .int .i64 (n : Int) :: .int .i64 ((n : Int) + 1) :: .pointer (some ⟨w3.heap.size, 0, none⟩) :: .agg #[.int .i64 (M : Int), .slice A n c] :: .int .i64 s :: .func (.func 100) #[] #[.pointer (some ⟨w3.heap.size + 1 + 1, 0, none⟩), .pointer (some ⟨w3.heap.size + 1 + 1 + 1, 0, none⟩)] :: .int .i64 x.1 :: undef :: undef :: undef :: undef :: undef :: undef :: undef :: undef :: undef :: undef :: undef :: undef :: undef :: undef :: undef :: undef :: undef :: undef :: undef :: undef :: undef :: undef :: undef :: undef :: undef :: undef :: undef :: undef :: undef :: undef :: undef :: undef :: undef :: undef :: undef :: undef :: undef :: undef :: undef :: undef :: undef :: undef :: undef :: undef :: undef :: undef :: undef :: undef :: undef :: undef :: []).toArray, defers := [] }) ?assign ?body ?done ?stop
  case assign =>
    intro l x W K hK
    gi_wp2
    exact hK
  case body =>
    rintro ld pre ⟨x, j, ⟨f', t', c', l', d'⟩, rfl, hb', hf⟩ W ⟨v, hI⟩ hlt'
    have hjk : j < n := by rw [← HX.out]; exact (List.getElem?_eq_some_iff.1 hb').1
    obtain ⟨g, o, rfl, d0, d1, d2, d3, d4⟩ := ((hx.below hp2).below hI.past) j _ hb'
    have hgl : g < w.heap.size := by
      obtain ⟨g3, o3, e3, h3, _⟩ := hx j _ hb'
      injection e3 with e3
      injection e3 with e4 e5
      subst e4
      exact lt_of_cell h3
    have hln := lineL_len xs ts (by rw [HX.out]; exact h16)
    have hbw := cell_in hI.past B1.out
    have o1 := hI.o1
    have hnm := hI.num
    have HN : Hid (lineL xs ts ++ exP xs n (nums pre ++ [(j : Int)]) = (lineL xs ts ++ exP xs n (nums pre)) ++ [⟨(n : Int), (j : Int), c', 0, 0⟩]) := by
      rw [Hid, exP_snoc, Int.toNat_natCast, exArc, hb', ← List.append_assoc]
    have hlen : (lineL xs ts ++ exP xs n (nums pre)).length ≤ 1000 := by
      have h2 := exP_len xs n (nums pre)
      rw [nums_length] at h2
      rw [List.length_append]
      omega
    obtain ⟨v1, w9, hr, ⟨A3, k3, c3, hV1⟩, far, ⟨u9, x9⟩, z9, hI9, hkf, hblk, hbel⟩ := hI.fill ⟨(n : Int), (j : Int), c', 0, 0⟩ (Nat.le_refl _) hs23 hlen
    have hlw : w.heap.size < w2.heap.size := lt_of_cell B1.out
    clear d0 d1 d3 d4
    gi_wp2_with fail
    refine wpIn_region_chain (by kernel_rfl) [11, 12, 14] { tmps := (.agg #[.int .i64 (M : Int), .slice (some ⟨g, o, none⟩) n c] :: .slice B l cb :: .int .i64 s :: .pointer (some ⟨w.heap.size, 0, none⟩) :: undef :: undef :: .slice none 0 0 :: .pointer (some ⟨w3.heap.size, 0, none⟩) :: .pointer (some ⟨w3.heap.size + 1, 0, none⟩) :: .int .i64 (j : Int) :: undef :: undef :: undef :: undef :: .agg #[.int .i64 (M : Int), .slice (some ⟨g, o, none⟩) n c] :: .slice B l cb :: .bool true :: .bool false :: .bool false :: .agg #[.int .i64 (M : Int), .slice (some ⟨g, o, none⟩) n c] :: .int .i64 s :: .slice (some ⟨w1.heap.size, 0, none⟩) 1 1 :: .bool true :: .bool false :: .bool false :: .agg #[.int .i64 (M : Int), .slice (some ⟨g, o, none⟩) n c] :: .slice B l cb :: .agg #[.int .i64 (n : Int), .slice A2 K c2] :: .pointer (some ⟨w3.heap.size, 0, none⟩) :: .int .i64 (n : Int) :: .pointer (some ⟨w3.heap.size, 0, none⟩) :: .int .i64 (n : Int) :: .int .i64 ((n : Int) + 1) :: .pointer (some ⟨w3.heap.size, 0, none⟩) :: .agg #[.int .i64 (M : Int), .slice (some ⟨g, o, none⟩) n c] :: .int .i64 s :: .func (.func 100) #[] #[.pointer (some ⟨w3.heap.size + 1 + 1, 0, none⟩), .pointer (some ⟨w3.heap.size + 1 + 1 + 1, 0, none⟩)] :: .int .i64 (j : Int) :: .pointer (some ⟨w3.heap.size, 1, none⟩) :: v :: .int .i64 (n : Int) :: .int .i64 (j : Int) :: .pointer (some ⟨w.heap.size, 1, none⟩) :: .slice (some ⟨g, o, none⟩) n c :: .int .i64 (j : Int) :: .pointer (some ⟨g, o + j * 5, none⟩) :: .pointer (some ⟨g, o + j * 5 + 2, none⟩) :: .int .i64 c' :: .agg #[.int .i64 (n : Int), .int .i64 (j : Int), .int .i64 c', .int .i64 0, .int .i64 0] :: .slice (some ⟨W.heap.size, 0, none⟩) 1 1 :: v1 :: .pointer (some ⟨w3.heap.size, 1, none⟩) :: undef :: undef :: undef :: undef :: undef :: undef :: undef :: undef :: undef :: undef :: undef :: undef :: undef :: undef :: undef :: undef :: undef :: undef :: undef :: undef :: undef :: undef :: undef :: undef :: undef :: undef :: undef :: undef :: undef :: undef :: undef :: undef :: undef :: undef :: undef :: undef :: []).toArray, defers := [] } (fun s => ([W.drew, W.drew.alloc (.cells #[.int .i64 (n : Int), .int .i64 (j : Int), .int .i64 c', .int .i64 0, .int .i64 0] 52), w9, w9.setCell ⟨w3.heap.size, 1, none⟩ v1] : List World).getD s W) rfl (by kernel_rfl) (by decide) rfl rfl ?base ?eachop ?fin
    case base =>
      intro t ht
      iterate 38 (rcases t with _ | t; · rfl)
      rcases t with _ | t; · exact absurd rfl (ht 0 _ rfl)
      rcases t with _ | t; · exact absurd rfl (ht 1 _ rfl)
      rcases t with _ | t; · exact absurd rfl (ht 2 _ rfl)
      rcases t with _ | t; · exact absurd rfl (ht 3 _ rfl)
      rcases t with _ | t; · exact absurd rfl (ht 4 _ rfl)
      rcases t with _ | t; · exact absurd rfl (ht 5 _ rfl)
      rcases t with _ | t; · exact absurd rfl (ht 6 _ rfl)
      rcases t with _ | t; · exact absurd rfl (ht 7 _ rfl)
      rcases t with _ | t; · exact absurd rfl (ht 8 _ rfl)
      rcases t with _ | t; · exact absurd rfl (ht 9 _ rfl)
      rcases t with _ | t; · exact absurd rfl (ht 10 _ rfl)
      rcases t with _ | t; · exact absurd rfl (ht 11 _ rfl)
      rcases t with _ | t; · exact absurd rfl (ht 12 _ rfl)
      rcases t with _ | t; · exact absurd rfl (ht 13 _ rfl)
      rfl
    case eachop =>
      have g0 : ∀ s, s < 3 → (([W.drew, W.drew.alloc (.cells #[.int .i64 (n : Int), .int .i64 (j : Int), .int .i64 c', .int .i64 0, .int .i64 0] 52), w9, w9.setCell ⟨w3.heap.size, 1, none⟩ v1] : List World).getD s W).cell? ⟨w3.heap.size, 1, none⟩ = some v ∧ (([W.drew, W.drew.alloc (.cells #[.int .i64 (n : Int), .int .i64 (j : Int), .int .i64 c', .int .i64 0, .int .i64 0] 52), w9, w9.setCell ⟨w3.heap.size, 1, none⟩ v1] : List World).getD s W).cell? ⟨w3.heap.size + 1, 0, none⟩ = some (.int .i64 (n : Int)) ∧ (([W.drew, W.drew.alloc (.cells #[.int .i64 (n : Int), .int .i64 (j : Int), .int .i64 c', .int .i64 0, .int .i64 0] 52), w9, w9.setCell ⟨w3.heap.size, 1, none⟩ v1] : List World).getD s W).cell? ⟨w.heap.size, 1, none⟩ = some (.slice (some ⟨g, o, none⟩) n c) ∧ (([W.drew, W.drew.alloc (.cells #[.int .i64 (n : Int), .int .i64 (j : Int), .int .i64 c', .int .i64 0, .int .i64 0] 52), w9, w9.setCell ⟨w3.heap.size, 1, none⟩ v1] : List World).getD s W).cell? ⟨g, o + j * 5 + 2, none⟩ = some (.int .i64 c') := by
        intro s hs
        rcases s with _ | _ | _ | s
        · exact ⟨o1, hnm, hbw, d2⟩
        · exact ⟨cell_in (((Past.refl W).drew).alloc _) o1, cell_in (((Past.refl W).drew).alloc _) hnm, cell_in (((Past.refl W).drew).alloc _) hbw, cell_in (((Past.refl W).drew).alloc _) d2⟩
        · exact ⟨far _ _ (.inr (by simp)) o1, far _ _ (.inr (by simp)) hnm, far _ _ (.inl hlw) hbw, far _ _ (.inl (Nat.lt_of_lt_of_le hgl hs02)) d2⟩
        · omega
      generalize hWS : ([W.drew, W.drew.alloc (.cells #[.int .i64 (n : Int), .int .i64 (j : Int), .int .i64 c', .int .i64 0, .int .i64 0] 52), w9, w9.setCell ⟨w3.heap.size, 1, none⟩ v1] : List World) = wl at g0 ⊢
      have q0 : ∀ s, s < 3 → (wl.getD s W).cell? ⟨w3.heap.size, 1, none⟩ = some v := fun s h => (g0 s h).1
      have q1 : ∀ s, s < 3 → (wl.getD s W).cell? ⟨w3.heap.size + 1, 0, none⟩ = some (.int .i64 (n : Int)) := fun s h => (g0 s h).2.1
      have q2 : ∀ s, s < 3 → (wl.getD s W).cell? ⟨w.heap.size, 1, none⟩ = some (.slice (some ⟨g, o, none⟩) n c) := fun s h => (g0 s h).2.2.1
      have q3 : ∀ s, s < 3 → (wl.getD s W).cell? ⟨g, o + j * 5 + 2, none⟩ = some (.int .i64 c') := fun s h => (g0 s h).2.2.2
      have j0 : (0 : Int) ≤ (j : Int) := by omega
      have j1 : (j : Int) < (n : Int) := by omega
      refine ⟨?p0, ?p1, ?p2, ?p3, ?p4, ?p5, ?p6, ?p7, ?p8, ?p9, ?p10, ?p11, ?p12, ?p13, ?p14, trivial⟩
      case p11 => refine opAt_writer 0 (by decide) rfl (.inl ?_); subst hWS; go_simp
      case p12 =>
        refine opAt_writer 1 (by decide) rfl (.inl ?_)
        subst hWS
        unfold execOp
        simp only [resolve, invoke, builtin, Sem.run_bind, Sem.run_pure, Result.andThen_ok, List.map_toArray, List.map_cons, List.map_nil]
        refine Eq.trans (congrArg (fun r => Result.andThen r _) hr) ?_
        rfl
      case p14 => refine opAt_writer 2 (by decide) rfl (.inr ⟨rfl, ?_⟩); subst hWS hV1; go_simp
      all_goals refine opAt_quiet (by decide) fun s hs => .inl ?_
      all_goals have hs : s < 3 := hs
      all_goals have q0 := q0 s hs
      all_goals have q1 := q1 s hs
      all_goals have q2 := q2 s hs
      all_goals have q3 := q3 s hs
      all_goals clear hWS g0 far x9 z9 hI9 hkf hblk hbel hr
      all_goals generalize wl.getD s W = ww at *
      all_goals go_simp
    case fin =>
      exact ⟨by rw [hs5]; exact hkf, ⟨hbel, hblk _ (.inr (by omega)), hblk _ (.inr (by omega))⟩, _, by rw [nums_snoc, HN.out]; exact hI9⟩
  case done =>
    rintro Dd ys W hD hys ⟨v', hI⟩ hDd
    have hL : lineL xs ts ++ exP xs n (nums ys) = turnArcs xs ts s := by
      rw [turnArcs, hys, ← exP_all (s := s) (N := xs.length) xs.length (Nat.le_refl _), HX.out]
    rw [hL] at hI
    clear hL
    have hM18 : 1 ≤ M ∧ M ≤ 8 := by omega
    have hN := (turnsB_all HT.out).1
    have hTB := (turnsB_all HT.out).2.2.1
    have htl := turnArcs_len xs ts s (by rw [HX.out]; exact h16)
    have hlen : (turnArcs xs ts s).length ≤ 400 := by omega
    obtain ⟨A3, c3, rfl, hx9, _⟩ := (show ResA W w2.heap.size v' (turnArcs xs ts s) from hI.own).form
    obtain ⟨K3, hK3⟩ : ∃ K3, K3 = (turnArcs xs ts s).length := ⟨_, rfl⟩
    have o0 := hI.o0
    have o1 := hI.o1
    have hnm := hI.num
    rw [← hK3] at o1 hlen
    have b0 := cell_in hI.past B0.out
    have b1 := cell_in hI.past B1.out
    have hpA : Past W (W.alloc (.cells #[.int .i64 99999] 3)) := (Past.refl W).alloc _
    have hbs := hI.base
    have hDl : Dd < W.heap.size := (Array.getElem?_eq_some_iff.1 hDd).1
    have hpW := hI.past
    have b0A := fun (o : Obj) => cell_in ((Past.refl W).alloc o) b0
    have b1A := fun (o : Obj) => cell_in ((Past.refl W).alloc o) b1
    clear hI hC hT0
    gi_wp2_with fail
    refine ⟨trivial, ?_⟩
    refine (callsIn_wide.2 (repeatI_any W.heap.size M 99999 _ (by omega) (by go_simp))).mono ?_
    rintro e w6 ⟨rfl, hrow6, hb6⟩
    clear b0A b1A
    have hp6 : Past W w6 := hpA.trans hb6
    have hs6 := hb6.size
    simp only [World.size_alloc] at hrow6 hs6 ⊢
    have hrow6 := RowI.of_rep hrow6
    have o0 := cell_in hp6 o0
    have o1 := cell_in hp6 o1
    have hnm := cell_in hp6 hnm
    have b0 := cell_in hp6 b0
    have b1 := cell_in hp6 b1
    have hx9 := hx9.below hp6
    have hK := Lib.hid hK3.symm
    have e1 : ((n + 1 : Nat) : Int) = (n : Int) + 1 := by omega
    have i0n : (0 : Int) ≤ (n : Int) := by omega
    have i1n : (n : Int) ≤ (n : Int) + 1 := by omega
    have hin : ArcsIn ((n + 1 : Nat) : Int) (turnArcs xs ts s) := by have := turnArcs_in (ts := ts) s hN hTB; rwa [HX.out] at this
    have cL := Lib.hid (fun (q : PastOf w6) => lengths_any (n + 1) n A3 K3 c3 (turnArcs xs ts s) q.W hlen hK.out (hx9.below q.h) hin (turnArcs_ne s hN) (by omega) (by omega) (by omega))
    rw [e1] at cL
    clear hpA hb6 hK3
    gi_wp2_with fail
    simp only [wpIn_wide] at *
    go_region_held3 (fun w' => w'.cell? ⟨w3.heap.size, 0, none⟩ = some (.int .i64 ((n : Int) + 1)) ∧ w'.cell? ⟨w3.heap.size, 1, none⟩ = some (.slice A3 K3 c3) ∧ w'.cell? ⟨w3.heap.size + 1, 0, none⟩ = some (.int .i64 (n : Int))) (go_keep)
      (first
        | (go_at_call 66; (with_reducible refine (cL.out ⟨w6.drew, (Past.refl w6).drew⟩).mono ?_); rintro e w7 ⟨g, L, rfl, hrow, hLl, hlabs, hopen, hb7⟩; have o0 := cell_in hb7 o0; have o1 := cell_in hb7 o1; have hnm := cell_in hb7 hnm))
    have hp67 : Past w6 w7 := (Past.refl w6).drew.trans hb7
    have hg6 : w6.heap.size ≤ g := ((show w7.ownsRow w6.drew.heap.size 88 2 (.slice (some ⟨g, 0, none⟩) (n + 1) (n + 1)) L.length (cellsLen L) from hrow).lt g rfl).1
    have hnear := hlabs.near hin (by omega) (by omega) hopen
    obtain ⟨ds, hds⟩ : ∃ ds, ds = (L.map LenD.x0).take n := ⟨_, rfl⟩
    have hfin : (minTo xs ds (List.replicate M 99999) n).set s.toNat 0 = tallL M xs ts s := by
      have h := tall_of_near (s := s) HT.out rfl (by omega)
      rw [HX.out, ← hnear, ← hds] at h
      exact h
    have hdl : ds.length = n := by rw [hds, List.length_take, List.length_map, hLl]; omega
    have HG := Lib.hid (fun j a (hj : L[j]? = some a) => hrow.get hLl hj)
    have HDS := Lib.hid hds
    have HFIN := Lib.hid hfin
    have hrow7 := hrow6.below hp67
    have hx7 := ((hx.below hp2).below hpW).below (hp6.trans hp67)
    have hpw7 : Past w w7 := (hp2.trans hpW).trans (hp6.trans hp67)
    have hdd7 : w7.heap[Dd]? = some (.deferred (some [])) := ((hp6.trans hp67).block Dd hDl).trans hDd
    have b1 := cell_in hp67 b1
    have hww : w.heap.size ≤ W.heap.size := (hp2.trans hpW).size
    have hin2 := arcsIn_net hN
    have hs7 := hp67.size
    have hs6' : W.heap.size + 1 < w6.heap.size := hrow6.1.lt
    clear hlabs hopen hds hfin hnear hrow cL hin o0 o1 hnm hx9 hb7
    go_wp2
    go_loopw [62] (fun i wr => ∃ j : Nat, j ≤ n ∧ i = .int .i64 j ∧ RowI wr (W.heap.size + 1) (minTo xs ds (List.replicate M 99999) j) ∧ w7.grownBy wr (some (W.heap.size + 1))) (fun i _ => n - (intOf i).toNat)
    case atStart => exact ⟨0, by omega, rfl, hrow7, grown_refl _ _⟩
    case round =>
      obtain ⟨j, hj, rfl, hrw, hg⟩ := hrel
      have b1 := cell_far hg b1 (by show w.heap.size ≠ W.heap.size + 1; omega)
      by_cases hlt : j < n
      · obtain ⟨⟨f, t, c', l', d'⟩, ha⟩ : ∃ a, xs[j]? = some a := ⟨_, List.getElem?_eq_getElem (by have := HX.out; omega)⟩
        obtain ⟨⟨x0, x1⟩, hL⟩ : ∃ a, L[j]? = some a := ⟨_, List.getElem?_eq_getElem (by omega)⟩
        obtain ⟨ga, oa, rfl, a0, a1, a2, a3, a4⟩ := hx7 j _ ha
        have hgl : ga < w.heap.size := by
          obtain ⟨g3, o3, e3, h3, _⟩ := hx j _ ha
          injection e3 with e3
          injection e3 with e4 e5
          subst e4
          exact lt_of_cell h3
        have a1 := cell_far hg a1 (by show ga ≠ W.heap.size + 1; omega)
        obtain ⟨c0, c1⟩ := HG.out j _ hL
        have c0 := cell_far hg c0 (by show g ≠ W.heap.size + 1; omega)
        have c1 := cell_far hg c1 (by show g ≠ W.heap.size + 1; omega)
        have hb := hin2 _ (List.mem_of_getElem? ha)
        simp only at hb a1 c0 c1
        have hml : (minTo xs ds (List.replicate M 99999) j).length = M := by rw [minTo_length, List.length_replicate]
        have hat : at_ ds (j : Int) = x0 := by rw [HDS.out]; unfold at_; simp [hL, hlt]
        have hnx := minTo_next (d := ds) (o := List.replicate M 99999) ha
        rw [hat] at hnx
        simp only at hnx
        obtain ⟨D, hD⟩ : ∃ D, D = minTo xs ds (List.replicate M 99999) j := ⟨_, rfl⟩
        rw [← hD] at hrw hml hnx
        have dt := hrw.at_ (v := t) (by omega) (by omega)
        obtain ⟨q, hq⟩ : ∃ q, q = at_ D t := ⟨_, rfl⟩
        rw [← hq] at dt hnx
        have htl : t.toNat < D.length := by omega
        have z1 := hrw.1.frozen t.toNat
        have HNX := Lib.hid hnx
        have i0 : (0 : Int) ≤ (j : Int) := by omega
        have i1 : (j : Int) < (n : Int) := by omega
        have t0 : (0 : Int) ≤ t := by omega
        have t1 : t < (M : Int) := by omega
        have b1A := fun (o : Obj) => cell_in ((Past.refl wr).alloc o) b1
        have a1A := fun (o : Obj) => cell_in ((Past.refl wr).alloc o) a1
        obtain ⟨W2, hW2⟩ : ∃ W2, W2 = wr.alloc (.cells #[.int .i64 x0, .int .i64 x1] 88) := ⟨_, rfl⟩
        have hrow2 : RowI W2.drew (W.heap.size + 1) D := by rw [hW2]; exact hrw.alloc _
        have dt2 : W2.cell? ⟨W.heap.size + 1, t.toNat, none⟩ = some (.int .i64 q) := by rw [hW2]; exact cell_in ((Past.refl wr).alloc _) dt
        have x2 : W2.cell? ⟨wr.heap.size, 0, none⟩ = some (.int .i64 x0) := by rw [hW2]; go_simp
        have z2 : W2.frozen? ⟨W.heap.size + 1, t.toNat, none⟩ = false := hrow2.1.frozen t.toNat
        have hset2 := hrow2.set t.toNat (min q x0) htl
        have hg2 : w7.grownBy (W2.drew.setCell ⟨W.heap.size + 1, t.toNat, none⟩ (.int .i64 (min q x0))) (some (W.heap.size + 1)) := by rw [hW2]; exact grown_set (grown_trans hg (grown_of_below (((Past.refl wr).alloc _).drew) _)) _ _
        have HSET := Lib.hid hset2
        have HG2 := Lib.hid hg2
        have HW2 := Lib.hid hW2
        clear ha hL hnx hat hD hq a0 a2 a3 a4 hb hset2 hg2 hrow2 hW2 dt z1
        go_wp2_with fail
        rw [← HW2.out]
        clear b1A a1A
        go_still_tail 10, (by kernel_rfl)
        change wpList _ _ _ _ _ W2.drew
        go_wp2
        go_roundw
        case rel => exact ⟨j + 1, by omega, by go_num, by rw [HNX.out]; exact HSET.out, HG2.out⟩
        case measure => simp [intOf]; omega
      · obtain rfl : j = n := by omega
        have hml : (minTo xs ds (List.replicate M 99999) j).length = M := by rw [minTo_length, List.length_replicate]
        have dt := hrw.at_ (v := s) (by omega) (by omega)
        have z1 := hrw.1.frozen s.toNat
        have t0 : (0 : Int) ≤ s := by omega
        have t1 : s < (M : Int) := by omega
        have hset := hrw.set s.toNat 0 (by omega)
        rw [HFIN.out] at hset
        have HSET := Lib.hid hset
        have hfin2 : Past w (wr.setCell ⟨W.heap.size + 1, s.toNat, none⟩ (.int .i64 0)) := Below.grown hpw7 (grown_set hg _ _) hpw7.size (fun r e => by injection e with e; omega)
        have hdd : (wr.setCell ⟨W.heap.size + 1, s.toNat, none⟩ (.int .i64 0)).heap[Dd]? = some (.deferred (some [])) := ((grown_set hg s.toNat (.int .i64 0)).block Dd (Array.getElem?_eq_some_iff.1 hdd7).1 (by intro e; injection e; omega)).trans hdd7
        clear hset
        go_wp2
        refine leaves_marks [Dd] _ (by simp) (fun r hr => by simp at hr; subst hr; exact hdd) (fun W' hc => ⟨.slice (some ⟨W.heap.size + 1, 0, none⟩) M M, by simp [results, Try.results20, go_sem], ⟨_, rfl, ?_, hfin2.belowTrans (hc.below hfin2.size (fun x hx hr => by simp at hr; omega))⟩⟩)
        have h1 := HSET.out.res (n := M) (lo := w.heap.size) (tallL_length M xs ts s) (by omega) (by omega)
        rw [tallI, HF.out, if_pos rfl, Int.toNat_natCast]
        exact hc.own h1 (fun x e hx => by
          simp at hx
          subst hx
          obtain ⟨cs, hcs⟩ := cells_of_own h1 e
          rw [hcs] at hdd
          cases hdd)
  case stop =>
    rintro D c pre W _ _ h _
    exact h.elim

theorem implTurnAll_any (m : Int) (A : Option Addr) (n c : Nat) (xs : List ArcD) (B : Option Addr) (l cb : Nat) (ts : List TurnD) (s : Int) (w : World) (hn : n ≤ 1048576) (hnx : xs.length = n) (hx : ArcsAt w A xs) (hl : l ≤ 1048576) (hlt : ts.length = l) (ht : TurnsAt w B ts) :
    Calls Try.prog 20 #[.agg #[.int .i64 m, .slice A n c], .slice B l cb, .int .i64 s] w (Gives w (tallI m xs ts s)) :=
  (callsIn_wide (n := 4)).1 (tall_in m A n c xs B l cb ts s w hn hnx hx hl hlt ht)

end Go.Proofs.Ytaojognjkiifmaa

namespace Go.Proofs.Ytaojognjkiifmaa
open Go.RowKit Go.Maps

set_option maxRecDepth 100000 in
set_option maxHeartbeats 2000000 in
theorem implTurnWalk_any (m : Int) (A : Option Addr) (n c : Nat) (xs : List ArcD) (B : Option Addr) (l cb : Nat) (ts : List TurnD) (E : Option Addr) (r ce : Nat) (ys : List Int) (w : World) (hn : n ≤ 1048576) (hnx : xs.length = n) (hx : ArcsAt w A xs) (hl : l ≤ 1048576) (hlt : ts.length = l) (ht : TurnsAt w B ts) (hr : r ≤ 1048576) (hry : ys.length = r) (hy : IntsAt w E ys) :
    Calls Try.prog 32 #[.agg #[.int .i64 m, .slice A n c], .slice B l cb, .slice E r ce] w fun e w' => e = .returned (.int .i64 (twalkI m xs ts ys)) ∧ Below w.heap.size w w' := by
  have HX := Lib.hid hnx
  have HL := Lib.hid hlt
  have HR := Lib.hid hry
  clear hnx hlt hry
  have hb0 : Past w (w.alloc (.cells #[.int .i64 m, .slice A n c] 32)) := (Past.refl _).alloc _
  go_enter Try.func32, Try.ntmps32
  go_wp2_with fail
  refine (implTurnsOk_any m A n c xs B l cb ts _ hn HX.out (hx.below hb0) hl HL.out (ht.below hb0)).mono ?_
  rintro e w1 ⟨rfl, hb1⟩
  have b0 := cell_in (p := ⟨w.heap.size, 0, none⟩) (v := .int .i64 m) hb1 (by go_simp)
  have b1 := cell_in (p := ⟨w.heap.size, 1, none⟩) (v := .slice A n c) hb1 (by go_simp)
  have hp1 := hb0.trans hb1
  clear hb0 hb1
  cases hT : turnsB m xs ts with
  | false =>
    have HV : Hid (twalkI m xs ts ys = -1) := twalkI_turns hT
    clear hT
    go_wp2
    go_ret
    exact ⟨ret_int HV.out.symm, hp1⟩
  | true =>
    have HT := Lib.hid hT
    clear hT
    go_wp2_with fail
    refine (implWalkOk_any m A E n c r ce xs ys _ hn hr HX.out HR.out (hx.below hp1) (hy.below hp1)).mono ?_
    rintro e w2 ⟨rfl, hb2⟩
    have b0 := cell_in hb2 b0
    have b1 := cell_in hb2 b1
    have hp2 := hp1.trans hb2
    clear hb2 hp1
    cases hO : okB m xs ys with
    | false =>
      have HV : Hid (twalkI m xs ts ys = -1) := twalkI_walk hO
      clear hO
      go_wp2
      go_ret
      exact ⟨ret_int HV.out.symm, hp2⟩
    | true =>
      have HO := Lib.hid hO
      have h20 := ok_len hO
      rw [HR.out] at h20
      clear hO
      have h16 := ok_num HO.out
      go_wp2_with fail
      refine (turnCosts_any B l cb ts _ hl HL.out (ht.below hp2) (fun t hm => turn_wf h16 (List.all_eq_true.1 (turnsB_all HT.out).2.2.1 t hm))).mono ?_
      clear h16
      rintro e w3 ⟨P, D, rfl, hown, hM, hb3⟩
      have b0 := cell_in hb3 b0
      have b1 := cell_in hb3 b1
      have hp3 := hp2.trans hb3
      clear hb3 hp2
      have HD := Lib.hid hM.vals
      clear hM
      go_wp2_with fail
      refine (walkCost_any m A E n c r ce xs ys _ HX.out HR.out (hx.below hp3) (hy.below hp3) HO.out).mono ?_
      rintro e w4 ⟨rfl, hb4⟩
      have hown := hown.kept (grown_of_below hb4 none) (by simp)
      have hp4 := hp3.trans hb4
      have hy4 := hy.below hp4
      have hs := sumTo_bd HO.out r (by rw [HR.out]; exact Nat.le_refl _)
      obtain ⟨S, hS⟩ : ∃ S, S = sumTo xs ys r := ⟨_, rfl⟩
      rw [← hS] at hs ⊢
      have HS := Lib.hid hS
      clear hS hp3 hb4 ht hy hx b0 b1
      go_wp2
      by_cases hr0 : r = 0
      · subst hr0
        have HV : Hid (twalkI m xs ts ys = S) := by
          rw [Hid, twalkI_ok HT.out HO.out, HR.out, HS.out]
          simp [turnBad, turnSum]
        go_loopw [8, 9] (fun s i wr => i = .int .i64 1 ∧ s = .int .i64 S ∧ Past w4 wr) (fun _ _ _ => 0)
        case atStart => exact ⟨rfl, rfl, Past.refl _⟩
        case round =>
          obtain ⟨rfl, rfl, hb⟩ := hrel
          go_wp2
          go_ret
          exact ⟨ret_int HV.out.symm, hp4.trans hb⟩
      go_loopw [8, 9] (fun s i wr => ∃ k : Nat, k + 1 ≤ r ∧ i = .int .i64 ((k : Int) + 1) ∧ s = .int .i64 (S + turnSum ts ys k) ∧ Past w4 wr ∧ turnBad ts ys k = false) (fun _ i _ => r - (intOf i).toNat)
      case atStart => exact ⟨0, by omega, rfl, by simp [turnSum], Past.refl _, rfl⟩
      case round =>
        obtain ⟨k, hk, rfl, rfl, hb, hno⟩ := hrel
        have HN := Lib.hid hno
        clear hno
        have hsum := turnSum_bd (turnsB_all HT.out).2.2.1 ys k
        have hown := hown.kept (grown_of_below hb none) (by simp)
        by_cases hkr : k + 1 < r
        · obtain ⟨y, ha⟩ : ∃ a, ys[k]? = some a := ⟨_, List.getElem?_eq_getElem (by have := HR.out; omega)⟩
          obtain ⟨y', ha'⟩ : ∃ a, ys[k + 1]? = some a := ⟨_, List.getElem?_eq_getElem (by have := HR.out; omega)⟩
          obtain ⟨g, o, rfl, c0⟩ := (hy4.below hb) k _ ha
          obtain ⟨g', o', eg, c1⟩ := (hy4.below hb) (k + 1) _ ha'
          injection eg with eg
          injection eg with eg1 eg2
          subst eg1 eg2
          have HC : Hid (costF ts (numOf ys k) (numOf ys (k + 1)) = costF ts y y') := by rw [Hid, numOf_at ha, numOf_at ha']
          have hcb := costF_bd (turnsB_all HT.out).2.2.1 y y'
          obtain ⟨j, a1, e5, hj, _⟩ := ok_arc HO.out ha
          obtain ⟨j', a2, e6, hj', _⟩ := ok_arc HO.out ha'
          have hj16 : j < xs.length := (List.getElem?_eq_some_iff.1 hj).1
          have hj16' : j' < xs.length := (List.getElem?_eq_some_iff.1 hj').1
          have h16 := ok_num HO.out
          obtain ⟨K, hkey⟩ := pair_key y y' (WalkArith.wf_i64 (by omega)) (WalkArith.wf_i64 (by omega))
          have hlook : ∀ q, ∃ c, (Instr.lookup 100 (.map (some P)) (.agg #[.int .i64 y, .int .i64 y']) false).run Try.prog (wr.drewN q) = .ok (.int .i64 c) (wr.drewN q) ∧ D.atKey K (.lit (.int .i64 0)) = .lit (.int .i64 c) := fun q => by
            obtain ⟨c, h1, h2, _⟩ := World.ownsMap.lookup_int (w := wr.drewN q) (q := .i64) (t := 100) (e := 3) hown pairLaw Try.underlying100 Try.underlying3 (by kernel_rfl) hkey
            exact ⟨c, h1, h2⟩
          have hrun : ∀ q, (Instr.lookup 100 (.map (some P)) (.agg #[.int .i64 y, .int .i64 y']) false).run Try.prog (wr.drewN q) = .ok (.int .i64 (costF ts y y')) (wr.drewN q) := fun q => by
            obtain ⟨c, h1, h2⟩ := hlook q
            rw [HD.out y y' K hkey, ← HL.out, costLT_all ts y y' (turnsB_all HT.out).2.2.2] at h2
            have h3 : costF ts y y' = c := by simpa using h2
            rw [h1, h3]
          clear hlook hj hj' e5 e6 hj16 hj16' h16 hkey
          obtain ⟨C, hC⟩ : ∃ C, C = costF ts y y' := ⟨_, rfl⟩
          rw [← hC] at hcb HC
          simp only [← hC] at hrun
          clear ha ha' hC
          have i0 : (0 : Int) ≤ (k : Int) := by omega
          have i1 : (k : Int) < (r : Int) := by omega
          have i2 : (0 : Int) ≤ (k : Int) + 1 := by omega
          have i3 : (k : Int) + 1 < (r : Int) := by omega
          have e1 : ((k : Int) + 1).toNat = k + 1 := by omega
          have e2 : IntKind.i64.wrap ((k : Int) + 1 - 1) = (k : Int) := by rw [IntWalk.i64_in _ (by omega)]; omega
          go_wp2_with fail
          go_quiet (fail)
          clear hrun e1 e2
          by_cases hneg : C = -1
          · have q1 : (C == -1) = true := by simpa using hneg
            have HV : Hid (twalkI m xs ts ys = -1) := twalkI_bad HT.out HO.out (by rw [HR.out]; exact hkr) (by rw [HC.out]; omega)
            clear hneg
            go_wp2
            go_ret
            exact ⟨ret_int HV.out.symm, hp4.trans (hb.drewN _)⟩
          · have q1 : (C == -1) = false := by simpa using hneg
            have HM : Hid (turnBad ts ys (k + 1) = false) := by rw [Hid, turnBad, HN.out, HC.out]; simp; omega
            have HU : Hid (turnSum ts ys (k + 1) = turnSum ts ys k + C) := by rw [Hid, turnSum, HC.out]
            have hneg' : 0 ≤ C := by omega
            clear hneg
            go_wp2
            go_roundw
            case rel => exact ⟨k + 1, by omega, by go_num, by rw [HU.out]; go_num, hb.drewN _, HM.out⟩
            case measure => simp [intOf]; omega
        · obtain rfl : r = k + 1 := by omega
          have HV : Hid (twalkI m xs ts ys = S + turnSum ts ys k) := by
            rw [Hid, twalkI_ok HT.out HO.out, HR.out, HS.out]
            simp only [Nat.add_sub_cancel]
            rw [HN.out]; simp
          have g1 : ¬ (k : Int) + 1 < ((k + 1 : Nat) : Int) := by omega
          go_wp2
          go_ret
          exact ⟨ret_int HV.out.symm, hp4.trans hb⟩

end Go.Proofs.Ytaojognjkiifmaa

namespace Go.Proofs.Ytaojognjkiifmaa

section
variable {m : Int} {xs : List ArcD} {ts : List TurnD} {s : Int}
theorem step_arc {ys : List Int} {k : Nat} (h : stepB xs ys k = true) : 0 ≤ numOf ys k ∧ xs[(numOf ys k).toNat]? = some (arcOf xs (numOf ys k)) := by
  simp only [stepB, Bool.and_eq_true, inB_iff] at h
  have hl : (numOf ys k).toNat < xs.length := by omega
  refine ⟨h.1.1, ?_⟩
  unfold arcOf
  rw [List.getD_eq_getElem?_getD, List.getElem?_eq_getElem hl]
  rfl
/-- A walk is a walk with its turns, if none is forbidden. -/
theorem walk_tw {ys : List Int} (ho : okB m xs ys = true) : ∀ k, k < ys.length → turnBad ts ys k = false → TW xs ts (arcOf xs (numOf ys 0)).f (numOf ys k).toNat (sumTo xs ys (k + 1) + turnSum ts ys k)
  | 0, hk, _ => by
    have hst := ((walkB_iff _ _).1 ((okB_iff _ _ _).1 ho).2).2 0 hk
    obtain ⟨h0, ha⟩ := step_arc hst
    have := TW.one (ts := ts) (s := (arcOf xs (numOf ys 0)).f) ha rfl
    simpa [sumTo, turnSum] using this
  | k + 1, hk, hb => by
    have hst := ((walkB_iff _ _).1 ((okB_iff _ _ _).1 ho).2).2 (k + 1) hk
    have hst' := ((walkB_iff _ _).1 ((okB_iff _ _ _).1 ho).2).2 k (by omega)
    obtain ⟨h0, ha⟩ := step_arc hst
    obtain ⟨h0', ha'⟩ := step_arc hst'
    simp only [turnBad, Bool.or_eq_false_iff, decide_eq_false_iff_not] at hb
    have ih := walk_tw ho k (by omega) hb.1
    simp only [stepB, Bool.and_eq_true, Nat.add_sub_cancel, Bool.or_eq_true, beq_iff_eq] at hst
    have hlink : (arcOf xs (numOf ys k)).t = (arcOf xs (numOf ys (k + 1))).f := by
      rcases hst.2 with h | h
      · omega
      · exact h.symm
    have e1 : (((numOf ys k).toNat : Nat) : Int) = numOf ys k := by omega
    have e2 : (((numOf ys (k + 1)).toNat : Nat) : Int) = numOf ys (k + 1) := by omega
    have h := TW.more ih ha' ha hlink (by rw [e1, e2]; omega)
    rw [e1, e2] at h
    have e3 : sumTo xs ys (k + 1 + 1) + turnSum ts ys (k + 1) = sumTo xs ys (k + 1) + turnSum ts ys k + (costF ts (numOf ys k) (numOf ys (k + 1)) + (arcOf xs (numOf ys (k + 1))).c) := by
      simp only [sumTo, turnSum]; omega
    rw [e3]
    exact h

/-- No walk with its turns costs less than what is told of its end. -/
theorem best_walk {M : Nat} {ys : List Int} (hc : 0 ≤ twalkI (M : Int) xs ts ys) (hy : ys ≠ []) : ∃ a b, 0 ≤ numOf ys 0 ∧ xs[(numOf ys 0).toNat]? = some a ∧ 0 ≤ numOf ys (ys.length - 1) ∧ xs[(numOf ys (ys.length - 1)).toNat]? = some b ∧ (0 ≤ a.f ∧ a.f < M) ∧ (0 ≤ b.t ∧ b.t < M) ∧ turnsB (M : Int) xs ts = true ∧ okB (M : Int) xs ys = true ∧ at_ (tallL M xs ts a.f) b.t ≤ twalkI (M : Int) xs ts ys := by
  have hl : 0 < ys.length := List.length_pos_iff.2 hy
  cases hT : turnsB (M : Int) xs ts with
  | false => rw [twalkI_turns hT] at hc; omega
  | true =>
  cases hO : okB (M : Int) xs ys with
  | false => rw [twalkI_walk hO] at hc; omega
  | true =>
  rw [twalkI_ok hT hO] at hc ⊢
  cases hB : turnBad ts ys (ys.length - 1) with
  | true => rw [hB, if_pos rfl] at hc; omega
  | false =>
  rw [if_neg (by simp)]
  have hst := ((walkB_iff _ _).1 ((okB_iff _ _ _).1 hO).2).2
  obtain ⟨h0, ha⟩ := step_arc (hst 0 hl)
  obtain ⟨h1, hb⟩ := step_arc (hst (ys.length - 1) (by omega))
  have hx := arcsIn_net (turnsB_all hT).1
  have hxa := hx _ (List.mem_of_getElem? ha)
  have hxb := hx _ (List.mem_of_getElem? hb)
  have ht := walk_tw (ts := ts) hO (ys.length - 1) (by omega) hB
  have := (tall_le hT (by omega) hb ht).1
  rw [show ys.length - 1 + 1 = ys.length by omega] at this
  exact ⟨_, _, h0, ha, h1, hb, by omega, by omega, rfl, rfl, this⟩

theorem freeB_pair (ts : List TurnD) : ∀ k, k ≤ ts.length → (freeB ts k = true ↔ (ts.take k).Pairwise fun t u => sameT u.x0 u.x1 t = false)
  | 0, _ => by simp [freeB]
  | k + 1, hk => by
    have ih := freeB_pair ts k (by omega)
    obtain ⟨t, ht⟩ : ∃ t, ts[k]? = some t := ⟨_, List.getElem?_eq_getElem (show k < ts.length by omega)⟩
    rw [freeB_next ht, Bool.and_eq_true, ih, List.take_add_one, ht, Option.toList_some, List.pairwise_append]
    simp
theorem freeB_all (ts : List TurnD) : freeB ts ts.length = true ↔ ts.Pairwise fun t u => sameT u.x0 u.x1 t = false := by
  rw [freeB_pair ts _ (Nat.le_refl _), List.take_length]
theorem costF_mem (hf : freeB ts ts.length = true) {t : TurnD} (ht : t ∈ ts) {a b : Int} (e : sameT a b t = true) : costF ts a b = t.x2 := by
  obtain ⟨k, hk⟩ := List.getElem?_of_mem ht
  have hkl := (List.getElem?_eq_some_iff.1 hk).1
  have h1 := freeB_mono ts _ (k + 1) hkl hf
  rw [freeB_next hk, Bool.and_eq_true, Bool.not_eq_true'] at h1
  obtain ⟨e1, e2⟩ := sameT_iff.1 e
  subst e1 e2
  exact costF_first hk h1.2 e

/-- The turns that are forbidden. -/
def shutT (ts : List TurnD) : List TurnD := ts.filter fun t => decide (t.x2 < 0)
theorem shutT_hit {k : Nat} {t : TurnD} (h : ts[k]? = some t) (hc : t.x2 < 0) : shutT (ts.take (k + 1)) = shutT (ts.take k) ++ [t] := by
  rw [List.take_add_one, h]; simp [shutT, hc]
theorem shutT_miss {k : Nat} {t : TurnD} (h : ts[k]? = some t) (hc : ¬ t.x2 < 0) : shutT (ts.take (k + 1)) = shutT (ts.take k) := by
  rw [List.take_add_one, h]; simp [shutT]; omega
theorem shutT_len (ts : List TurnD) : (shutT ts).length ≤ ts.length := List.length_filter_le _ _
theorem shutT_ok (h : turnsB m xs ts = true) : turnsB m xs (shutT ts) = true := by
  obtain ⟨h1, h2, h3, h4⟩ := turnsB_all h
  simp only [turnsB, Bool.and_eq_true, decide_eq_true_eq]
  exact ⟨h1, Nat.le_trans (shutT_len ts) h2, List.all_eq_true.2 fun t ht => List.all_eq_true.1 h3 t (List.mem_filter.1 ht).1, (freeB_all _).2 (((freeB_all _).1 h4).filter _)⟩
theorem few_free (hf : freeB ts ts.length = true) {a b : Int} (h : 0 ≤ costF ts a b) : costF (shutT ts) a b = 0 := by
  unfold costF
  split
  · rename_i t ht
    have hm := List.mem_filter.1 (List.mem_of_find?_eq_some ht)
    have he := List.find?_some ht
    have := costF_mem hf hm.1 he
    have := hm.2
    simp at this
    omega
  · rfl
theorem few_shut (hf : freeB ts ts.length = true) {a b : Int} (h : costF ts a b < 0) : costF (shutT ts) a b < 0 := by
  have h' := h
  unfold costF at h'
  split at h'
  · rename_i t ht
    have hm : t ∈ shutT ts := List.mem_filter.2 ⟨List.mem_of_find?_eq_some ht, by simpa using h'⟩
    have e := costF_mem (ts := shutT ts) ((freeB_all _).2 (((freeB_all _).1 hf).filter _)) hm (List.find?_some ht)
    rw [e]
    exact h'
  · omega
theorem TW.few (hf : freeB ts ts.length = true) {j : Nat} {c : Int} (h : TW xs ts s j c) : ∃ c2, c2 ≤ c ∧ TW xs (shutT ts) s j c2 := by
  induction h with
  | one h1 h2 => exact ⟨_, Int.le_refl _, .one h1 h2⟩
  | more _ h1 h2 h3 h4 ih =>
    obtain ⟨c2, hc, w⟩ := ih
    have e := few_free hf h4
    exact ⟨_, by rw [e]; omega, .more w h1 h2 h3 (by rw [e]; omega)⟩
theorem TW.ofFew (hf : freeB ts ts.length = true) {j : Nat} {c : Int} (h : TW xs (shutT ts) s j c) : ∃ c2, TW xs ts s j c2 := by
  induction h with
  | one h1 h2 => exact ⟨_, .one h1 h2⟩
  | @more i k a b c _ h1 h2 h3 h4 ih =>
    obtain ⟨c2, w⟩ := ih
    refine ⟨_, .more w h1 h2 h3 ?_⟩
    by_cases h : 0 ≤ costF ts i k
    · exact h
    · have := few_shut hf (a := (i : Int)) (b := (k : Int)) (by omega)
      omega
/-- What turns cost shuts nothing. -/
theorem tall_few {M : Nat} (hT : turnsB (M : Int) xs ts = true) (hs : 0 ≤ s ∧ s < M) {v : Int} (hv : 0 ≤ v ∧ v < M) : at_ (tallL M xs (shutT ts) s) v ≤ at_ (tallL M xs ts s) v ∧ (at_ (tallL M xs (shutT ts) s) v < farI ↔ at_ (tallL M xs ts s) v < farI) := by
  have hF := shutT_ok hT
  have hf := (turnsB_all hT).2.2.2
  have b1 := tall_bound hT hs hv
  have b2 := tall_bound hF hs hv
  have h0 := tall_start hT hs
  have h0' := tall_start hF hs
  have key : at_ (tallL M xs ts s) v < farI → at_ (tallL M xs (shutT ts) s) v ≤ at_ (tallL M xs ts s) v := fun h => by
    rcases tall_is hT hs hv h with e | ⟨j, b, g1, g2, g3⟩
    · subst e; omega
    · obtain ⟨c2, hc, w⟩ := g3.few hf
      have := (tall_le hF hs g1 w).1
      rw [g2] at this
      omega
  have key2 : at_ (tallL M xs (shutT ts) s) v < farI → at_ (tallL M xs ts s) v < farI := fun h => by
    rcases tall_is hF hs hv h with e | ⟨j, b, g1, g2, g3⟩
    · subst e; rw [h0]; unfold farI; omega
    · obtain ⟨c2, w⟩ := g3.ofFew hf
      have := (tall_le hT hs g1 w).2
      rw [g2] at this
      exact this
  refine ⟨?_, key2, fun h => by have := key h; omega⟩
  by_cases h : at_ (tallL M xs ts s) v < farI
  · exact key h
  · omega
end

end Go.Proofs.Ytaojognjkiifmaa

namespace Go.Proofs.Ytaojognjkiifmaa
open Go.RowKit

theorem ArcsAt.turn {w : World} {g k i : Nat} {xs : List ArcD} {a b : ArcD} {z : Int} (h : ArcsAt w (some ⟨g, 0, none⟩) xs) (hk : xs[k]? = some a) (hi : i < 5) (hb : Arc5 (w.setCell ⟨g, k * 5 + i, none⟩ (.int .i64 z)) g (k * 5) b) :
    ArcsAt (w.setCell ⟨g, k * 5 + i, none⟩ (.int .i64 z)) (some ⟨g, 0, none⟩) (xs.set k b) := fun j x hx => by
  by_cases hj : j = k
  · subst hj
    have hlt := (List.getElem?_eq_some_iff.1 hk).1
    rw [List.getElem?_set_self hlt] at hx
    injection hx with hx
    subst hx
    exact ⟨g, 0, rfl, by rw [Nat.zero_add]; exact hb⟩
  · rw [List.getElem?_set_ne (Ne.symm hj)] at hx
    obtain ⟨g', o', e, h5⟩ := h j x hx
    injection e with e
    injection e with e1 e2
    subst e1 e2
    exact ⟨g, 0, rfl, h5.set _ _ (by omega)⟩

theorem Arc5.to {w : World} {g p : Nat} {a : ArcD} (h : Arc5 w g p a) (z : Int) : Arc5 (w.setCell ⟨g, p + 1, none⟩ (.int .i64 z)) g p ⟨a.f, z, a.c, a.l, a.d⟩ := by
  obtain ⟨c0, c1, c2, c3, c4⟩ := h
  exact ⟨(World.cell?_setCell_other _ _ _ _ (by intro e; injection e; omega)).trans c0, World.cell?_setCell_same _ _ _ c1, (World.cell?_setCell_other _ _ _ _ (by intro e; injection e; omega)).trans c2, (World.cell?_setCell_other _ _ _ _ (by intro e; injection e; omega)).trans c3, (World.cell?_setCell_other _ _ _ _ (by intro e; injection e; omega)).trans c4⟩
theorem Arc5.cost {w : World} {g p : Nat} {a : ArcD} (h : Arc5 w g p a) (z : Int) : Arc5 (w.setCell ⟨g, p + 2, none⟩ (.int .i64 z)) g p ⟨a.f, a.t, z, a.l, a.d⟩ := by
  obtain ⟨c0, c1, c2, c3, c4⟩ := h
  exact ⟨(World.cell?_setCell_other _ _ _ _ (by intro e; injection e; omega)).trans c0, (World.cell?_setCell_other _ _ _ _ (by intro e; injection e; omega)).trans c1, World.cell?_setCell_same _ _ _ c2, (World.cell?_setCell_other _ _ _ _ (by intro e; injection e; omega)).trans c3, (World.cell?_setCell_other _ _ _ _ (by intro e; injection e; omega)).trans c4⟩

/-- A net was drawn into new memory. -/
def AnyGives (w : World) (R lo : Nat) (A : Option Addr) (n c f : Nat) (e : Ending) (w' : World) : Prop :=
  ∃ (m : Int) (B : Option Addr) (k cap : Nat) (xs : List ArcD), e = .returned (.agg #[.int .i64 m, .slice B k cap]) ∧ xs.length = k ∧ k ≤ 13 ∧ ArcsAt w' B xs ∧ OwnAt w' w.heap.size B 52 5 k ∧ RdF w' R lo A n c f ∧ w.grownBy w' (some R)

/-- What is known of a net that is drawn and may be bent: NB its block, the result's block lies ready. -/
structure BentAt (w X : World) (R lo : Nat) (A : Option Addr) (n c f NB : Nat) (m : Int) (B : Option Addr) (k cap : Nat) (xs : List ArcD) : Prop where
  nodes : X.cell? ⟨NB, 0, none⟩ = some (.int .i64 m)
  slice : X.cell? ⟨NB, 1, none⟩ = some (.slice B k cap)
  row : RowN X NB 32 2
  out : RowN X w.heap.size 32 2
  len : xs.length = k
  arcs : ArcsAt X B xs
  own : OwnAt X (w.heap.size + 1) B 52 5 k
  rd : RdF X R lo A n c f
  gr : w.grownBy X (some R)
  far : blk B ≠ some NB
  ltN : w.heap.size < NB
  ltR : R < w.heap.size

theorem BentAt.step {w X Y : World} {R lo n c f f' NB k cap : Nat} {A B : Option Addr} {m : Int} {xs : List ArcD} (h : BentAt w X R lo A n c f NB m B k cap xs) (hg : X.grownBy Y (some R)) (hr : RdF Y R lo A n c f') : BentAt w Y R lo A n c f' NB m B k cap xs := by
  have h1 := h.ltN
  have h2 := h.ltR
  exact ⟨cell_far hg h.nodes (by simp only [ne_eq]; omega), cell_far hg h.slice (by simp only [ne_eq]; omega), h.row.young hg (by omega), h.out.young hg (by omega), h.len, h.arcs.grown hg (fun b e => by injection e with e; have := h.own.ne_blk (g := R) (by omega); rw [← e]; exact this), h.own.keep hg (fun b e => by injection e with e; exact .inl (by omega)), hr, grown_trans h.gr hg, h.far, h.ltN, h.ltR⟩
theorem BentAt.done {w X : World} {R lo n c f NB k cap : Nat} {A B : Option Addr} {m : Int} {xs : List ArcD} (h : BentAt w X R lo A n c f NB m B k cap xs) (hk : k ≤ 13) :
    AnyGives w R lo A n c f (.returned (.agg #[.int .i64 m, .slice B k cap])) ((X.setCell ⟨w.heap.size, 0, none⟩ (.int .i64 m)).setCell ⟨w.heap.size, 1, none⟩ (.slice B k cap)) := by
  have hne := h.own.ne_blk (g := w.heap.size) (by omega)
  have h2 := h.ltR
  have hlo : lo ≤ R := by obtain ⟨p, _, hh⟩ := h.rd; exact hh.lt
  exact ⟨m, B, k, cap, xs, rfl, h.len, hk, (h.arcs.far _ _ hne).far _ _ hne, ((h.own.lower (by omega)).far _ _).far _ _, (h.rd.far (grown_set (grown_refl _ _) _ _) (by omega) (by omega)).far (grown_set (grown_refl _ _) _ _) (by omega) (by omega), grown_far (grown_far h.gr (by simp) _) (by simp) _⟩

theorem keep2 {X : World} {g NB q : Nat} {u a b : Value} (hne : g ≠ NB) (h1 : X.cell? ⟨NB, 1, none⟩ = some a) (h2 : X.cell? ⟨g, q, none⟩ = some b) :
    (X.setCell ⟨g, q + 1, none⟩ u).cell? ⟨NB, 1, none⟩ = some a ∧ (X.setCell ⟨g, q + 1, none⟩ u).cell? ⟨g, q, none⟩ = some b :=
  ⟨(World.cell?_setCell_other _ _ _ _ (by intro e; injection e; omega)).trans h1, (World.cell?_setCell_other _ _ _ _ (by simp)).trans h2⟩

theorem ArcsAt.at0 {X : World} {g j : Nat} {xs : List ArcD} {a : ArcD} (h : ArcsAt X (some ⟨g, 0, none⟩) xs) (ha : xs[j]? = some a) : Arc5 X g (j * 5) a := by
  obtain ⟨g', o', e, h5⟩ := h j _ ha
  injection e with e
  injection e with e1 e2
  subst e1 e2
  rw [Nat.zero_add] at h5
  exact h5

theorem BentAt.turn {w X : World} {R lo n c f NB k cap g j i : Nat} {A : Option Addr} {m z : Int} {xs : List ArcD} {a b : ArcD} (h : BentAt w X R lo A n c f NB m (some ⟨g, 0, none⟩) k cap xs) (hgl : w.heap.size + 1 ≤ g) (ha : xs[j]? = some a) (hi : i < 5)
    (hb : Arc5 (X.setCell ⟨g, j * 5 + i, none⟩ (.int .i64 z)) g (j * 5) b) : BentAt w (X.setCell ⟨g, j * 5 + i, none⟩ (.int .i64 z)) R lo A n c f NB m (some ⟨g, 0, none⟩) k cap (xs.set j b) := by
  have h1 := h.ltN
  have h2 := h.ltR
  have hlo : lo ≤ R := by obtain ⟨p, _, hh⟩ := h.rd; exact hh.lt
  have hgN : g ≠ NB := fun e => h.far (by simp [blk, e])
  have hg : X.grownBy (X.setCell ⟨g, j * 5 + i, none⟩ (.int .i64 z)) (some g) := grown_set (grown_refl _ _) _ _
  exact ⟨cell_far hg h.nodes (Ne.symm hgN), cell_far hg h.slice (Ne.symm hgN), h.row.set _ _, h.out.set _ _, by rw [List.length_set]; exact h.len, h.arcs.turn ha hi hb, h.own.far _ _, h.rd.far hg (by omega) (by omega), grown_far h.gr (by simp only; omega) _, h.far, h.ltN, h.ltR⟩
theorem BentAt.node {w X : World} {R lo n c f NB k cap : Nat} {A B : Option Addr} {m z : Int} {xs : List ArcD} (h : BentAt w X R lo A n c f NB m B k cap xs) : BentAt w (X.setCell ⟨NB, 0, none⟩ (.int .i64 z)) R lo A n c f NB z B k cap xs := by
  have h1 := h.ltN
  have h2 := h.ltR
  have hlo : lo ≤ R := by obtain ⟨p, _, hh⟩ := h.rd; exact hh.lt
  exact ⟨World.cell?_setCell_same _ _ _ h.nodes, (World.cell?_setCell_other _ _ _ _ (by simp)).trans h.slice, h.row.set _ _, h.out.set _ _, h.len, h.arcs.far _ _ h.far, h.own.far _ _, h.rd.far (grown_set (grown_refl _ _) _ _) (by omega) (by omega), grown_far h.gr (by simp only; omega) _, h.far, h.ltN, h.ltR⟩

set_option maxRecDepth 100000 in
set_option maxHeartbeats 4000000 in
theorem l30AnyNet_any (R lo : Nat) (A : Option Addr) (n c f : Nat) (w : World) (h : RdF w R lo A n c (f + 83)) :
    Calls Try.prog 71 #[.pointer (some ⟨R, 0, none⟩)] w (AnyGives w R lo A n c f) := by
  have hRw := h.at_
  have hloR : lo ≤ R := by obtain ⟨p, _, hh⟩ := h; exact hh.lt
  go_enter Try.func71, Try.ntmps71
  go_wp2_with fail
  refine (l30Net_any R lo A n c (f + 3) _ (h.alloc _)).mono ?_
  rintro e w1 ⟨m, B, k, cap, xs, rfl, hxk, hk13, hm2, hm6, hxB, hoB, hr1, hg1⟩
  have hs1 : w.heap.size + 1 ≤ w1.heap.size := by have := hg1.size; simpa using this
  have hBent : BentAt w (w1.alloc (.cells #[.int .i64 m, .slice B k cap] 32)) R lo A n c (f + 3) w1.heap.size m B k cap xs := by
    have hp : Past w1 (w1.alloc (.cells #[.int .i64 m, .slice B k cap] 32)) := (Past.refl w1).alloc _
    have r0 : RowN w1 w.heap.size 32 2 := RowN.young ⟨_, heap_alloc_new w _, rfl⟩ hg1 (by omega)
    refine ⟨by go_simp, by go_simp, ⟨_, heap_alloc_new w1 _, rfl⟩, r0.keep (hp.block _ r0.lt), hxk, hxB.below hp, ?_, hr1.below hp, grown_trans (grown_trans (World.grownBy_alloc w _ _) hg1) (grown_of_below hp _), hoB.ne_new, by omega, hRw⟩
    have := hoB.keep (grown_of_below hp none) (fun b e => by cases e)
    simpa using this
  clear hxB hoB hr1 hg1 h
  obtain ⟨W, hW⟩ : ∃ W, W = w1.alloc (.cells #[.int .i64 m, .slice B k cap] 32) := ⟨_, rfl⟩
  rw [← hW] at hBent
  go_upto_region 2 with (fail)
  rw [← hW]
  clear hW
  have o0 := hBent.nodes
  have o1 := hBent.slice
  by_cases hk0 : k = 0
  · have hk0' : ¬ (0 : Int) < (k : Int) := by omega
    clear hk0
    obtain ⟨q0, c0⟩ := hBent.out.cell (i := 0) (by omega)
    obtain ⟨q1, c1⟩ := hBent.out.cell (i := 1) (by omega)
    have z0 := hBent.out.frozen 0
    have z1 := hBent.out.frozen 1
    have HB := Lib.hid (BentAt.done (hBent.step (grown_refl _ _) (hBent.rd.less (f' := f) (by omega))) hk13)
    go_wp2
    exact bodyPost_ret (v := .agg #[.int .i64 m, .slice B k cap]) (by simp [results, Try.results71, go_sem, c0, c1]) rfl HB.out
  have hk0' : (0 : Int) < (k : Int) := by omega
  go_wp2_with fail
  refine (pickF (f := f + 2) _ hBent.rd).mono ?_
  rintro e w3 ⟨k4, rfl, k40, k41, hr3, hg3⟩
  obtain ⟨j4, rfl⟩ : ∃ j : Nat, k4 = j := ⟨k4.toNat, by omega⟩
  have hj4 : j4 < k := by omega
  have hB3 := hBent.step hg3 hr3
  clear hBent hr3 hg3 o0 o1
  go_wp2_with fail
  refine (pickF (f := f + 1) _ hB3.rd).mono ?_
  rintro e w4 ⟨k5, rfl, k50, k51, hr4, hg4⟩
  have hB4 := hB3.step hg4 hr4
  clear hB3 hr4 hg4
  have o0 := hB4.nodes
  have o1 := hB4.slice
  obtain ⟨⟨fa, ta, ca, la, da⟩, ha⟩ : ∃ a, xs[j4]? = some a := ⟨_, List.getElem?_eq_getElem (by omega)⟩
  obtain ⟨g, sz, rfl, hgl, hrg, hsz⟩ : ∃ g sz, B = some ⟨g, 0, none⟩ ∧ w.heap.size + 1 ≤ g ∧ RowN w4 g 52 sz ∧ k * 5 ≤ sz := by
    rcases hB4.own with ⟨_, h0⟩ | h
    · omega
    · exact h
  have hgR : g ≠ R := by omega
  have hgN : g ≠ w1.heap.size := fun e => hB4.far (by simp [blk, e])
  have hNR : w1.heap.size ≠ R := by have := hB4.ltN; omega
  have hinv : Inv w4 R lo A n c w1.heap.size (.int .i64 m) (f + 1) w4 [] [] := Inv.start hB4.rd o0 hNR
  have ha5 := hB4.arcs.at0 ha
  have e0 : w4.cell? ⟨g, j4 * 5, none⟩ = some (.int .i64 fa) := ha5.1
  have i0 : (0 : Int) ≤ (j4 : Int) := by omega
  have i1 : (j4 : Int) < (k : Int) := by omega
  by_cases h0 : k5 = 0
  · subst h0
    go_upto_region 6 with (fail)
    have hq1 : ∀ (u : World) (x : Value), (u.setCell ⟨g, j4 * 5 + 1, none⟩ x).cell? ⟨g, j4 * 5, none⟩ = u.cell? ⟨g, j4 * 5, none⟩ := fun u x => World.cell?_setCell_other _ _ _ _ (by simp)
    have hq2 : ∀ (u : World) (x : Value), (u.setCell ⟨g, j4 * 5 + 1, none⟩ x).cell? ⟨w1.heap.size, 1, none⟩ = u.cell? ⟨w1.heap.size, 1, none⟩ := fun u x => World.cell?_setCell_other _ _ _ _ (by intro e; injection e; omega)
    go_region_held3 (fun w' => w'.cell? ⟨w1.heap.size, 1, none⟩ = some (.slice (some ⟨g, 0, none⟩) k cap) ∧ w'.cell? ⟨g, j4 * 5, none⟩ = some (.int .i64 fa))
      (first
        | go_keep
        | (simp only [hq1, hq2]; assumption)
        | (simp only [hq1, hq2]; exact ⟨o1, e0⟩)
        | (rw [hq1, hq2]; exact ⟨o1, e0⟩)
        | (simp only [hq1, hq2, o1, e0, and_self]))
      (first
        | (go_at_call 109; (first | with_reducible refine (oneI3 (hinv.drew.allocI3 _ _ _) List.mem_cons_self).mono ?_ | with_reducible refine (oneI3 (hinv.allocI3 _ _ _).drew List.mem_cons_self).mono ?_ | with_reducible refine (oneI3 (hinv.allocI3 _ _ _) List.mem_cons_self).mono ?_); rintro e w5 ⟨z, rfl, hz, hinv5⟩; have hB5 := hB4.step hinv5.gr hinv5.rd; have o1 := hB5.slice; have h55 := hB5.arcs.at0 ha; have e0 : w5.cell? ⟨g, j4 * 5, none⟩ = some (.int .i64 fa) := h55.1; have e1 : w5.cell? ⟨g, j4 * 5 + 1, none⟩ = some (.int .i64 ta) := h55.2.1; have zz := (hrg.young hinv5.gr hgR).frozen (j4 * 5 + 1)))
    go_upto_region 11 with (fail)
    have hB6 := hB5.turn hgl ha (i := 1) (by omega) (h55.to z)
    clear hB5 hinv5 hB4 hinv o1 e0 e1 zz
    obtain ⟨X, hX⟩ : ∃ X, X = w5.setCell ⟨g, j4 * 5 + 1, none⟩ (.int .i64 z) := ⟨_, rfl⟩
    rw [← hX] at hB6 ⊢
    clear hX
    have o0 := hB6.nodes
    have o1 := hB6.slice
    obtain ⟨q0, y0⟩ := hB6.out.cell (i := 0) (by omega)
    obtain ⟨q1, y1⟩ := hB6.out.cell (i := 1) (by omega)
    have z0 := hB6.out.frozen 0
    have z1 := hB6.out.frozen 1
    have HB := Lib.hid (BentAt.done hB6 hk13)
    clear hB6
    go_wp2
    exact bodyPost_ret (v := .agg #[.int .i64 m, .slice (some ⟨g, 0, none⟩) k cap]) (by simp [results, Try.results71, go_sem, y0, y1]) rfl HB.out
  by_cases h1 : k5 = 1
  · subst h1
    go_upto_region 8 with (fail)
    go_region_held3 (fun w' => w'.cell? ⟨w1.heap.size, 1, none⟩ = some (.slice (some ⟨g, 0, none⟩) k cap))
      (first
        | go_keep
        | exact (World.cell?_setCell_other _ _ _ _ (by intro e; injection e; omega)).trans o1)
      (first
        | (go_at_call 109; (first | with_reducible refine (oneI2 (hinv.drew.allocI2 _ _) List.mem_cons_self).mono ?_ | with_reducible refine (oneI2 (hinv.allocI2 _ _).drew List.mem_cons_self).mono ?_ | with_reducible refine (oneI2 (hinv.allocI2 _ _) List.mem_cons_self).mono ?_); rintro e w5 ⟨z, rfl, hz, hinv5⟩; have hB5 := hB4.step hinv5.gr hinv5.rd; have o1 := hB5.slice; have h55 := hB5.arcs.at0 ha; have e1 : w5.cell? ⟨g, j4 * 5 + 2, none⟩ = some (.int .i64 ca) := h55.2.2.1; have zz := (hrg.young hinv5.gr hgR).frozen (j4 * 5 + 2)))
    go_upto_region 11 with (fail)
    have hB6 := hB5.turn hgl ha (i := 2) (by omega) (h55.cost z)
    clear hB5 hinv5 hB4 hinv o1 e1 zz
    obtain ⟨X, hX⟩ : ∃ X, X = w5.setCell ⟨g, j4 * 5 + 2, none⟩ (.int .i64 z) := ⟨_, rfl⟩
    rw [← hX] at hB6 ⊢
    clear hX
    have o0 := hB6.nodes
    have o1 := hB6.slice
    obtain ⟨q0, y0⟩ := hB6.out.cell (i := 0) (by omega)
    obtain ⟨q1, y1⟩ := hB6.out.cell (i := 1) (by omega)
    have z0 := hB6.out.frozen 0
    have z1 := hB6.out.frozen 1
    have HB := Lib.hid (BentAt.done hB6 hk13)
    clear hB6
    go_wp2
    exact bodyPost_ret (v := .agg #[.int .i64 m, .slice (some ⟨g, 0, none⟩) k cap]) (by simp [results, Try.results71, go_sem, y0, y1]) rfl HB.out
  by_cases h2 : k5 = 2
  · subst h2
    go_wp2_with fail
    refine (oneI4 (hinv.allocI4 _ _ _ _) List.mem_cons_self).mono ?_
    rintro e w5 ⟨z, rfl, hz, hinv5⟩
    have hB5 := hB4.step hinv5.gr hinv5.rd
    have o0 := hB5.nodes
    have zz := hB5.row.frozen 0
    go_upto_region 11 with (fail)
    have hB6 := hB5.node (z := z)
    clear hB5 hinv5 hB4 hinv o0 zz
    obtain ⟨X, hX⟩ : ∃ X, X = w5.setCell ⟨w1.heap.size, 0, none⟩ (.int .i64 z) := ⟨_, rfl⟩
    rw [← hX] at hB6 ⊢
    clear hX
    have o0 := hB6.nodes
    have o1 := hB6.slice
    obtain ⟨q0, y0⟩ := hB6.out.cell (i := 0) (by omega)
    obtain ⟨q1, y1⟩ := hB6.out.cell (i := 1) (by omega)
    have z0 := hB6.out.frozen 0
    have z1 := hB6.out.frozen 1
    have HB := Lib.hid (BentAt.done hB6 hk13)
    clear hB6
    go_wp2
    exact bodyPost_ret (v := .agg #[.int .i64 z, .slice (some ⟨g, 0, none⟩) k cap]) (by simp [results, Try.results71, go_sem, y0, y1]) rfl HB.out
  have b0 : (k5 == 0) = false := by simpa using h0
  have b1 : (k5 == 1) = false := by simpa using h1
  have b2 : (k5 == 2) = false := by simpa using h2
  obtain ⟨q0, y0⟩ := hB4.out.cell (i := 0) (by omega)
  obtain ⟨q1, y1⟩ := hB4.out.cell (i := 1) (by omega)
  have z0 := hB4.out.frozen 0
  have z1 := hB4.out.frozen 1
  have HB := Lib.hid (BentAt.done (hB4.step (grown_refl _ _) (hB4.rd.less (f' := f) (by omega))) hk13)
  clear hB4 hinv
  go_wp2
  exact bodyPost_ret (v := .agg #[.int .i64 m, .slice (some ⟨g, 0, none⟩) k cap]) (by simp [results, Try.results71, go_sem, y0, y1]) rfl HB.out

end Go.Proofs.Ytaojognjkiifmaa

namespace Go.Proofs.Ytaojognjkiifmaa
open Go.RowKit

theorem outTo_mem {xs : List ArcD} {node y : Int} : ∀ {k : Nat}, y ∈ outTo xs node k → ∃ q : Nat, q < k ∧ y = q
  | 0, h => by simp [outTo] at h
  | k + 1, h => by
    rw [outTo] at h
    split at h
    · rcases List.mem_append.1 h with h | h
      · obtain ⟨q, h1, h2⟩ := outTo_mem h
        exact ⟨q, by omega, h2⟩
      · simp at h
        exact ⟨k, by omega, h⟩
    · obtain ⟨q, h1, h2⟩ := outTo_mem h
      exact ⟨q, by omega, h2⟩

theorem Res.young {w w' : World} {lo g : Nat} {v : Value} {zs : List Int} (h : Res w lo v zs) (hg : w.grownBy w' (some g)) (hl : g < lo) : Res w' lo v zs :=
  World.ownsRow.kept h hg (.inr fun e => own_ne h hl e.symm)

/-- The slice is not nil. -/
def NN (v : Value) : Prop := v ≠ .slice none 0 0

/-- A list was drawn into new memory. -/
def WalkG (w : World) (R lo : Nat) (A : Option Addr) (n c f : Nat) (e : Ending) (w' : World) : Prop :=
  ∃ v zs, e = .returned v ∧ zs.length ≤ 21 ∧ Res w' w.heap.size v zs ∧ RdF w' R lo A n c f ∧ w.grownBy w' (some R) ∧ NN v

set_option maxRecDepth 100000 in
set_option maxHeartbeats 4000000 in
theorem l30Walk_any (R lo : Nat) (A B : Option Addr) (n c f k cap : Nat) (m fr mo : Int) (xs : List ArcD) (w : World) (h : RdF w R lo A n c (f + 22)) (hm0 : 0 ≤ mo) (hm1 : mo ≤ 21) (hk : k ≤ 13) (hxk : xs.length = k) (hx : ArcsAt w B xs) (hBR : blk B ≠ some R) :
    Calls Try.prog 110 #[.pointer (some ⟨R, 0, none⟩), .agg #[.int .i64 m, .slice B k cap], .int .i64 fr, .int .i64 mo] w (WalkG w R lo A n c f) := by
  have hRw := h.at_
  have hloR : lo ≤ R := by obtain ⟨p, _, hh⟩ := h; exact hh.lt
  have HX := Lib.hid hxk
  clear hxk
  obtain ⟨i0, hi, hz0, hz1, hz2⟩ := info_parts infoInt
  have t5 : IntKind.i64.wrap (mo + 1) = mo + 1 := IntWalk.i64_in _ (by omega)
  go_enter Try.func110, Try.ntmps110
  obtain ⟨V, hV⟩ : ∃ V, V = w.alloc (.cells #[.int .i64 m, .slice B k cap] 32) := ⟨_, rfl⟩
  have hpV : Past w V := by rw [hV]; exact (Past.refl w).alloc _
  have hsV : V.heap.size = w.heap.size + 1 := by rw [hV]; simp
  have v0 : V.cell? ⟨w.heap.size, 0, none⟩ = some (.int .i64 m) := by rw [hV]; go_simp
  have v1 : V.cell? ⟨w.heap.size, 1, none⟩ = some (.slice B k cap) := by rw [hV]; go_simp
  have hres0 : Res (V.alloc (.cells #[] 3)) (w.heap.size + 1) (.slice (some ⟨w.heap.size + 1, 0, none⟩) 0 0) [] := by
    refine ⟨rfl, .inr ⟨w.heap.size + 1, 0, #[], rfl, Nat.le_refl _, ?_, Nat.le_refl _, by unfold maxLen; omega, rfl, rfl⟩⟩
    have := heap_alloc_new V (.cells #[] 3)
    rw [hsV] at this
    exact this
  go_wp2_with fail
  rw [← hV]
  refine (pickF (f := f + 21) _ ((h.below hpV).alloc _)).mono ?_
  rintro e w1 ⟨k1, rfl, k10, k11, hr1, hg1⟩
  obtain ⟨j1, rfl⟩ : ∃ j : Nat, k1 = j := ⟨k1.toNat, by omega⟩
  have hj1 : j1 ≤ 21 := by omega
  have hgV1 : V.grownBy w1 (some R) := grown_trans (World.grownBy_alloc V _ _) hg1
  have hres1 := hres0.young hg1 (by omega)
  clear hres0 hg1 hV t5
  go_wp2
  go_loopw [9, 10, 11] (fun v a q wr => ∃ (j : Nat) (at_ : Int) (zs : List Int), j + zs.length ≤ 21 ∧ a = .int .i64 at_ ∧ q = .int .i64 j ∧ Res wr (w.heap.size + 1) v zs ∧ RdF wr R lo A n c (f + j) ∧ V.grownBy wr (some R) ∧ NN v) (fun _ _ q _ => (intOf q).toNat)
  case atStart => exact ⟨j1, fr, [], by simp; omega, rfl, rfl, hres1, hr1.less (by omega), hgV1, by simp [NN]⟩
  case round =>
    obtain ⟨wo, hwo⟩ : ∃ wo, wo = wr := ⟨_, rfl⟩
    subst hwo
    obtain ⟨j, at_, zs, hjz, rfl, rfl, hv, hrd, hgV, hnn⟩ := hrel
    have b0 := cell_far hgV v0 (by simp only [ne_eq]; omega)
    have b1 := cell_far hgV v1 (by simp only [ne_eq]; omega)
    have hx3 := (hx.below hpV).grown hgV (fun b e => by injection e with e; rw [← e]; exact hBR)
    have hszr := hgV.size
    by_cases hj : 0 < j
    · obtain ⟨j', rfl⟩ : ∃ j', j = j' + 1 := ⟨j - 1, by omega⟩
      have hres2 : Res (wo.alloc (.cells #[] 3)) wo.heap.size (.slice (some ⟨wo.heap.size, 0, none⟩) 0 0) [] :=
        ⟨rfl, .inr ⟨wo.heap.size, 0, #[], rfl, Nat.le_refl _, heap_alloc_new wo _, Nat.le_refl _, by unfold maxLen; omega, rfl, rfl⟩⟩
      have hpa : Past wo (wo.alloc (.cells #[] 3)) := (Past.refl wo).alloc _
      go_wp2
      go_loopw [12, 13] (fun o q wq => ∃ k' : Nat, k' ≤ k ∧ q = .int .i64 k' ∧ Res wq wo.heap.size o (outTo xs at_ k') ∧ Past wo wq) (fun _ q _ => k - (intOf q).toNat)
      case atStart => exact ⟨0, by omega, rfl, hres2, hpa⟩
      case round =>
        obtain ⟨k', hk', rfl, ho, hbq⟩ := hrel
        clear hres2 hpa
        have b0 := cell_in hbq b0
        have b1 := cell_in hbq b1
        have hx4 := hx3.below hbq
        by_cases hlt : k' < k
        · obtain ⟨⟨f', t, c', l', d⟩, ha⟩ : ∃ a, xs[k']? = some a := ⟨_, List.getElem?_eq_getElem (by have := HX.out; omega)⟩
          obtain ⟨g, o', rfl, c0, c1, c2, c3, c4⟩ := hx4 k' _ ha
          have HA := Lib.hid ha
          clear ha c1 c2 c3 c4
          have i0' : (0 : Int) ≤ (k' : Int) := by omega
          have i1 : (k' : Int) < (k : Int) := by omega
          cases hC : (f' == at_) with
          | true =>
            have HT := Lib.hid (outTo_hit HA.out hC)
            have hlen := outTo_len xs at_ k'
            have hbs := hbq.size
            unfold Res at ho
            obtain ⟨D, hD⟩ : ∃ D, D = (outTo xs at_ k').length := ⟨_, rfl⟩
            rw [← hD] at ho hlen
            have HDD := Lib.hid hD
            clear hD
            go_wp2_with (first | (at_builtin; refine wpList_append_own _ rfl _ _ 28 rfl wo.heap.size 3 i0 (.int .i64 0) 1 8 Try.underlying28 hi hz0 hz1 hz2 rfl (by decide) _ _ _ rfl (ho.alloc _) ⟨wr.heap.size, 0, none⟩ 1 1 [.int .i64 (k' : Int)] rfl rfl (cell_one_new _ _ _) (one_cell _) (by unfold maxLen; omega) (by omega) (by simp; omega) ?_; intro v' w3 hown' hgrow3 hnil3))
            go_roundw
            case rel => exact ⟨k' + 1, by omega, by go_num, by rw [HT.out]; exact Res.push (by rw [← HDD.out]; exact hown'), Past.grown (hbq.alloc _) (ho.alloc _) hgrow3 (Nat.le_refl _)⟩
            case measure => simp [intOf]; omega
          | false =>
            have HT := Lib.hid (outTo_miss HA.out hC)
            go_wp2
            go_roundw
            case rel => exact ⟨k' + 1, by omega, by go_num, by rw [HT.out]; exact ho, hbq⟩
            case measure => simp [intOf]; omega
        · obtain rfl : k = k' := by omega
          have hv2 := hv.below hbq
          have hrd2 := hrd.below hbq
          have hgV2 : V.grownBy wr (some R) := grown_trans hgV (grown_of_below hbq _)
          have hoR : wo.heap.size ≤ wr.heap.size := hbq.size
          obtain ⟨O, co, rfl, hio, hoo⟩ := ho.form
          obtain ⟨L, hL⟩ : ∃ L, L = (outTo xs at_ k).length := ⟨_, rfl⟩
          rw [← hL]
          have hL13 : L ≤ 13 := by have := outTo_len xs at_ k; omega
          have hneO : blk O ≠ some R := hoo.ne_blk (by omega)
          by_cases hL0 : L = 0
          · have hL0' : ((L : Int) == 0) = true := by simp; omega
            clear hL0
            go_wp2
            go_ret
            exact ⟨_, zs, rfl, by omega, hv2.lower (by omega), hrd2.less (by omega), grown_trans (grown_of_below hpV _) hgV2, hnn⟩
          · have hL0' : ((L : Int) == 0) = false := by simp; omega
            have hLp : 0 < L := by omega
            have HL := Lib.hid hL
            clear hL0 hL hoo
            go_wp2_with fail
            refine (pickF (f := f + j') _ hrd2).mono ?_
            rintro e w5 ⟨k3, rfl, k30, k31, hr5, hg5⟩
            obtain ⟨q3, rfl⟩ : ∃ q : Nat, k3 = q := ⟨k3.toNat, by omega⟩
            have hq3 : q3 < L := by omega
            obtain ⟨y, hy⟩ : ∃ y, (outTo xs at_ k)[q3]? = some y := ⟨_, List.getElem?_eq_getElem (by rw [← HL.out]; exact hq3)⟩
            obtain ⟨q, hqk, rfl⟩ := outTo_mem (List.mem_of_getElem? hy)
            obtain ⟨gO, oO, rfl, cO⟩ := hio q3 _ hy
            have hgOR : gO ≠ R := fun e => hneO (by simp [blk, e])
            have cO := cell_far hg5 cO hgOR
            have b0 := cell_far hg5 b0 (by simp only [ne_eq]; omega)
            have b1 := cell_far hg5 b1 (by simp only [ne_eq]; omega)
            have hx5 := hx4.grown hg5 (fun b e => by injection e with e; rw [← e]; exact hBR)
            obtain ⟨⟨f', t, c', l', d⟩, ha⟩ : ∃ a, xs[q]? = some a := ⟨_, List.getElem?_eq_getElem (by have := HX.out; omega)⟩
            obtain ⟨g, o', rfl, c0, c1, c2, c3, c4⟩ := hx5 q _ ha
            have hgw : g < w.heap.size := by
              obtain ⟨g'', o'', e, hh⟩ := hx q _ ha
              injection e with e
              injection e with e1 e2
              subst e1
              exact hh.lt
            have hv5 := hv2.young hg5 (by omega)
            have hgV5 := grown_trans hgV2 hg5
            have hs5 : w.heap.size + 1 ≤ w5.heap.size := by have := hgV5.size; omega
            unfold Res at hv5
            obtain ⟨D, hD⟩ : ∃ D, D = zs.length := ⟨_, rfl⟩
            rw [← hD] at hv5 hjz
            have HDD := Lib.hid hD
            have i0' : (0 : Int) ≤ (q3 : Int) := by omega
            have i1 : (q3 : Int) < (L : Int) := by omega
            have i2 : (0 : Int) ≤ (q : Int) := by omega
            have i3 : (q : Int) < (k : Int) := by omega
            have hpa5 : Past w5 (w5.alloc (.cells #[.int .i64 (q : Int)] 3)) := (Past.refl w5).alloc _
            have hvA := hv5.alloc (.cells #[.int .i64 (q : Int)] 3)
            have hb1' : ∀ w3, (w5.alloc (.cells #[.int .i64 (q : Int)] 3)).grownBy w3 u9.ownBlock → w3.cell? ⟨w.heap.size, 1, none⟩ = some (.slice (some ⟨g, o', none⟩) k cap) := fun w3 hg => hg.cell (cell_in hpa5 b1) (own_ne (g := w.heap.size) hvA (by omega))
            have hc1' : ∀ w3, (w5.alloc (.cells #[.int .i64 (q : Int)] 3)).grownBy w3 u9.ownBlock → w3.cell? ⟨g, o' + q * 5 + 1, none⟩ = some (.int .i64 t) := fun w3 hg => hg.cell (cell_in hpa5 c1) (own_ne (g := g) hvA (by omega))
            have HB1 := Lib.hid hb1'
            have HC1 := Lib.hid hc1'
            clear hD ha hy c0 c2 c3 c4 hio hb1' hc1'
            go_wp2_with (first | (at_builtin; refine wpList_append_own _ rfl _ _ 28 rfl (w.heap.size + 1) 3 i0 (.int .i64 0) 1 8 Try.underlying28 hi hz0 hz1 hz2 rfl (by decide) _ _ _ rfl hvA ⟨w5.heap.size, 0, none⟩ 1 1 [.int .i64 (q : Int)] rfl rfl (cell_one_new _ _ _) (one_cell _) (by unfold maxLen; omega) (by omega) (by simp; omega) ?_; intro v' w3 hown' hgrow3 hnil3; have b1 := HB1.out _ hgrow3; have c1 := HC1.out _ hgrow3))
            go_roundw
            case rel => exact ⟨j', t, zs ++ [(q : Int)], by simp; have := HDD.out; omega, rfl, by go_num, Res.push (by rw [← HDD.out]; exact hown'), (hr5.alloc _).own hgrow3 hvA (by omega), grown_next (grown_trans hgV5 (World.grownBy_alloc w5 _ _)) hgrow3 (fun g e => by have := (hvA.lt g e).1; omega), fun e => absurd (hnil3.1 e).2 (by decide)⟩
            case measure => simp [intOf]
    · obtain rfl : j = 0 := by omega
      go_wp2
      go_ret
      exact ⟨_, zs, rfl, by omega, hv.lower (by omega), hrd.less (by omega), grown_trans (grown_of_below hpV _) hgV, hnn⟩

end Go.Proofs.Ytaojognjkiifmaa

namespace Go.Proofs.Ytaojognjkiifmaa
open Go.RowKit

/-- A list was drawn into new memory. -/
def AnyWalkG (w : World) (R lo : Nat) (A : Option Addr) (n c f : Nat) (e : Ending) (w' : World) : Prop :=
  ∃ v zs, e = .returned v ∧ zs.length ≤ 22 ∧ Res w' w.heap.size v zs ∧ RdF w' R lo A n c f ∧ w.grownBy w' (some R) ∧ NN v

set_option maxRecDepth 100000 in
set_option maxHeartbeats 4000000 in
theorem l30AnyWalk_any (R lo : Nat) (A B : Option Addr) (n c f k cap : Nat) (m : Int) (xs : List ArcD) (w : World) (h : RdF w R lo A n c (f + 26)) (hk : k ≤ 13) (hxk : xs.length = k) (hx : ArcsAt w B xs) (hBR : blk B ≠ some R) :
    Calls Try.prog 75 #[.pointer (some ⟨R, 0, none⟩), .agg #[.int .i64 m, .slice B k cap]] w (AnyWalkG w R lo A n c f) := by
  have hRw := h.at_
  have hloR : lo ≤ R := by obtain ⟨p, _, hh⟩ := h; exact hh.lt
  have HX := Lib.hid hxk
  clear hxk
  obtain ⟨i0, hi, hz0, hz1, hz2⟩ := info_parts infoInt
  have hpV : Past w (w.alloc (.cells #[.int .i64 m, .slice B k cap] 32)) := (Past.refl w).alloc _
  go_enter Try.func75, Try.ntmps75
  go_wp2_with fail
  refine (l1Ok_any m B k cap xs _ (by omega) HX.out (hx.below hpV)).mono ?_
  rintro e w1 ⟨rfl, hb1⟩
  have b0 := cell_in (p := ⟨w.heap.size, 0, none⟩) (v := .int .i64 m) hb1 (by go_simp)
  have b1 := cell_in (p := ⟨w.heap.size, 1, none⟩) (v := .slice B k cap) hb1 (by go_simp)
  have hp1 := hpV.trans hb1
  have hx1 := hx.below hp1
  have hrd1 := h.below hp1
  have hs1 := lt_of_cell b0
  have hs0 := hp1.size
  clear hb1 hpV h hx
  cases hB : netB m xs with
  | false =>
    go_wp2
    go_ret
    exact ⟨_, [0], rfl, by simp, Res.one w1 w.heap.size 0 hs0, (hrd1.alloc _).less (by omega), grown_trans (grown_of_below hp1 _) (World.grownBy_alloc w1 _ _), by simp [NN]⟩
  | true =>
    clear hB
    have hinv : Inv w1 R lo A n c w.heap.size (.int .i64 m) (f + 24 + 1 + 1) w1 [] [] := Inv.start (hrd1.less (by omega)) b0 (by omega)
    have hNR : w.heap.size ≠ R := by omega
    have B1 := Lib.hid b1
    have X1 := Lib.hid hx1
    clear hx1 hrd1
    go_upto_region 3 with (fail)
    go_region_held3 (fun w' => w'.cell? ⟨w.heap.size, 0, none⟩ = some (.int .i64 m) ∧ w'.cell? ⟨w.heap.size, 1, none⟩ = some (.slice B k cap)) (go_keep)
      (first
        | (go_at_call 90; (first | with_reducible refine (pickI _ hinv.drew).mono ?_ | with_reducible refine (pickI _ (hinv.drew.allocI3 _ _ _)).mono ?_ | with_reducible refine (pickI _ (hinv.allocI3 _ _ _).drew).mono ?_ | with_reducible refine (pickI _ hinv).mono ?_ | with_reducible refine (pickI _ (hinv.allocI3 _ _ _)).mono ?_); rintro e w3 ⟨k3, rfl, k30, k31, hinv⟩; have b0 := hinv.nb; have b1 := cell_far hinv.gr B1.out hNR)
        | (go_at_call 109; (first | with_reducible refine (oneI3 hinv List.mem_cons_self).mono ?_ | with_reducible refine (oneI3 (hinv.allocI3 _ _ _) List.mem_cons_self).mono ?_); rintro e w4 ⟨z, rfl, hz, hinv⟩; have b0 := hinv.nb; have b1 := cell_far hinv.gr B1.out hNR; have hz0' : 0 ≤ z ∧ z ≤ 21 := by simp at hz; omega)
        | (go_at_call 110; refine (l30Walk_any R lo A B n c (f + 2) k cap m _ _ xs _ (hinv.rd.less (by omega)) hz0'.1 hz0'.2 hk HX.out (X1.out.grown hinv.gr (fun b e => by injection e with e; rw [← e]; exact hBR)) hBR).mono ?_; rintro e w5 ⟨v5, zs, rfl, hzl, hv5, hr5, hg5, hnn⟩; have b0 := cell_far hg5 hinv.nb hNR; have b1 := cell_far hg5 (cell_far hinv.gr B1.out hNR) hNR))
    · have hgw : w.grownBy w5 (some R) := grown_trans (grown_of_below hp1 _) (grown_trans hinv.gr hg5)
      have hv := hv5.lower (lo' := w.heap.size) (Nat.le_trans hs0 hinv.gr.size)
      clear hv5 hg5 hinv b0 b1
      go_wp2_with fail
      refine (pickF (f := f + 1) _ hr5).mono ?_
      rintro e w6 ⟨k6, rfl, k60, k61, hr6, hg6⟩
      have hv6 := hv.young hg6 hRw
      have hgw6 := grown_trans hgw hg6
      by_cases h0 : k6 = 0
      · subst h0
        go_wp2_with fail
        refine (pickF (f := f) _ hr6).mono ?_
        rintro e w7 ⟨k7, rfl, k70, k71, hr7, hg7⟩
        have hv7 := hv6.young hg7 hRw
        have hgw7 := grown_trans hgw6 hg7
        have t7 : IntKind.i64.wrap (k7 - 1) = k7 - 1 := IntWalk.i64_in _ (by omega)
        have hs7 := hgw7.size
        unfold Res at hv7
        obtain ⟨D, hD⟩ : ∃ D, D = zs.length := ⟨_, rfl⟩
        rw [← hD] at hv7 hzl
        have HDD := Lib.hid hD
        have hvA := hv7.alloc (.cells #[.int .i64 (k7 - 1)] 3)
        clear hD
        go_wp2_with (first | (at_builtin; refine wpList_append_own _ rfl _ _ 28 rfl w.heap.size 3 i0 (.int .i64 0) 1 8 Try.underlying28 hi hz0 hz1 hz2 rfl (by decide) _ _ _ rfl hvA ⟨w7.heap.size, 0, none⟩ 1 1 [.int .i64 (k7 - 1)] rfl rfl (cell_one_new _ _ _) (one_cell _) (by unfold maxLen; omega) (by omega) (by simp; omega) ?_; intro v' w8 hown' hgrow3 hnil3))
        go_ret
        exact ⟨_, zs ++ [k7 - 1], rfl, by simp; have := HDD.out; omega, Res.push (by rw [← HDD.out]; exact hown'), (hr7.alloc _).own hgrow3 hvA hRw, grown_next (grown_trans hgw7 (World.grownBy_alloc w7 _ _)) hgrow3 (fun g e => (hvA.lt g e).1), fun e => absurd (hnil3.1 e).2 (by decide)⟩
      · have b6 : (k6 == 0) = false := by simpa using h0
        go_wp2
        go_ret
        exact ⟨_, zs, rfl, by omega, hv6, hr6.less (by omega), hgw6, hnn⟩
    · have hgw : w.grownBy w5 (some R) := grown_trans (grown_of_below hp1 _) (grown_trans hinv.gr hg5)
      have hv := hv5.lower (lo' := w.heap.size) (Nat.le_trans hs0 hinv.gr.size)
      clear hv5 hg5 hinv b0 b1
      go_wp2_with fail
      refine (pickF (f := f + 1) _ hr5).mono ?_
      rintro e w6 ⟨k6, rfl, k60, k61, hr6, hg6⟩
      have hv6 := hv.young hg6 hRw
      have hgw6 := grown_trans hgw hg6
      by_cases h0 : k6 = 0
      · subst h0
        go_wp2_with fail
        refine (pickF (f := f) _ hr6).mono ?_
        rintro e w7 ⟨k7, rfl, k70, k71, hr7, hg7⟩
        have hv7 := hv6.young hg7 hRw
        have hgw7 := grown_trans hgw6 hg7
        have t7 : IntKind.i64.wrap (k7 - 1) = k7 - 1 := IntWalk.i64_in _ (by omega)
        have hs7 := hgw7.size
        unfold Res at hv7
        obtain ⟨D, hD⟩ : ∃ D, D = zs.length := ⟨_, rfl⟩
        rw [← hD] at hv7 hzl
        have HDD := Lib.hid hD
        have hvA := hv7.alloc (.cells #[.int .i64 (k7 - 1)] 3)
        clear hD
        go_wp2_with (first | (at_builtin; refine wpList_append_own _ rfl _ _ 28 rfl w.heap.size 3 i0 (.int .i64 0) 1 8 Try.underlying28 hi hz0 hz1 hz2 rfl (by decide) _ _ _ rfl hvA ⟨w7.heap.size, 0, none⟩ 1 1 [.int .i64 (k7 - 1)] rfl rfl (cell_one_new _ _ _) (one_cell _) (by unfold maxLen; omega) (by omega) (by simp; omega) ?_; intro v' w8 hown' hgrow3 hnil3))
        go_ret
        exact ⟨_, zs ++ [k7 - 1], rfl, by simp; have := HDD.out; omega, Res.push (by rw [← HDD.out]; exact hown'), (hr7.alloc _).own hgrow3 hvA hRw, grown_next (grown_trans hgw7 (World.grownBy_alloc w7 _ _)) hgrow3 (fun g e => (hvA.lt g e).1), fun e => absurd (hnil3.1 e).2 (by decide)⟩
      · have b6 : (k6 == 0) = false := by simpa using h0
        go_wp2
        go_ret
        exact ⟨_, zs, rfl, by omega, hv6, hr6.less (by omega), hgw6, hnn⟩

end Go.Proofs.Ytaojognjkiifmaa

namespace Go.Proofs.Ytaojognjkiifmaa
open Go.RowKit

theorem ResTurn.young {w w' : World} {lo g : Nat} {v : Value} {zs : List TurnD} (h : ResTurn w lo v zs) (hg : w.grownBy w' (some g)) (hl : g < lo) : ResTurn w' lo v zs :=
  World.ownsRow.kept h hg (.inr fun e => own_ne h hl e.symm)
/-- Turns were drawn into new memory. -/
def TurnsG (w : World) (R lo : Nat) (A : Option Addr) (n c f : Nat) (e : Ending) (w' : World) : Prop :=
  ∃ v zs, e = .returned v ∧ zs.length ≤ 9 ∧ ResTurn w' w.heap.size v zs ∧ RdF w' R lo A n c f ∧ w.grownBy w' (some R)

set_option maxRecDepth 100000 in
set_option maxHeartbeats 4000000 in
theorem l30Turns_any (R lo : Nat) (A B : Option Addr) (n c f k cap : Nat) (m : Int) (xs : List ArcD) (w : World) (h : RdF w R lo A n c (f + 29)) (hk : k ≤ 13) (hxk : xs.length = k) (hx : ArcsAt w B xs) (hBR : blk B ≠ some R) :
    Calls Try.prog 72 #[.pointer (some ⟨R, 0, none⟩), .agg #[.int .i64 m, .slice B k cap]] w (TurnsG w R lo A n c f) := by
  have hRw := h.at_
  have HX := Lib.hid hxk
  clear hxk
  obtain ⟨i0, hi, hz0, hz1, hz2⟩ := info_parts infoTurn
  obtain ⟨W, hW⟩ : ∃ W, W = w.alloc (.cells #[.int .i64 m, .slice B k cap] 32) := ⟨_, rfl⟩
  have hWs : W.heap.size = w.heap.size + 1 := by rw [hW]; simp
  have bW : W.cell? ⟨w.heap.size, 1, none⟩ = some (.slice B k cap) := by rw [hW]; go_simp
  have hgW : w.grownBy W (some R) := by rw [hW]; exact World.grownBy_alloc w _ _
  have hF : RdF W R lo A n c (f + 29) := by rw [hW]; exact h.alloc _
  have hRW : R < W.heap.size := by omega
  have hRb : R ≠ w.heap.size := by omega
  have hle : w.heap.size ≤ W.heap.size := by omega
  have hres0 : ResTurn (W.alloc (.cells #[] 54)) W.heap.size (.slice (some ⟨w.heap.size + 1, 0, none⟩) 0 0) [] := by
    have h0 : ResTurn (W.alloc (.cells #[] 54)) W.heap.size (.slice (some ⟨W.heap.size, 0, none⟩) 0 0) [] := World.ownsRow_made W _ 0 (Nat.le_refl _) (by unfold maxLen; omega) rfl
    have h1 : ∀ q, q = W.heap.size → ResTurn (W.alloc (.cells #[] 54)) W.heap.size (.slice (some ⟨q, 0, none⟩) 0 0) [] := fun q e => by subst e; exact h0
    exact h1 _ hWs.symm
  have HW := Lib.hid hW
  clear hW hWs h
  go_enter Try.func72, Try.ntmps72
  go_wp2_with fail
  rw [← HW.out]
  refine (pickF (f := f + 28) _ (hF.alloc _)).mono ?_
  rintro e w1 ⟨k1, rfl, k10, k11, hr1, hg1⟩
  obtain ⟨j1, rfl⟩ : ∃ j : Nat, k1 = j := ⟨k1.toNat, by omega⟩
  have hj1 : j1 ≤ 8 := by omega
  have hgw1 : W.grownBy w1 (some R) := grown_trans (World.grownBy_alloc W _ _) hg1
  have hres1 := hres0.young hg1 hRW
  clear hres0 hg1 k11
  go_wp2
  go_loopw [5, 6] (fun v q wr => ∃ (j : Nat) (zs : List TurnD), j + zs.length ≤ 8 ∧ q = .int .i64 j ∧ ResTurn wr W.heap.size v zs ∧ RdF wr R lo A n c (f + 4 + 3 * j) ∧ W.grownBy wr (some R)) (fun _ q _ => (intOf q).toNat)
  case atStart => exact ⟨j1, [], by simp; omega, rfl, hres1, hr1.less (by omega), hgw1⟩
  case round =>
    obtain ⟨j, zs, hjz, rfl, hv, hrd, hgV⟩ := hrel
    have b1 := cell_far hgV bW (Ne.symm hRb)
    by_cases hgo : 0 < j ∧ 0 < k
    · obtain ⟨hj, hk0⟩ := hgo
      obtain ⟨j', rfl⟩ : ∃ j', j = j' + 1 := ⟨j - 1, by omega⟩
      have hk0' : (0 : Int) < (k : Int) := by omega
      go_wp2_with fail
      refine (pickF (f := f + 4 + 3 * j' + 2) _ (hrd.less (by omega))).mono ?_
      rintro e w2 ⟨x, rfl, x0, x1, hr2, hg2⟩
      obtain ⟨ix, rfl⟩ : ∃ i : Nat, x = i := ⟨x.toNat, by omega⟩
      have hix : ix < k := by omega
      have b2 := cell_far hg2 b1 (Ne.symm hRb)
      clear x1
      go_wp2_with fail
      refine (pickF (f := f + 4 + 3 * j' + 1) _ hr2).mono ?_
      rintro e w3 ⟨y, rfl, y0, y1, hr3, hg3⟩
      obtain ⟨iy, rfl⟩ : ∃ i : Nat, y = i := ⟨y.toNat, by omega⟩
      have hiy : iy < k := by omega
      have b3 := cell_far hg3 b2 (Ne.symm hRb)
      have hgV3 := grown_trans hgV (grown_trans hg2 hg3)
      have hv3 := (hv.young hg2 hRW).young hg3 hRW
      have hx3 : ArcsAt w3 B xs := hx.grown (grown_trans hgW hgV3) (fun b e => by injection e with e; rw [← e]; exact hBR)
      clear y1 hg2 hg3 b1 b2 hv hr2
      obtain ⟨⟨f1, t1, c1, l1, d1⟩, ha⟩ : ∃ a, xs[ix]? = some a := ⟨_, List.getElem?_eq_getElem (by have := HX.out; omega)⟩
      obtain ⟨⟨f2, t2, c2, l2, d2⟩, hb⟩ : ∃ a, xs[iy]? = some a := ⟨_, List.getElem?_eq_getElem (by have := HX.out; omega)⟩
      obtain ⟨g, o, rfl, p0, p1, p2, p3, p4⟩ := hx3 ix _ ha
      obtain ⟨g', o', eg, q0, q1, q2, q3, q4⟩ := hx3 iy _ hb
      injection eg with eg
      injection eg with eg1 eg2
      subst eg1 eg2
      clear ha hb p0 p2 p3 p4 q1 q2 q3 q4
      have i1 : (ix : Int) < (k : Int) := by omega
      have i2 : (iy : Int) < (k : Int) := by omega
      by_cases hE : t1 = f2
      rotate_left
      · have hne : (t1 != f2) = true := by simpa using hE
        clear hE
        go_wp2_with fail
        go_quiet (fail)
        go_wp2
        go_roundw
        case rel => exact ⟨j', zs, by omega, by go_num, hv3, RdF.less (f := f + 4 + 3 * j' + 1) (by obtain ⟨p, hp, hh⟩ := hr3; exact ⟨p, hp, hh.drewN _⟩) (by omega), ⟨hgV3.os, hgV3.tape, hgV3.output, hgV3.size, hgV3.block⟩⟩
        case measure => simp [intOf]
      have hne : (t1 != f2) = false := by simpa using hE
      clear hE
      go_wp2_with fail
      go_quiet (fail)
      obtain ⟨w4, hw4⟩ : ∃ u, u = w3.drewN nq := ⟨_, rfl⟩
      have hr4 : RdF w4 R lo A n c (f + 4 + 3 * j' + 1) := by rw [hw4]; obtain ⟨p, hp, hh⟩ := hr3; exact ⟨p, hp, hh.drewN _⟩
      have hgV4 : W.grownBy w4 (some R) := by rw [hw4]; exact ⟨hgV3.os, hgV3.tape, hgV3.output, hgV3.size, hgV3.block⟩
      have hv4 : ResTurn w4 W.heap.size u5 zs := by rw [hw4]; exact hv3
      rw [← hw4]
      clear hw4 hr3 hgV3 hv3 hx3 b3 p1 q0 hne
      go_wp2_with fail
      refine (oneF (f := f + 4 + 3 * j') [-1, -1, 0, 3, 9] (hr4.alloc _) rfl (by simp) (by simp) (ints_new w4 _ rfl _) (by have := hr4.at_; omega)).mono ?_
      rintro e w5 ⟨z, rfl, hzm, hr5, hg5⟩
      have hgV5 := grown_trans hgV4 (grown_trans (World.grownBy_alloc w4 _ _) hg5)
      have hv5 := (hv4.below ((Past.refl w4).alloc _)).young hg5 hRW
      clear hzm hr4 hv4 hg5 hgV4
      obtain ⟨w6, hw6⟩ : ∃ u, u = w5.alloc (.cells #[.int .i64 ix, .int .i64 iy, .int .i64 z] 54) := ⟨_, rfl⟩
      have hb6 : Past w5 w6 := by rw [hw6]; exact (Past.refl w5).alloc _
      have t0 : w6.cell? ⟨w5.heap.size, 0, none⟩ = some (.int .i64 ix) := by rw [hw6]; go_simp
      have t1' : w6.cell? ⟨w5.heap.size, 1, none⟩ = some (.int .i64 iy) := by rw [hw6]; go_simp
      have t2' : w6.cell? ⟨w5.heap.size, 2, none⟩ = some (.int .i64 z) := by rw [hw6]; go_simp
      have hr6 := hr5.below hb6
      have hv6 := hv5.below hb6
      have hgV6 := grown_trans hgV5 (grown_of_below hb6 _)
      have hs6 := hgV6.size
      go_wp2_with fail
      rw [← hw6]
      clear hw6 hr5 hv5 hgV5 hb6
      obtain ⟨A5, cap5, rfl, hx5, _⟩ := hv6.form
      obtain ⟨D, hD⟩ : ∃ D, D = zs.length := ⟨_, rfl⟩
      have hown : w6.ownsRow W.heap.size 54 3 (.slice A5 zs.length cap5) D (cellsTurn zs) := by have := hv6; unfold ResTurn at this; rw [← hD] at this ⊢; exact this
      rw [← hD] at hjz hown ⊢
      have HD := Lib.hid hD
      have HO := Lib.hid hown
      have HV := Lib.hid hv6
      clear hD hown hv6
      go_wp2
      go_loop [10, 11] (fun b q => ∃ (i : Nat) (bb : Bool), i ≤ D ∧ q = .int .i64 i ∧ b = .bool bb) (fun _ q => D - (intOf q).toNat)
      case atStart => exact ⟨0, false, Nat.zero_le _, rfl, rfl⟩
      case round =>
        obtain ⟨i, bb, hiD, rfl, rfl⟩ := hrel
        by_cases hlt : i < D
        · obtain ⟨⟨s0, s1, s2⟩, hs⟩ : ∃ a, zs[i]? = some a := ⟨_, List.getElem?_eq_getElem (by have := HD.out; omega)⟩
          obtain ⟨g5, o5, rfl, z0, z1, z2⟩ := hx5 i _ hs
          clear hs
          have n0 : (0 : Int) ≤ (i : Int) := by omega
          have n1 : (i : Int) < (D : Int) := by omega
          cases bb with
          | true =>
            go_wp2
            go_round
            case rel => exact ⟨i + 1, true, by omega, by go_num, rfl⟩
            case measure => simp [intOf]; omega
          | false =>
            cases h1 : (s0 == (ix : Int)) with
            | false =>
              go_wp2
              go_round
              case rel => exact ⟨i + 1, false, by omega, by go_num, rfl⟩
              case measure => simp [intOf]; omega
            | true =>
              cases h2 : (s1 == (iy : Int)) with
              | false =>
                go_wp2
                go_round
                case rel => exact ⟨i + 1, false, by omega, by go_num, rfl⟩
                case measure => simp [intOf]; omega
              | true =>
                go_wp2
                go_round
                case rel => exact ⟨i + 1, true, by omega, by go_num, rfl⟩
                case measure => simp [intOf]; omega
        · obtain rfl : i = D := by omega
          cases bb with
          | true =>
            go_wp2
            go_roundw
            case rel => exact ⟨j', zs, by have := HD.out; omega, by go_num, by have := HV.out; rw [← HD.out] at this; exact this, hr6.less (by omega), hgV6⟩
            case measure => simp [intOf]
          | false =>
            go_wp2_with (first | (at_builtin; refine wpList_append_own _ rfl _ _ 34 rfl W.heap.size 54 i0 _ 3 24 Try.underlying34 hi hz0 hz1 hz2 rfl (by decide) _ i _ rfl (HO.out.alloc _) ⟨w6.heap.size, 0, none⟩ 1 1 [.int .i64 ix, .int .i64 iy, .int .i64 z] rfl rfl (newTurn w6 _ _ _ _) (cellsTurn_one [⟨ix, iy, z⟩]) (by unfold maxLen; omega) (by omega) (by simp; omega) ?_; intro v7 w7 hown' hgrow7 hnil7))
            go_roundw
            case rel => exact ⟨j', zs ++ [⟨ix, iy, z⟩], by rw [List.length_append, ← HD.out]; simp; omega, by go_num, ResTurn.push (a := ⟨ix, iy, z⟩) (by rw [← HD.out]; exact hown'), ((hr6.alloc _).own hgrow7 (HO.out.alloc _) hRW).less (by omega), grown_next (grown_trans hgV6 (World.grownBy_alloc w6 _ _)) hgrow7 (fun g e => (HO.out.lt g e).1)⟩
            case measure => simp [intOf]
    · have hcase : (∃ j', j = j' + 1 ∧ ¬ (0 : Int) < (k : Int)) ∨ j = 0 := by
        rcases Nat.eq_zero_or_pos j with e | e
        · exact .inr e
        · exact .inl ⟨j - 1, by omega, by omega⟩
      clear hgo
      have hlz : zs.length ≤ 8 := by omega
      have hfz : RdF wr R lo A n c (f + 4) := hrd.less (by omega)
      rcases hcase with ⟨j', rfl, hk0⟩ | rfl
      all_goals
        go_wp2_with fail
        refine (pickF (f := f + 3) _ hfz).mono ?_
        rintro e w2 ⟨x, rfl, x0, x1, hr2, hg2⟩
        have hv2 := hv.young hg2 hRW
        have hgV2 := grown_trans hgV hg2
        clear hv hg2 hgV hrd hfz b1 hjz
        by_cases hx0 : x = 0
        · subst hx0
          go_wp2_with fail
          refine (pickF (f := f + 2) _ hr2).mono ?_
          rintro e w3 ⟨y, rfl, y0, y1, hr3, hg3⟩
          go_wp2_with fail
          refine (pickF (f := f + 1) _ hr3).mono ?_
          rintro e w4 ⟨z, rfl, z0, z1, hr4, hg4⟩
          have hv4 := (hv2.young hg3 hRW).young hg4 hRW
          have hgV4 := grown_trans hgV2 (grown_trans hg3 hg4)
          clear hg3 hg4 hv2 hgV2 hr2 hr3
          go_wp2_with fail
          refine (oneF (f := f) [-2, 100, 1] (hr4.alloc _) rfl (by simp) (by simp) (ints_new w4 _ rfl _) (by have := hr4.at_; omega)).mono ?_
          rintro e w5 ⟨q, rfl, hqm, hr5, hg5⟩
          have hgV5 := grown_trans hgV4 (grown_trans (World.grownBy_alloc w4 _ _) hg5)
          have hs5 := hgV5.size
          have hv5 := (hv4.below ((Past.refl w4).alloc _)).young hg5 hRW
          obtain ⟨D, hD⟩ : ∃ D, D = zs.length := ⟨_, rfl⟩
          have hown : w5.ownsRow W.heap.size 54 3 u5 D (cellsTurn zs) := by have := hv5; unfold ResTurn at this; rw [← hD] at this; exact this
          have HO := Lib.hid hown
          rw [← hD] at hlz
          have HD := Lib.hid hD
          clear hown hD hqm hr4 hg5 hv4 hv5 hgV4
          go_wp2_with (first | (at_builtin; refine wpList_append_own _ rfl _ _ 34 rfl W.heap.size 54 i0 _ 3 24 Try.underlying34 hi hz0 hz1 hz2 rfl (by decide) _ D _ rfl (HO.out.alloc _) ⟨w5.heap.size, 0, none⟩ 1 1 [.int .i64 y, .int .i64 z, .int .i64 q] rfl rfl (newTurn w5 _ _ _ _) (cellsTurn_one [⟨y, z, q⟩]) (by unfold maxLen; omega) (by omega) (by simp; omega) ?_; intro v7 w7 hown' hgrow7 hnil7))
          go_ret
          exact ⟨_, zs ++ [⟨y, z, q⟩], rfl, by rw [List.length_append, ← HD.out]; simp; omega, ResTurn.lower (lo := W.heap.size) (ResTurn.push (a := ⟨y, z, q⟩) (by rw [← HD.out]; exact hown')) hle, ((hr5.alloc _).own hgrow7 (HO.out.alloc _) hRW), grown_trans hgW (grown_next (grown_trans hgV5 (World.grownBy_alloc w5 _ _)) hgrow7 (fun g e => (HO.out.lt g e).1))⟩
        · have b6 : (x == 0) = false := by simpa using hx0
          go_wp2
          go_ret
          exact ⟨_, zs, rfl, by omega, hv2.lower hle, hr2.less (by omega), grown_trans hgW hgV2⟩

end Go.Proofs.Ytaojognjkiifmaa

namespace Go.Proofs.Ytaojognjkiifmaa
open Go.RowKit

/-- A net, turns and a list were drawn into new memory. -/
def DrawTWG (w : World) (e : Ending) (w' : World) : Prop :=
  ∃ (m : Int) (B : Option Addr) (k cap : Nat) (xs : List ArcD) (u : Value) (ts : List TurnD) (v : Value) (zs : List Int), e = .returned (.tuple #[.agg #[.int .i64 m, .slice B k cap], u, v]) ∧ xs.length = k ∧ k ≤ 13 ∧ ArcsAt w' B xs ∧ ts.length ≤ 9 ∧ ResTurn w' w.heap.size u ts ∧ zs.length ≤ 22 ∧ Res w' w.heap.size v zs ∧ Below w.heap.size w w'

set_option maxRecDepth 100000 in
set_option maxHeartbeats 4000000 in
theorem drawTurnWalk_any (A : Option Addr) (n c : Nat) (w : World) (hn : n ≤ c) (hc : c ≤ maxLen) (hb : BytesAt w A n) :
    Calls Try.prog 31 #[.slice A n c] w (DrawTWG w) := by
  have hpV : Past w (w.alloc (.cells #[.int .i64 0, .slice none 0 0] 32)) := (Past.refl w).alloc _
  go_enter Try.func31, Try.ntmps31
  go_wp2_with fail
  refine (open_any A n c _ hn hc (hb.below hpV)).mono ?_
  rintro e w1 ⟨R, n', c', rfl, hR, hrd, hb1⟩
  rw [World.size_alloc] at hR
  have hF : RdF w1 R _ A n' c' (26 + 29 + 83) := ⟨0, by omega, hrd⟩
  have r0 : RowN w1 w.heap.size 32 2 := by
    have r : RowN (w.alloc (.cells #[.int .i64 0, .slice none 0 0] 32)) w.heap.size 32 2 := ⟨_, heap_alloc_new w _, rfl⟩
    exact r.keep (hb1.block _ r.lt)
  have hp1 := hpV.trans hb1
  have hR1 := hF.at_
  clear hrd hb1 hpV
  go_wp2_with fail
  refine (l30AnyNet_any R _ A n' c' (26 + 29) w1 hF).mono ?_
  rintro e w2 ⟨m, B, k, cap, xs, rfl, hxk, hk, hxB, hoB, hr2, hg2⟩
  have hp2 : Past w w2 := Below.grown hp1 hg2 hp1.size (fun k e => by injection e with e; omega)
  have r2 := r0.young hg2 (by omega)
  have hBR : blk B ≠ some R := hoB.ne_blk hR1
  have hneB : blk B ≠ some w.heap.size := hoB.ne_blk (by omega)
  have s12 := hg2.size
  obtain ⟨W, hW⟩ : ∃ W, W = w2.alloc (.cells #[.int .i64 m, .slice B k cap] 32) := ⟨_, rfl⟩
  have hpW : Past w2 W := by rw [hW]; exact (Past.refl w2).alloc _
  have b0 : W.cell? ⟨w2.heap.size, 0, none⟩ = some (.int .i64 m) := by rw [hW]; go_simp
  have b1 : W.cell? ⟨w2.heap.size, 1, none⟩ = some (.slice B k cap) := by rw [hW]; go_simp
  have hxW := hxB.below hpW
  have hrW := hr2.below hpW
  have r3 := r2.keep (hpW.block _ r2.lt)
  have hp3 := hp2.trans hpW
  have hs2 : w.heap.size < w2.heap.size := r2.lt
  have HX := Lib.hid hxk
  have hNR : w2.heap.size ≠ R := by omega
  go_wp2_with fail
  rw [← hW]
  clear hW hoB hr2 hg2 hxB r0 hF hxk
  refine (l30Turns_any R _ A B n' c' 26 k cap m xs W hrW hk HX.out hxW hBR).mono ?_
  rintro e w3 ⟨u, ts, rfl, htl, hu, hr3, hg3⟩
  have b0 := cell_far hg3 b0 hNR
  have b1 := cell_far hg3 b1 hNR
  have hx3 := hxW.grown hg3 (fun b e => by injection e with e; rw [← e]; exact hBR)
  have r4 : RowN w3 w.heap.size 32 2 := r3.young hg3 (by omega)
  have hp4 : Past w w3 := Below.grown hp3 hg3 hp3.size (fun k e => by injection e with e; omega)
  have hs3 : W.heap.size ≤ w3.heap.size := hg3.size
  have hRW : R < W.heap.size := hrW.at_
  have hsW : w.heap.size < W.heap.size := Nat.lt_of_lt_of_le hs2 hpW.size
  go_upto_region 4 with (fail)
  clear hrW hxW hg3 r3 hp3 hpW hp2 hp1
  have hq0 : ∀ (u : World) (j : Nat) (x : Value), (u.setCell ⟨w.heap.size, j, none⟩ x).cell? ⟨w2.heap.size, 0, none⟩ = u.cell? ⟨w2.heap.size, 0, none⟩ := fun u j x => World.cell?_setCell_other _ _ _ _ (by intro e; injection e; omega)
  have hq1 : ∀ (u : World) (j : Nat) (x : Value), (u.setCell ⟨w.heap.size, j, none⟩ x).cell? ⟨w2.heap.size, 1, none⟩ = u.cell? ⟨w2.heap.size, 1, none⟩ := fun u j x => World.cell?_setCell_other _ _ _ _ (by intro e; injection e; omega)
  go_region_held3 (fun w' => w'.cell? ⟨w2.heap.size, 0, none⟩ = some (.int .i64 m) ∧ w'.cell? ⟨w2.heap.size, 1, none⟩ = some (.slice B k cap))
    (first | go_keep | (simp only [hq0, hq1]; assumption))
    (first
      | (go_at_call 75; refine (l30AnyWalk_any R _ A B n' c' 0 k cap m xs _ hr3.drew hk HX.out hx3.drew hBR).mono ?_; rintro e w5 ⟨v5, zs, rfl, hzl, hv5, hr5, hg5, _⟩; have b0 := cell_far hg5 b0 hNR; have b1 := cell_far hg5 b1 hNR; have r5 : RowN w5 w.heap.size 32 2 := RowN.young (w := w3.drew) r4 hg5 (by omega); obtain ⟨y0, e0⟩ := r5.cell (i := 0) (by omega); obtain ⟨y1, e1⟩ := r5.cell (i := 1) (by omega); have z0 := r5.frozen 0; have z1 := r5.frozen 1))
  have hp5 : Past w w5 := Below.grown hp4.drew hg5 hp4.size (fun k e => by injection e with e; omega)
  have hs5 : w3.heap.size ≤ w5.heap.size := hg5.size
  have hnv : v5.ownBlock ≠ some w.heap.size := fun e => own_ne hv5 (g := w.heap.size) (by show w.heap.size < w3.heap.size; omega) e.symm
  have hres : Res ((w5.setCell ⟨w.heap.size, 0, none⟩ (.int .i64 m)).setCell ⟨w.heap.size, 1, none⟩ (.slice B k cap)) w.heap.size v5 zs := Res.lower (own_far (own_far hv5 hnv _) hnv _) (by show w.heap.size ≤ w3.heap.size; omega)
  have hu5 : ResTurn w5 W.heap.size u ts := hu.drew.young hg5 hRW
  have hnu : u.ownBlock ≠ some w.heap.size := fun e => own_ne hu5 (g := w.heap.size) hsW e.symm
  have hresu : ResTurn ((w5.setCell ⟨w.heap.size, 0, none⟩ (.int .i64 m)).setCell ⟨w.heap.size, 1, none⟩ (.slice B k cap)) w.heap.size u ts := ResTurn.lower (lo := W.heap.size) (own_far (own_far hu5 hnu _) hnu _) (Nat.le_of_lt hsW)
  have hx5 := ((hx3.drew.grown hg5 (fun b e => by injection e with e; rw [← e]; exact hBR)).far ⟨w.heap.size, 0, none⟩ (.int .i64 m) hneB).far ⟨w.heap.size, 1, none⟩ (.slice B k cap) hneB
  have hbel := Below.setCell (Below.setCell hp5 (p := ⟨w.heap.size, 0, none⟩) (by simp) (.int .i64 m)) (p := ⟨w.heap.size, 1, none⟩) (by simp) (.slice B k cap)
  clear hv5 hg5 hr5 hu hu5 hr3 hx3
  go_wp2
  exact bodyPost_ret (v := .tuple #[.agg #[.int .i64 m, .slice B k cap], u, v5]) (by simp [results, Try.results31, go_sem, e0, e1]) rfl ⟨m, B, k, cap, xs, u, ts, v5, zs, rfl, HX.out, hk, hx5, htl, hresu, hzl, hres, hbel⟩

end Go.Proofs.Ytaojognjkiifmaa

namespace Go.Proofs.Ytaojognjkiifmaa
open Go.ChangeShapes Go.WideShapes Go.ChangeAt Go.RowKit Go.Deep Go.Joins

set_option maxRecDepth 100000 in
theorem open_bytes {H : Type} {enc : TypeId × Value → H} {W : World} {r : Reach} {b0 : Nat} {v : Value} {d : DataW H} {p : List MemPlace} (hv : Value.okWide Try.prog W r b0 43 v)
    (h : DataW.Trod enc Try.prog W 0 (fun _ => true) true 43 v d p) : ∃ (A : Option Addr) (n c : Nat), v = .slice A n c ∧ n ≤ c ∧ c ≤ maxLen ∧ BytesAt W A n := by
  obtain ⟨a0, len, cap, rfl⟩ := okWide_slice Try.underlying43 hv
  obtain ⟨fuel, hf⟩ := h
  rcases open_ints Try.underlying43 Try.underlying5 (by kernel_rfl) (show DataW.trod enc Try.prog W 0 (fun _ => true) true fuel 43 [.slice a0 len cap] = some _ by simpa [Value.cells] using hf) with ⟨hcs, _⟩ | ⟨a, len', cap', zs, hcs, _, hl, hm, hz, _, hcell, hwf⟩
  · injection hcs with hcs
    injection hcs with e1 e2 e3
    subst e1 e2 e3
    exact ⟨none, 0, 0, rfl, Nat.le_refl _, Nat.zero_le _, fun k hk => absurd hk (by omega)⟩
  · injection hcs with hcs
    injection hcs with e1 e2 e3
    subst e1 e2 e3
    simp only [if_true] at hz
    refine ⟨some a, _, _, rfl, hl, hm, fun k hk => ?_⟩
    have hc := hcell k (by omega)
    obtain ⟨g, o, rfl⟩ := spotless (hcell 0 (by omega))
    rw [addr_add] at hc
    have hw := hwf (zs.getD k 0) (by rw [List.getD_eq_getElem?_getD, List.getElem?_eq_getElem (by omega)]; simp)
    refine ⟨g, o, _, rfl, hc, ?_⟩
    simp only [Lit.wf, Bool.and_eq_true, decide_eq_true_eq] at hw
    rw [show IntKind.u8.min = 0 by decide, show IntKind.u8.max = 255 by decide] at hw
    exact hw

end Go.Proofs.Ytaojognjkiifmaa

namespace Go.Proofs.Ytaojognjkiifmaa
open Go.ChangeShapes Go.WideShapes Go.ChangeAt Go.RowKit

set_option maxRecDepth 100000 in
set_option maxHeartbeats 20000000 in
theorem fnTurnBest_walk (A : Option Addr) (n c : Nat) (w : World) (hn : n ≤ c) (hc : c ≤ maxLen) (hb : BytesAt w A n) :
    Calls Try.prog 5 #[.slice A n c] w fun e w' => e = .returned (.bool true) ∧ Below w.heap.size w w' := by
  by_cases h1 : 1048576 < n
  · have h1' : (1048576 : Int) < (n : Int) := by omega
    go_enter Try.func5, Try.ntmps5
    go_wp2
    go_ret
    exact ⟨rfl, Below.refl _ _⟩
  have h1' : ¬ (1048576 : Int) < (n : Int) := by omega
  go_enter Try.func5, Try.ntmps5
  go_wp2_with fail
  refine (drawTurnWalk_any A n c w hn hc hb).mono ?_
  rintro e w1 ⟨m, B, k, cap, xs, u, ts, v, ys, rfl, hxk, hk, hx1, htl, hu, hzl, hv, hb1⟩
  obtain ⟨E, ce, rfl, ht1, _⟩ := hu.form
  obtain ⟨F, cf, rfl, hy1, _⟩ := hv.form
  obtain ⟨l, hl⟩ : ∃ l, l = ts.length := ⟨_, rfl⟩
  obtain ⟨r, hr⟩ : ∃ r, r = ys.length := ⟨_, rfl⟩
  rw [← hl] at htl ⊢
  rw [← hr] at hzl ⊢
  have HX := Lib.hid hxk
  have HT := Lib.hid hl.symm
  have HY := Lib.hid hr.symm
  have hkk : k ≤ 1048576 := by omega
  have hll : l ≤ 1048576 := by omega
  have hrr : r ≤ 1048576 := by omega
  clear hl hr hxk hu hv hn hc hb
  have hpW : Past w1 (w1.alloc (.cells #[.int .i64 m, .slice B k cap] 32)) := (Past.refl w1).alloc _
  go_wp2_with fail
  refine (implTurnWalk_any m B k cap xs E l ce ts F r cf ys _ hkk HX.out (hx1.below hpW) hll HT.out (ht1.below hpW) hrr HY.out (hy1.below hpW)).mono ?_
  rintro e w2 ⟨rfl, hb2⟩
  have b0 := cell_in (p := ⟨w1.heap.size, 0, none⟩) (v := .int .i64 m) hb2 (by go_simp)
  have b1 := cell_in (p := ⟨w1.heap.size, 1, none⟩) (v := .slice B k cap) hb2 (by go_simp)
  have hx2 := (hx1.below hpW).below hb2
  have ht2 := (ht1.below hpW).below hb2
  have hy2 := (hy1.below hpW).below hb2
  have hp2 : Past w w2 := Past.trans hb1 (hpW.trans hb2)
  obtain ⟨C, hC⟩ : ∃ C, C = twalkI m xs ts ys := ⟨_, rfl⟩
  rw [← hC]
  have HC := Lib.hid hC
  clear hC hx1 ht1 hy1 hb1 hb2 hpW
  go_wp2_with fail
  refine (specTurnWalk_any m B k cap xs E l ce ts F r cf ys _ hkk HX.out hx2 hll HT.out ht2 hrr HY.out hy2).mono ?_
  rintro e w3 ⟨rfl, hb3⟩
  rw [← HC.out]
  have b0 := cell_in hb3 b0
  have b1 := cell_in hb3 b1
  have hx3 := hx2.below hb3
  have ht3 := ht2.below hb3
  have hy3 := hy2.below hb3
  have hp3 := Past.trans hp2 hb3
  clear hx2 ht2 hy2 hb3 hp2
  by_cases hC0 : C < 0
  · have g1 : decide (C < 0) = true := decide_eq_true hC0
    go_wp2_with fail
    refine (specTurnWalk_any m B k cap xs E l ce ts F r cf ys _ hkk HX.out hx3 hll HT.out ht3 hrr HY.out hy3).mono ?_
    rintro e w4 ⟨rfl, hb4⟩
    rw [← HC.out]
    go_wp2
    go_ret
    exact ⟨by simp, hp3.trans hb4⟩
  have g1 : decide (C < 0) = false := decide_eq_false hC0
  by_cases hr0 : r = 0
  · have hr0' : (r : Int) = 0 := by omega
    have hr0b : ((r : Int) == 0) = true := by rw [hr0']; rfl
    clear hr0
    go_wp2_with fail
    refine (specTurnWalk_any m B k cap xs E l ce ts F r cf ys _ hkk HX.out hx3 hll HT.out ht3 hrr HY.out hy3).mono ?_
    rintro e w4 ⟨rfl, hb4⟩
    rw [← HC.out]
    go_wp2
    go_ret
    exact ⟨by simp, hp3.trans hb4⟩
  have hr0' : ¬ (r : Int) = 0 := by omega
  obtain ⟨M, rfl⟩ : ∃ M : Nat, m = M := by
    cases hT : turnsB m xs ts with
    | false => have := HC.out; rw [twalkI_turns hT] at this; omega
    | true => have := ((netB_iff _ _).1 (turnsB_all hT).1).1; exact ⟨m.toNat, by omega⟩
  obtain ⟨a, b, y0, ha, y1, hbb, haf, hbt, hT, hO, hle⟩ := best_walk (M := M) (xs := xs) (ts := ts) (ys := ys) (by rw [← HC.out]; omega) (fun e => hr0 (by rw [← HY.out, e]; rfl))
  rw [HY.out] at y1 hbb
  rw [← HC.out] at hle
  have hall := tallI_len (M : Int) xs ts a.f
  have htl : tallI (M : Int) xs ts a.f = tallL M xs ts a.f := by rw [tallI, if_pos ((theretB_iff _ _ _ _).2 ⟨hT, haf⟩), Int.toNat_natCast]
  have hz0 : ys[0]? = some (numOf ys 0) := by have := HY.out; rw [List.getElem?_eq_getElem (by omega)]; simp [numOf, List.getD_eq_getElem?_getD, List.getElem?_eq_getElem (show 0 < ys.length by omega)]
  have hz1 : ys[r - 1]? = some (numOf ys (r - 1)) := by have := HY.out; rw [List.getElem?_eq_getElem (by omega)]; simp [numOf, List.getD_eq_getElem?_getD, List.getElem?_eq_getElem (show r - 1 < ys.length by omega)]
  obtain ⟨Y0, hY0⟩ : ∃ Y : Nat, numOf ys 0 = Y := ⟨(numOf ys 0).toNat, by omega⟩
  obtain ⟨Y1, hY1⟩ : ∃ Y : Nat, numOf ys (r - 1) = Y := ⟨(numOf ys (r - 1)).toNat, by omega⟩
  rw [hY0] at ha hz0
  rw [hY1] at hbb hz1
  rw [Int.toNat_natCast] at ha hbb
  have hA0 := (List.getElem?_eq_some_iff.1 ha).1
  have hA1 := (List.getElem?_eq_some_iff.1 hbb).1
  rw [HX.out] at hA0 hA1
  obtain ⟨gy, oy, rfl, cy0⟩ := hy3 0 _ hz0
  obtain ⟨gy', oy', eg, cy1⟩ := hy3 (r - 1) _ hz1
  injection eg with eg
  injection eg with eg1 eg2
  subst eg1 eg2
  obtain ⟨f, t, ca, la, da⟩ := a
  obtain ⟨f', t', cb', lb', db'⟩ := b
  obtain ⟨gx, ox, rfl, cx0, _⟩ := hx3 Y0 _ ha
  obtain ⟨gx', ox', eg, _, cx1, _⟩ := hx3 Y1 _ hbb
  injection eg with eg
  injection eg with eg1 eg2
  subst eg1 eg2
  simp only at haf hbt hle htl cx0 cx1
  obtain ⟨z, hz⟩ : ∃ z, z = at_ (tallL M xs ts f) t' := ⟨_, rfl⟩
  rw [← hz] at hle
  have hzt : (tallL M xs ts f)[t'.toNat]? = some z := by rw [getElem_at _ t'.toNat (by rw [tallL_length]; omega), show ((t'.toNat : Nat) : Int) = t' by omega, ← hz]
  have HZT := Lib.hid hzt
  have C1 := Lib.hid (fun q : PastOf w3 => implTurnAll_any (M : Int) (some ⟨gx, ox, none⟩) k cap xs E l ce ts f q.W hkk HX.out (hx3.below q.h) hll HT.out (ht3.below q.h))
  rw [htl] at C1
  have e1 : IntKind.i64.wrap ((r : Int) - 1) = ((r - 1 : Nat) : Int) := by rw [IntWalk.i64_in _ (by omega)]; omega
  have r0 : (0 : Int) < (r : Int) := by omega
  have r1 : (((r - 1 : Nat) : Int)) < (r : Int) := by omega
  have r2 : (0 : Int) ≤ (((r - 1 : Nat) : Int)) := by omega
  have r3 : ((((r - 1 : Nat) : Int)).toNat) = r - 1 := by omega
  have x0 : ((Y0 : Nat) : Int) < (k : Int) := by omega
  have x1 : ((Y1 : Nat) : Int) < (k : Int) := by omega
  have x2 : (0 : Int) ≤ (Y0 : Int) := by omega
  have x3 : (0 : Int) ≤ (Y1 : Int) := by omega
  have t0 : 0 ≤ t' := hbt.1
  have t1 : t' < (M : Int) := hbt.2
  have g2 : decide (z ≤ C) = true := decide_eq_true hle
  clear ha hbb hz0 hz1 hzt htl hall hT hO haf hbt hz HC
  rw [Nat.add_zero] at cy0
  have D0 := past_cell b1
  have D1 := past_cell cy0
  have D2 := past_cell cx0
  go_wp2_with fail
  refine wp_region_past (by kernel_rfl) (by kernel_rfl) ?_
  repeat (go_big_quiet_step (with_reducible exact rfl))
  refine wpQuiet_nil ?_
  rintro W8 ⟨pW, hpW⟩
  have hW8 : Past w3 W8 := by rw [hpW]; exact pW.h
  clear D0 D1 D2 hpW
  have b0 := cell_in hW8 b0
  have b1 := cell_in hW8 b1
  have cy1 := cell_in hW8 cy1
  have cx1 := cell_in hW8 cx1
  go_wp2_with fail
  go_region_with (first
      | (go_at_call 20; (with_reducible refine (C1.out ⟨W8.drew, hW8.drew⟩).mono ?_); rintro e w9 ⟨v9, rfl, hv9, hb9⟩; obtain ⟨D9, cd9, rfl, hd9, _⟩ := hv9.form; rw [tallL_length]; obtain ⟨g9, o9, rfl, c9⟩ := hd9 t'.toNat z HZT.out; have b0 := cell_in hb9 b0; have b1 := cell_in hb9 b1; have cy1 := cell_in hb9 cy1; have cx1 := cell_in hb9 cx1; clear hv9 hd9))
  all_goals go_wp2
  all_goals go_ret
  all_goals exact ⟨rfl, (hp3.trans hW8.drew).trans hb9⟩

set_option maxRecDepth 100000 in
theorem fnTurnBest_lifted (os : Os) (started : os.Started) (H : Type) (enc : TypeId × Value → H) :
    ReturnsInHanded {} Try.checked os 5 .any (Rows.fnTurnBestSpec.pre6 enc Try.prog Try.f5 Rows.fnTurnBestRow.domain false) (Rows.fnTurnBestSpec.post enc Try.prog Try.f5 false true false false) := by
  refine returnsInHanded_of_change (C := Try.checked) own started (by kernel_rfl) Try.func5
    (ChangeSpec.witness6 (enc := enc) (C := Try.checked) false ⟨#[], #[.slice none 0 0], []⟩ 8 (by kernel_rfl) (by kernel_rfl) (by kernel_rfl) (by kernel_rfl)) ?_
  intro W base args ds gs before hval0 hW hcnd _
  have hval : ∀ (j : Nat) t v, Try.f5.params[j]? = some t → args[j]? = some v → Value.okWide Try.prog W .any base t v := hval0
  have hW' := hW
  obtain ⟨p, q, hA0, hV, rfl, hfz, hnd⟩ := hW
  have hA : DataW.TrodAll enc Try.prog W 0 (fun _ => true) true Try.f5.params.toList args.toList ds p := hA0
  rw [Try.params5] at hA hval
  obtain ⟨v0, vs0, d0, ds0, p0, q0, hargs, rfl, rfl, h0, r0⟩ := trodAll_cons hA
  obtain ⟨rfl, rfl, rfl⟩ := trodAll_nil r0
  obtain rfl : args = #[v0] := by cases args; simp_all
  obtain ⟨rfl, rfl⟩ := trodVars_none hV
  have k0 := h0
  have lt0 := places_lt k0
  obtain ⟨A0, n0, c0, rfl, hn0, hc0, hb0⟩ := open_bytes (hval 0 43 v0 rfl rfl) h0
  clear hA0 hval0
  refine (fnTurnBest_walk A0 n0 c0 W hn0 hc0 hb0).mono fun e W' ⟨he, bel⟩ => ?_
  subst he
  exact ⟨_, rfl, _, _, _, [], _, [], hW', trodAll_mk1 (shut_bool Try.underlying4 _), (trodAll_cons_mk (Below.trod laidOut (by kernel_rfl) (of_decide_eq_true (by kernel_rfl)) k0 bel lt0) trodAll_mk0), rfl, bel.frame _, fun h => by cases h⟩

/-- The given statement. -/
theorem fnTurnBest_proved : Rows.FnTurnBestSaid :=
  OpenClaim.holds_of_wide 5 Try.f5 rfl rfl rfl rfl rfl rfl rfl ⟨rfl, rfl, rfl, rfl, rfl⟩ rfl rfl rfl rfl rfl (by kernel_rfl) Try.func5 (by kernel_rfl)
    (of_decide_eq_true (by kernel_rfl)) (by unfold Func.isWrapper; first | (rw [if_pos (by decide +kernel)]; kernel_rfl) | (rw [if_neg (by decide +kernel)]; exact ⟨rfl, rfl⟩))
    (fun os started H enc _ => fnTurnBest_lifted os started H enc)

end Go.Proofs.Ytaojognjkiifmaa
