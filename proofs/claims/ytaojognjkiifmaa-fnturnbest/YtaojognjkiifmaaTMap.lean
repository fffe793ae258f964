/-
  What the turns of a list cost, as a map: impl.turnCosts. No condition.
-/
import Derived.Test.YtaojognjkiifmaaPTurn2
import Derived.Maps.OwnSet
import Derived.Maps.Own
import Derived.DeepKeys4
namespace Go.Proofs.Ytaojognjkiifmaa
open Go.RowKit Go.Maps

theorem pairLaid : laidOutB Try.prog = true := by kernel_rfl
theorem pairRow : (106 : TypeId) < Try.prog.types.size := of_decide_eq_true (by kernel_rfl)
theorem pairLaw : Keyed Try.prog 106 := Keyed.of_law (deep_law_laid pairLaid (m := 2) (by omega) pairRow (by kernel_rfl) (by rw [Try.underlying106]))
theorem pairKeyType : Try.prog.keyType 106 = true := by kernel_rfl
theorem pairCells : Try.prog.cellsOf 106 = 2 := by kernel_rfl
theorem intCells : Try.prog.cellsOf 3 = 1 := by kernel_rfl
theorem succ_of {n k : Nat} (h : k < n) : ∃ s, n = s + 1 := ⟨n - 1, by omega⟩
theorem pairSize : ∃ s, Try.prog.types.size = s + 1 := succ_of pairRow

/-- Two numbers are a key. -/
theorem pair_key (a b : Int) (ha : (Lit.int .i64 a).wf = true) (hb : (Lit.int .i64 b).wf = true) : ∃ l, keyOf Try.prog 106 (.agg #[.int .i64 a, .int .i64 b]) = some l := by
  obtain ⟨s, hs⟩ := pairSize
  unfold keyOf
  rw [Try.underlying106, pairKeyType]
  have hf : (Value.agg #[.int .i64 a, .int .i64 b]).formed Try.prog 106 = true := by simp [Value.formed, Try.underlying106, pairCells]
  simp only [hf, Bool.and_self, if_true, hs]
  have e1 : Try.prog.keyLits (s + 1) 3 [.int .i64 a] = some [.int .i64 a] := by simp [Program.keyLits, Try.underlying3, ha]
  have e2 : Try.prog.keyLits (s + 1) 3 [.int .i64 b] = some [.int .i64 b] := by simp [Program.keyLits, Try.underlying3, hb]
  have e3 : Try.prog.keyLits (s + 1 + 1) 106 (Value.agg #[.int .i64 a, .int .i64 b]).cells.toList = some [.int .i64 a, .int .i64 b] := by
    unfold Program.keyLits
    simp [Try.underlying106, Value.cells, pairCells, intCells, e1, e2]
  rw [e3]
  exact ⟨_, rfl⟩

def pairV (a b : Int) : Value := .agg #[.int .i64 a, .int .i64 b]
theorem pairV_inj {a b a' b' : Int} (h : pairV a b = pairV a' b') : a = a' ∧ b = b' := by
  simp [pairV] at h
  exact h

/-- What a map holds of the first k turns: which keys, and how many. -/
structure MapOf (ts : List TurnD) (k : Nat) (D : DataW Unit) : Prop where
  keys : ∀ a b l, keyOf Try.prog 106 (pairV a b) = some l → Maps.has D l = (ts.take k).any (sameT a b)
  size : Maps.size D = distT ts k
  vals : ∀ a b l, keyOf Try.prog 106 (pairV a b) = some l → D.atKey l (.lit (.int .i64 0)) = .lit (.int .i64 (costLT ts a b k))

theorem MapOf.next {ts : List TurnD} {k : Nat} {D : DataW Unit} {t : TurnD} {l : Lit} (h : MapOf ts k D) (ht : Tidy D) (hm : IsMap D) (ha : ts[k]? = some t) (hl : keyOf Try.prog 106 (pairV t.x0 t.x1) = some l) : MapOf ts (k + 1) (D.put l (.lit (.int .i64 t.x2))) := by
  refine ⟨fun a b l' hl' => ?_, ?_, fun a b l' hl' => ?_⟩
  · rw [List.take_add_one, ha, List.any_append]
    by_cases e : t.x0 = a ∧ t.x1 = b
    · obtain ⟨rfl, rfl⟩ := e
      have e' : l = l' := Option.some.inj (hl.symm.trans hl')
      subst e'
      rw [has_put_same hm (pairLaw.key hl)]
      simp [sameT]
    · have hne : l' ≠ l := fun e' => by
        subst e'
        obtain ⟨h1, h2⟩ := pairV_inj (pairLaw.inj hl hl')
        exact e ⟨h1, h2⟩
      rw [has_put_other hne, h.keys a b l' hl']
      have : sameT a b t = false := by
        simp only [sameT, Bool.and_eq_false_iff, decide_eq_false_iff_not]
        by_cases e1 : t.x0 = a
        · exact .inr fun e2 => e ⟨e1, e2⟩
        · exact .inl e1
      simp [this]
  · rw [size_put ht, h.keys _ _ _ hl, h.size, distT_next ha]
  · by_cases e : t.x0 = a ∧ t.x1 = b
    · have hs := sameT_iff.2 e
      obtain ⟨rfl, rfl⟩ := e
      have e' : l = l' := Option.some.inj (hl.symm.trans hl')
      subst e'
      rw [atKey_put_same hm (pairLaw.key hl), costLT_hit ha hs]
    · have hne : l' ≠ l := fun e' => by
        subst e'
        obtain ⟨h1, h2⟩ := pairV_inj (pairLaw.inj hl hl')
        exact e ⟨h1, h2⟩
      have hs : sameT a b t = false := by
        rw [Bool.eq_false_iff]
        exact fun hs => e (sameT_iff.1 hs)
      rw [atKey_put_other hne, h.vals a b l' hl', costLT_miss ha hs]

set_option maxRecDepth 100000 in
set_option maxHeartbeats 2000000 in
theorem turnCosts_any (A : Option Addr) (n c : Nat) (ts : List TurnD) (w : World) (hn : n ≤ 1048576) (hl : ts.length = n) (ht : TurnsAt w A ts) (hw : ∀ t ∈ ts, (Lit.int .i64 t.x0).wf = true ∧ (Lit.int .i64 t.x1).wf = true ∧ (Lit.int .i64 t.x2).wf = true) :
    Calls Try.prog 77 #[.slice A n c] w fun e w' => ∃ B D, e = .returned (.map (some B)) ∧ w'.ownsMap Try.prog 106 (plainElem (H := Unit) Try.prog 3) B n D ∧ MapOf ts n D ∧ Below w.heap.size w w' := by
  have hmm := @run_makeMap Try.prog
  have HL := Lib.hid hl
  have HW := Lib.hid hw
  clear hl hw
  go_enter Try.func77, Try.ntmps77
  go_wp2
  go_loopw [9] (fun i wr => ∃ (k : Nat) (D : DataW Unit), k ≤ n ∧ i = .int .i64 k ∧ wr.ownsMap Try.prog 106 (plainElem (H := Unit) Try.prog 3) w.heap.size k D ∧ MapOf ts k D ∧ Below w.heap.size w wr) (fun i _ => n - (intOf i).toNat)
  case atStart => exact ⟨0, _, Nat.zero_le _, rfl, World.ownsMap_made _ _ _ _, ⟨fun a b l _ => by simp [Maps.has], rfl, fun a b l _ => atKey_of_not_has (by simp [Maps.has]) _⟩, (Below.refl _ _).alloc (Nat.le_refl _) _⟩
  case round =>
    obtain ⟨k, D, hk, rfl, hown, hM, hb⟩ := hrel
    by_cases hlt : k < n
    · obtain ⟨⟨x0, x1, x2⟩, ha⟩ : ∃ a, ts[k]? = some a := ⟨_, List.getElem?_eq_getElem (by have := HL.out; omega)⟩
      obtain ⟨g, o, rfl, c0, c1, c2⟩ := (ht.below hb) k _ ha
      obtain ⟨w0, w1, w2⟩ := HW.out _ (List.mem_of_getElem? ha)
      obtain ⟨l, hkey⟩ := pair_key x0 x1 w0 w1
      have hT := hown.tidy pairLaw
      have hI : IsMap D := hT.isMap
      have HM := Lib.hid (hM.next hT hI ha hkey)
      have hlw : w.heap.size < wr.heap.size := hown.lt
      have hownA := hown.alloc (.cells #[.int .i64 x0, .int .i64 x1, .int .i64 x2] 54)
      have i0 : (0 : Int) ≤ (k : Int) := by omega
      have i1 : (k : Int) < (n : Int) := by omega
      clear ha hM hT hI
      go_wp2_with (first | (at_mapUpdate; refine wpList_mapUpdate_own _ rfl _ _ _ 100 rfl 106 3 pairLaw Try.underlying100 _ w.heap.size k _ rfl hownA (by unfold maxLen; omega) _ _ _ rfl rfl hkey _ [] (plainElem_int Try.underlying3 w2) ?_; intro w3 hown1 hgrow1))
      go_roundw
      case rel => exact ⟨k + 1, _, by omega, by go_num, hown1, HM.out, Below.grown ((hb.alloc hb.size _)) hgrow1 (by have := hb.size; simp; omega) (fun j hj => by cases hj; exact Nat.le_refl _)⟩
      case measure => simp [intOf]; omega
    · obtain rfl : n = k := by omega
      go_wp2
      go_ret
      exact ⟨_, D, rfl, hown, hM, hb⟩

end Go.Proofs.Ytaojognjkiifmaa
