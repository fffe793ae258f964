/-
  Step: 2 numbers as they lie in memory, slices of them, and the copies, comparisons and marks that the laws make of them. No condition.
-/
import Derived.Test.YtiihmagdimekgabMarkB
import Derived.Test.YtiihmagdimekgabOpenW
namespace Go.Proofs.Ytiihmagdimekgab
open Go.RowKit

structure StepD where
  x0 : Int
  x1 : Int
  deriving DecidableEq, Inhabited

def StepRec (w : World) (g p : Nat) (a : StepD) : Prop :=
  w.cell? ⟨g, p, none⟩ = some (.int .i64 a.x0) ∧ w.cell? ⟨g, p + 1, none⟩ = some (.int .i64 a.x1)

/-- A slice's address leads to these. -/
def StepsAt (w : World) (A : Option Addr) (xs : List StepD) : Prop :=
  ∀ (k : Nat) (a : StepD), xs[k]? = some a → ∃ g o, A = some ⟨g, o, none⟩ ∧ StepRec w g (o + k * 2) a

theorem StepRec.lt {w : World} {g p : Nat} {a : StepD} (h : StepRec w g p a) : g < w.heap.size := lt_of_cell h.1
theorem StepRec.keep {w w' : World} {g p : Nat} {a : StepD} (h : StepRec w g p a) (e : w'.heap[g]? = w.heap[g]?) : StepRec w' g p a := by
  have hc : ∀ o, w'.cell? ⟨g, o, none⟩ = w.cell? ⟨g, o, none⟩ := fun o => World.cell?_of_block (w := w) (a := ⟨g, o, none⟩) e
  unfold StepRec
  simp only [hc]
  exact h
theorem StepsAt.below {w w' : World} {A : Option Addr} {xs : List StepD} (h : StepsAt w A xs) (hb : Below w.heap.size w w') : StepsAt w' A xs := fun k a hk => by
  obtain ⟨g, o, hA, h5⟩ := h k a hk
  exact ⟨g, o, hA, h5.keep (hb.block g h5.lt)⟩
theorem StepsAt.drew {w : World} {A : Option Addr} {xs : List StepD} (h : StepsAt w A xs) : StepsAt w.drew A xs := h
theorem StepsAt.old {wE w w' : World} {A : Option Addr} {xs : List StepD} {g : Nat} (hE : StepsAt wE A xs) (h : StepsAt w A xs) (hg : w.grownBy w' (some g)) (hle : wE.heap.size ≤ g) : StepsAt w' A xs := fun k x hk => by
  obtain ⟨b, o, rfl, hc⟩ := hE k x hk
  obtain ⟨b', o', e, hc'⟩ := h k x hk
  have hb := hc.lt
  injection e with e
  injection e with e1 e2
  subst e1 e2
  exact ⟨b, o, rfl, hc'.keep (hg.block b hc'.lt (by simp only [ne_eq, Option.some.injEq]; omega))⟩
theorem StepsAt.young {w w' : World} {A : Option Addr} {xs : List StepD} {g lo t : Nat} (ho : OwnAt w lo A t 2 xs.length) (h : StepsAt w A xs) (hg : w.grownBy w' (some g)) (hlt : g < lo) : StepsAt w' A xs := fun k x hk => by
  obtain ⟨b', o', rfl, hc'⟩ := h k x hk
  rcases ho with ⟨h0, _⟩ | ⟨b, sz, e, hl, _, _⟩
  · cases h0
  · injection e with e
    injection e with e1 e2
    subst e1
    exact ⟨b', o', rfl, hc'.keep (hg.block b' hc'.lt (by simp only [ne_eq, Option.some.injEq]; omega))⟩
theorem StepsAt.under {wE w w' : World} {A : Option Addr} {xs : List StepD} {lo : Nat} (hE : StepsAt wE A xs) (h : StepsAt w A xs) (hb : Below lo w w') (hle : wE.heap.size ≤ lo) : StepsAt w' A xs := fun k x hk => by
  obtain ⟨b, o, rfl, hc⟩ := hE k x hk
  obtain ⟨b', o', e, hc'⟩ := h k x hk
  have hb' := hc.lt
  injection e with e
  injection e with e1 e2
  subst e1 e2
  exact ⟨b, o, rfl, hc'.keep (hb.block b (by omega))⟩

/-- Block g is a row for n of them, of which the first k are there. -/
def MadeStep (w : World) (g t n : Nat) (xs : List StepD) (k : Nat) : Prop :=
  RowN w g t (n * 2) ∧ ∀ j a, j < k → xs[j]? = some a → StepRec w g (j * 2) a
theorem MadeStep.below {w w' : World} {g t n k : Nat} {xs : List StepD} (h : MadeStep w g t n xs k) (hb : Below w.heap.size w w') : MadeStep w' g t n xs k := by
  have e := hb.block g h.1.lt
  exact ⟨h.1.keep e, fun j a hj ha => (h.2 j a hj ha).keep e⟩
theorem MadeStep.start (w : World) (t n : Nat) (xs : List StepD) (cs : Array Value) (hs : cs.size = n * 2) : MadeStep (w.alloc (.cells cs t)) w.heap.size t n xs 0 :=
  ⟨⟨cs, heap_alloc_new w _, hs⟩, fun j a hj => absurd hj (by omega)⟩
theorem StepRec.set {w : World} {g p : Nat} {a : StepD} (h : StepRec w g p a) (q : Nat) (u : Value) (hq : q < p ∨ p + 1 < q) : StepRec (w.setCell ⟨g, q, none⟩ u) g p a := by
  have hc : ∀ o, p ≤ o → o ≤ p + 1 → (w.setCell ⟨g, q, none⟩ u).cell? ⟨g, o, none⟩ = w.cell? ⟨g, o, none⟩ := fun o h1 h2 => World.cell?_setCell_other w ⟨g, q, none⟩ ⟨g, o, none⟩ u (by intro e; injection e; omega)
  unfold StepRec
  rw [hc (p) (by omega) (by omega), hc (p + 1) (by omega) (by omega)]
  exact h
theorem StepRec.far {w : World} {g p : Nat} {a : StepD} (h : StepRec w g p a) (q : Addr) (u : Value) (hq : g ≠ q.block) : StepRec (w.setCell q u) g p a := h.keep (Below.heap_setCell w q u g hq)

theorem StepRec.put {w : World} {g t n p : Nat} (h : RowN w g t n) (hp : p + 1 < n) (x0 x1 : Int) :
    StepRec ((w.setCell ⟨g, p, none⟩ (.int .i64 x0)).setCell ⟨g, p + 1, none⟩ (.int .i64 x1)) g p ⟨x0, x1⟩ := by
  have same : ∀ (u : World) (q : Nat) (x : Value), RowN u g t n → q < n → (u.setCell ⟨g, q, none⟩ x).cell? ⟨g, q, none⟩ = some x := fun u q x hu hq => by
    obtain ⟨v, hv⟩ := hu.cell hq
    exact World.cell?_setCell_same u ⟨g, q, none⟩ x hv
  have oth : ∀ (u : World) (q o : Nat) (x : Value), q ≠ o → (u.setCell ⟨g, q, none⟩ x).cell? ⟨g, o, none⟩ = u.cell? ⟨g, o, none⟩ := fun u q o x hq =>
    World.cell?_setCell_other u ⟨g, q, none⟩ ⟨g, o, none⟩ x (by intro e; injection e; omega)
  refine ⟨?_, ?_⟩
  · rw [oth _ _ _ _ (by omega), same _ _ _ h (by omega)]
  · rw [same _ _ _ (h.set _ _) (by omega)]
theorem MadeStep.next {w : World} {g t n k : Nat} {xs : List StepD} {x0 x1 : Int} (h : MadeStep w g t n xs k) (ha : xs[k]? = some ⟨x0, x1⟩) (hk : k < n) :
    MadeStep ((w.setCell ⟨g, k * 2, none⟩ (.int .i64 x0)).setCell ⟨g, k * 2 + 1, none⟩ (.int .i64 x1)) g t n xs (k + 1) := by
  refine ⟨((h.1.set _ _).set _ _), fun j a hj hja => ?_⟩
  rcases Nat.lt_or_ge j k with hlt | hge
  · exact (((h.2 j a hlt hja).set _ _ (by omega)).set _ _ (by omega))
  · obtain rfl : j = k := by omega
    rw [ha] at hja
    injection hja with hja
    subst hja
    exact StepRec.put h.1 (by omega) _ _
theorem MadeStep.at_ {w : World} {g t n : Nat} {xs : List StepD} (h : MadeStep w g t n xs n) (hl : xs.length = n) : StepsAt w (some ⟨g, 0, none⟩) xs := fun k a ha => by
  have hk : k < n := by rw [← hl]; exact (List.getElem?_eq_some_iff.1 ha).1
  exact ⟨g, 0, rfl, by rw [Nat.zero_add]; exact h.2 k a hk ha⟩

def cellsStep : List StepD → List Value
  | [] => []
  | a :: xs => .int .i64 a.x0 :: .int .i64 a.x1 :: cellsStep xs
theorem cellsStep_append (a b : List StepD) : cellsStep (a ++ b) = cellsStep a ++ cellsStep b := by
  induction a with
  | nil => rfl
  | cons x a ih => simp [cellsStep, ih]
theorem cellsStep_length (xs : List StepD) : (cellsStep xs).length = xs.length * 2 := by
  induction xs with
  | nil => rfl
  | cons x a ih => simp [cellsStep, ih]; omega
theorem cellsStep_one (xs : List StepD) : ∀ u ∈ cellsStep xs, u.oneCell' = true := by
  induction xs with
  | nil => simp [cellsStep]
  | cons x a ih =>
    intro u hu
    simp only [cellsStep, List.mem_cons] at hu
    rcases hu with rfl | rfl | hu
    all_goals first | rfl | exact ih u hu
theorem cells_of_steps {w : World} {g : Nat} (xs : List StepD) : ∀ o, (∀ k a, xs[k]? = some a → StepRec w g (o + k * 2) a) → ∀ j u, (cellsStep xs)[j]? = some u → w.cell? ⟨g, o + j, none⟩ = some u := by
  induction xs with
  | nil => intro o _ j u h; simp [cellsStep] at h
  | cons a xs ih =>
    intro o h j u hu
    have h0 := h 0 a rfl
    simp only [Nat.zero_mul, Nat.add_zero] at h0
    match j, hu with
    | 0, hu => simp [cellsStep] at hu; subst hu; exact h0.1
    | 1, hu => simp [cellsStep] at hu; subst hu; exact h0.2
    | j + 2, hu =>
      have := ih (o + 2) (fun k b hk => by
        have := h (k + 1) b (by simpa using hk)
        rw [show o + (k + 1) * 2 = o + 2 + k * 2 by omega] at this
        exact this) j u (by simpa [cellsStep] using hu)
      rw [show o + 2 + j = o + (j + 2) by omega] at this
      exact this
theorem steps_of_cells {w : World} {g : Nat} (xs : List StepD) : ∀ o, (∀ j u, (cellsStep xs)[j]? = some u → w.cell? ⟨g, o + j, none⟩ = some u) → ∀ k a, xs[k]? = some a → StepRec w g (o + k * 2) a := by
  induction xs with
  | nil => intro o _ k a h; simp at h
  | cons b xs ih =>
    intro o h k a hk
    cases k with
    | zero =>
      simp only [List.getElem?_cons_zero, Option.some.injEq] at hk
      subst hk
      simp only [Nat.zero_mul, Nat.add_zero]
      exact ⟨h 0 _ rfl, h 1 _ rfl⟩
    | succ k =>
      have := ih (o + 2) (fun j u hu => by
        have := h (j + 2) u (by simpa [cellsStep] using hu)
        rw [show o + (j + 2) = o + 2 + j by omega] at this
        exact this) k a (by simpa using hk)
      rw [show o + 2 + k * 2 = o + (k + 1) * 2 by omega] at this
      exact this
/-- v is a slice of the call's own (from block lo on) that holds these. -/
def ResStep (w : World) (lo : Nat) (v : Value) (xs : List StepD) : Prop := w.ownsRow lo 42 2 v xs.length (cellsStep xs)
theorem ResStep.nil (w : World) (lo : Nat) : ResStep w lo (.slice none 0 0) [] := World.ownsRow_nil w lo _ _
theorem ResStep.form {w : World} {lo : Nat} {v : Value} {xs : List StepD} (h : ResStep w lo v xs) : ∃ A c, v = .slice A xs.length c ∧ StepsAt w A xs ∧ OwnAt w lo A 42 2 xs.length := by
  rcases h.2 with ⟨rfl, h0⟩ | ⟨g, cap, cur, rfl, hlo, hh, hn, hm, hs, ht⟩
  · have : xs = [] := List.eq_nil_of_length_eq_zero h0
    subst this
    exact ⟨none, 0, rfl, fun k x hk => by simp at hk, .inl ⟨rfl, rfl⟩⟩
  · refine ⟨_, _, rfl, fun k a hk => ⟨g, 0, rfl, steps_of_cells xs 0 (fun j u hu => ?_) k a hk⟩, .inr ⟨g, cur.size, rfl, hlo, ⟨cur, hh, rfl⟩, by rw [hs]; exact Nat.mul_le_mul_right _ hn⟩⟩
    have := h.cells (g := g) rfl j u hu
    rw [Addr.add_lit] at this
    exact this
theorem ResStep.below {w w' : World} {lo : Nat} {v : Value} {xs : List StepD} (h : ResStep w lo v xs) (hb : Below w.heap.size w w') : ResStep w' lo v xs :=
  World.ownsRow.kept h (grown_of_below hb none) (by cases hv : v.ownBlock <;> simp)
theorem ResStep.drewN {w : World} {lo : Nat} {v : Value} {xs : List StepD} (h : ResStep w lo v xs) (n : Nat) : ResStep (w.drewN n) lo v xs := h
theorem ResStep.drew {w : World} {lo : Nat} {v : Value} {xs : List StepD} (h : ResStep w lo v xs) : ResStep w.drew lo v xs := h
theorem ResStep.lower {w : World} {lo lo' : Nat} {v : Value} {xs : List StepD} (h : ResStep w lo v xs) (hl : lo' ≤ lo) : ResStep w lo' v xs := by
  refine ⟨h.1, ?_⟩
  rcases h.2 with h0 | ⟨g, cap, cur, hv, hlo, r⟩
  · exact .inl h0
  · exact .inr ⟨g, cap, cur, hv, by omega, r⟩
theorem ResStep.push {w : World} {lo : Nat} {v : Value} {xs : List StepD} {a : StepD} (h : w.ownsRow lo 42 2 v (xs.length + 1) (cellsStep xs ++ [.int .i64 a.x0, .int .i64 a.x1])) : ResStep w lo v (xs ++ [a]) := by
  unfold ResStep
  rw [cellsStep_append, List.length_append]
  exact h
/-- A slice of them in new memory is handed back; with a truth. -/
def GivesStep (w : World) (zs : List StepD) (e : Ending) (w' : World) : Prop := ∃ v, e = .returned v ∧ ResStep w' w.heap.size v zs ∧ Below w.heap.size w w'
def GivesStepB (w : World) (zs : List StepD) (b : Bool) (e : Ending) (w' : World) : Prop := ∃ v, e = .returned (.tuple #[v, .bool b]) ∧ ResStep w' w.heap.size v zs ∧ Below w.heap.size w w'
theorem newStep (w : World) (x0 x1 : Value) (t : Nat) : ∀ j u, ([x0, x1] : List Value)[j]? = some u → (w.alloc (.cells #[x0, x1] t)).cell? ((⟨w.heap.size, 0, none⟩ : Addr).add j) = some u := by
  intro j u hu
  rw [Addr.add_lit, Nat.zero_add, cell_of_row _ _ _ _ _ _ (heap_alloc_new w _)]
  simpa using hu
theorem infoStep : (Try.prog.info? 42).map (fun i => (i.zero, i.size, i.bytes)) = some (some (.agg #[.int .i64 0, .int .i64 0]), 2, 16) := by kernel_rfl

theorem szStepS_any (A : Option Addr) (n cap : Nat) (left : Int) (w : World) (h0 : 0 ≤ left) (h1 : left ≤ 1048576) (hn : n ≤ maxLen) :
    Calls Try.prog 15 #[.slice A n cap, .int .i64 left] w fun e w' => e = .returned (.int .i64 (roomLeft left n)) ∧ w = w' := by
  unfold maxLen at hn
  by_cases h : left - n < 0
  · go_enter Try.func15, Try.ntmps15
    go_wp2
    go_ret
    exact ⟨ret_int (by unfold roomLeft; split <;> omega), rfl⟩
  · go_enter Try.func15, Try.ntmps15
    go_wp2
    go_ret
    exact ⟨ret_int (by unfold roomLeft; split <;> omega), rfl⟩

theorem toStep_any (x0 x1 : Int) (w : World) :
    Calls Try.prog 41 #[.agg #[.int .i64 x0, .int .i64 x1]] w fun e w' =>
      e = .returned (.agg #[.int .i64 x0, .int .i64 x1]) ∧ Below w.heap.size w w' := by
  go_enter Try.func41, Try.ntmps41
  go_wp2
  exact bodyPost_ret (v := .agg #[.int .i64 x0, .int .i64 x1]) (by simp [results, Try.results41, go_sem]) rfl ⟨rfl, by repeat (first | exact Below.refl _ _ | refine Below.alloc ?_ (by simp <;> omega) _ | refine Below.setCell ?_ (by simp <;> omega) _)⟩

theorem makeStep (n : Nat) (hn : n ≤ 1048576) (u : World) : (Instr.makeSlice 25 (.int .i64 (n : Int)) (.int .i64 (n : Int))).run Try.prog u =
    .ok (.slice (some ⟨u.heap.size, 0, none⟩) n n) (u.alloc (.cells (madeCells #[.int .i64 0, .int .i64 0] (n * 2)) 42)) := by
  obtain ⟨i0, hi, hz0, hz1, hz2⟩ := info_parts infoStep
  have h := run_make (P := Try.prog) u 25 42 i0 _ Try.underlying25 hi hz0 .i64 .i64 (n : Int) (n : Int) (by omega) (Int.le_refl _) (by rw [hz2]; omega) (by omega)
  simpa [hz1, Value.cells] using h

/-- A copy in new memory. -/
def NewStep (w : World) (n : Nat) (xs : List StepD) (e : Ending) (w' : World) : Prop :=
  ∃ g, e = .returned (.slice (some ⟨g, 0, none⟩) n n) ∧ Below w.heap.size w w' ∧ w.heap.size ≤ g ∧ MadeStep w' g 42 n xs n

set_option maxHeartbeats 1000000 in
theorem toStepS_any (A : Option Addr) (n cap : Nat) (xs : List StepD) (w : World) (hn : n ≤ 1048576) (hl : xs.length = n) (hx : StepsAt w A xs) :
    Calls Try.prog 17 #[.slice A n cap] w (NewStep w n xs) := by
  have hmk := makeStep n hn
  go_enter Try.func17, Try.ntmps17
  go_wp2
  go_loopw [4] (fun i wr => ∃ k : Nat, k ≤ n ∧ i = .int .i64 k ∧ Below w.heap.size w wr ∧ MadeStep wr w.heap.size 42 n xs k) (fun i _ => n - (intOf i).toNat)
  case atStart => exact ⟨0, by omega, rfl, (Below.refl _ _).alloc (Nat.le_refl _) _, MadeStep.start _ _ _ _ _ (by simp [size_madeCells])⟩
  case round =>
    obtain ⟨k, hk, rfl, hb, hm⟩ := hrel
    by_cases hlt : k < n
    · obtain ⟨⟨x0, x1⟩, ha⟩ : ∃ a, xs[k]? = some a := ⟨_, List.getElem?_eq_getElem (by omega)⟩
      obtain ⟨g, o, rfl, c0, c1⟩ := (hx.below hb) k _ ha
      have HA := Lib.hid ha
      have HL := Lib.hid hl
      clear ha hl
      go_wp2_with fail
      refine (toStep_any x0 x1 _).mono ?_
      rintro e w1 ⟨rfl, hb1⟩
      have hm1 := hm.below hb1
      obtain ⟨v0, e0⟩ := hm1.1.cell (i := k * 2) (by omega)
      obtain ⟨v1, e1⟩ := hm1.1.cell (i := k * 2 + 1) (by omega)
      have z0 := hm1.1.frozen (k * 2)
      have z1 := hm1.1.frozen (k * 2 + 1)
      go_wp2
      go_roundw
      case rel => exact ⟨k + 1, by omega, by go_num, (((hb.trans (hb1.mono hb.size)).setCell (by simp) _).setCell (by simp) _), hm1.next HA.out hlt⟩
      case measure => simp [intOf]; omega
    · obtain rfl : n = k := by omega
      go_wp2
      go_ret
      exact ⟨_, rfl, hb, Nat.le_refl _, hm⟩

set_option maxRecDepth 100000 in
open Go.ChangeShapes Go.WideShapes Go.ChangeAt Go.Deep Go.Joins in
theorem open_steps {H : Type} {enc : TypeId × Value → H} {W : World} {fuel : Nat} {v : Value} {x : DataW H × List MemPlace} (h : DataW.trod enc Try.prog W 0 (fun _ => true) true fuel 22 [v] = some x) :
    ∃ (A : Option Addr) (n c : Nat) (xs : List StepD), v = .slice A n c ∧ xs.length = n ∧ n ≤ maxLen ∧ StepsAt W A xs := by
  rcases open_slice Try.underlying22 h with ⟨hcs, _⟩ | ⟨a, len, cap, m, n, D, Pl, hcs, _, hl, hm, hmm, _, hi⟩
  · injection hcs with hcs
    exact ⟨none, 0, 0, [], hcs, rfl, Nat.zero_le _, fun k a hk => by simp at hk⟩
  · injection hcs with hcs
    simp only [if_true] at hmm
    subst hmm
    have hC : Try.prog.cellsOf 50 = 2 := by kernel_rfl
    have hI : Try.prog.cellsOf 3 = 1 := by kernel_rfl
    have spot : 0 < len → ∃ g o, a = ⟨g, o, none⟩ := fun h0 => by
      obtain ⟨cs', hc, _⟩ := hi 0 (by omega)
      rw [hC] at hc
      obtain ⟨_, hcl, hat⟩ := World.cells?_some hc
      have := hat 0 (by omega)
      rw [add_add, List.getElem?_eq_getElem (by omega)] at this
      exact spotless this
    have key : ∀ i, i < len → ∃ b : StepD, ∃ g o, a = ⟨g, o, none⟩ ∧ StepRec W g (o + i * 2) b := fun i hlt => by
      obtain ⟨cs', hc, ht⟩ := hi i (by omega)
      rw [hC] at hc
      obtain ⟨_, hcl, hat⟩ := World.cells?_some hc
      obtain ⟨ys, n', _, _, _, _, hf⟩ := DataW.trod_struct Try.underlying50 ht
      match cs', hcl with
      | [v0, v1], _ =>
        have h5 : ys.length = 2 := by assumption
        match ys, h5 with
        | [y0, y1], _ =>
          have f0 : DataW.trod enc Try.prog W 0 (fun _ => true) true n' 3 (([v0, v1].drop 0).take (Try.prog.cellsOf 3)) = some y0 := hf 0 _ rfl
          have f1 : DataW.trod enc Try.prog W 0 (fun _ => true) true n' 3 (([v0, v1].drop 1).take (Try.prog.cellsOf 3)) = some y1 := hf 1 _ rfl
          rw [hI] at f0 f1
          obtain ⟨z0, e0, _⟩ := DataW.trod_int Try.underlying3 f0
          obtain ⟨z1, e1, _⟩ := DataW.trod_int Try.underlying3 f1
          simp at e0 e1
          subst e0 e1
          have c0 := hat 0 (by omega)
          have c1 := hat 1 (by omega)
          rw [add_add] at c0 c1
          obtain ⟨g, o, rfl⟩ := spot (by omega)
          simp only [addr_add] at c0 c1
          exact ⟨⟨z0, z1⟩, g, o, rfl, by simpa using c0, by simpa [Nat.add_assoc] using c1⟩
    obtain ⟨F, hF⟩ := choose_lt (α := StepD) (p := fun i b => ∃ g o, a = ⟨g, o, none⟩ ∧ StepRec W g (o + i * 2) b) (fun i hlt => by
      obtain ⟨b, h⟩ := key i hlt
      exact ⟨b, h⟩)
    refine ⟨some a, len, _, (List.range len).map F, hcs, by simp, by omega, fun k b hk => ?_⟩
    have hlt : k < len := by simpa using (List.getElem?_eq_some_iff.1 hk).1
    simp [hlt] at hk
    subst hk
    obtain ⟨g, o, ha, h5⟩ := hF k hlt
    exact ⟨g, o, by rw [ha], h5⟩
open Go.ChangeShapes Go.WideShapes Go.ChangeAt Go.Deep Go.Joins in
theorem open_Step {H : Type} {enc : TypeId × Value → H} {W : World} {r : Reach} {b0 : Nat} {v : Value} {d : DataW H} {p : List MemPlace} (hv : Value.okWide Try.prog W r b0 22 v)
    (h : DataW.Trod enc Try.prog W 0 (fun _ => true) true 22 v d p) : ∃ (A : Option Addr) (n c : Nat) (xs : List StepD), v = .slice A n c ∧ xs.length = n ∧ n ≤ maxLen ∧ StepsAt W A xs := by
  obtain ⟨a0, len, cap, rfl⟩ := okWide_slice Try.underlying22 hv
  obtain ⟨fuel, hf⟩ := h
  exact open_steps (by simpa [Value.cells] using hf)

theorem eqStep_same (x0 x1 : Int) (w : World) :
    Calls Try.prog 43 #[.agg #[.int .i64 x0, .int .i64 x1], .agg #[.int .i64 x0, .int .i64 x1]] w fun e w' => e = .returned (.bool true) ∧ Below w.heap.size w w' := by
  go_enter Try.func43, Try.ntmps43
  go_wp2
  go_ret
  exact ⟨rfl, ((Below.refl _ _).alloc (Nat.le_refl _) _).alloc (by simp) _⟩

set_option maxRecDepth 100000 in
set_option maxHeartbeats 1000000 in
theorem eqStepS_same (A B : Option Addr) (n c c' : Nat) (xs : List StepD) (w : World) (hn : n ≤ 1048576) (hl : xs.length = n) (hx : StepsAt w A xs) (hy : StepsAt w B xs) :
    Calls Try.prog 19 #[.slice A n c, .slice B n c'] w fun e w' => e = .returned (.bool true) ∧ Below w.heap.size w w' := by
  go_enter Try.func19, Try.ntmps19
  go_wp2
  go_loopw [5] (fun i wr => ∃ k : Nat, k ≤ n ∧ i = .int .i64 k ∧ Below w.heap.size w wr) (fun i _ => n - (intOf i).toNat)
  case atStart => exact ⟨0, by omega, rfl, Below.refl _ _⟩
  case round =>
    obtain ⟨k, hk, rfl, hb⟩ := hrel
    by_cases hlt : k < n
    · obtain ⟨⟨x0, x1⟩, ha⟩ : ∃ a, xs[k]? = some a := ⟨_, List.getElem?_eq_getElem (by omega)⟩
      obtain ⟨g, o, rfl, c0, c1⟩ := (hx.below hb) k _ ha
      obtain ⟨g', o', rfl, d0, d1⟩ := (hy.below hb) k _ ha
      have hi : (k : Int) < (n : Int) := by omega
      have h0 : (0 : Int) ≤ (k : Int) := by omega
      clear ha hl
      go_wp2_with fail
      go_still_tail 8, (by kernel_rfl)
      change wpList _ _ _ _ _ wr.drew
      go_wp2_with fail
      refine (eqStep_same x0 x1 _).mono ?_
      rintro e w1 ⟨rfl, hb1⟩
      go_wp2
      go_roundw
      case rel => exact ⟨k + 1, by omega, by go_num, hb.drew.trans (hb1.mono hb.size)⟩
      case measure => simp [intOf]; omega
    · go_wp2
      go_ret
      exact ⟨rfl, hb⟩

def markSteps (k : Nat) (n : Nat) : List StepD := (List.range n).map fun i => ⟨((k + 2 * i : Nat) : Int), ((k + 2 * i + 1 : Nat) : Int)⟩
theorem markSteps_length (k n : Nat) : (markSteps k n).length = n := by simp [markSteps]
theorem markSteps_at (k n i : Nat) (h : i < n) : (markSteps k n)[i]? = some ⟨((k + 2 * i : Nat) : Int), ((k + 2 * i + 1 : Nat) : Int)⟩ := by simp [markSteps, h]
/-- The row and the marks so far. -/
def MarkedToStep (w : World) (g t sz k n j : Nat) : Prop := RowN w g t sz ∧ ∀ i a, i < j → (markSteps k n)[i]? = some a → StepRec w g (i * 2) a
theorem MarkedToStep.next {w : World} {g t n sz k j : Nat} (h : MarkedToStep w g t sz k n j) (hj : j < n) (hs : n * 2 ≤ sz) :
    MarkedToStep ((w.setCell ⟨g, j * 2, none⟩ (.int .i64 ((k + 2 * j : Nat) : Int))).setCell ⟨g, j * 2 + 1, none⟩ (.int .i64 ((k + 2 * j + 1 : Nat) : Int))) g t sz k n (j + 1) := by
  refine ⟨((h.1.set _ _).set _ _), fun i a hi hia => ?_⟩
  rcases Nat.lt_or_ge i j with hlt | hge
  · exact (((h.2 i a hlt hia).set _ _ (by omega)).set _ _ (by omega))
  · obtain rfl : i = j := by omega
    rw [markSteps_at k n i hj] at hia
    injection hia with hia
    subst hia
    exact StepRec.put h.1 (by omega) _ _

set_option maxHeartbeats 1000000 in
theorem markStepS_any (A : Option Addr) (n c k lo t : Nat) (w : World) (hn : n ≤ 1048576) (ki : Int) (hki : ki = (k : Int)) (hk : k ≤ 100000000) (ho : OwnAt w lo A t 2 n) :
    Calls Try.prog 24 #[.slice A n c, .int .i64 ki] w (Marked w A (k + 2 * n) fun w' => StepsAt w' A (markSteps k n)) := by
  subst hki
  rcases ho with ⟨rfl, rfl⟩ | ⟨g, sz, rfl, hlo, hr, hs⟩
  · go_enter Try.func24, Try.ntmps24
    go_wp2
    go_loop [5, 1] (fun i q => i = .int .i64 0 ∧ q = .int .i64 k) (fun _ _ => 0)
    case atStart => exact ⟨rfl, rfl⟩
    case round =>
      obtain ⟨rfl, rfl⟩ := hrel
      go_wp2
      go_ret
      exact ⟨ret_int (by simp), grown_refl _ _, fun i x h => by simp [markSteps] at h⟩
  · go_enter Try.func24, Try.ntmps24
    go_wp2
    go_loopw [5, 1] (fun i q wr => ∃ j : Nat, j ≤ n ∧ i = .int .i64 j ∧ q = .int .i64 ((k : Int) + 2 * (j : Int)) ∧ w.grownBy wr (some g) ∧ MarkedToStep wr g t sz k n j) (fun i _ _ => n - (intOf i).toNat)
    case atStart => exact ⟨0, by omega, rfl, by simp, grown_refl _ _, hr, fun j x h => absurd h (by omega)⟩
    case round =>
      obtain ⟨j, hj, rfl, rfl, hb, hm⟩ := hrel
      by_cases hlt : j < n
      · skip
        obtain ⟨v0, e0⟩ := hm.1.cell (i := j * 2) (by omega)
        obtain ⟨v1, e1⟩ := hm.1.cell (i := j * 2 + 1) (by omega)
        have z0 := hm.1.frozen (j * 2)
        have z1 := hm.1.frozen (j * 2 + 1)
        have hm2 : MarkedToStep ((wr.setCell ⟨g, j * 2, none⟩ (.int .i64 ((k : Int) + 2 * (j : Int)))).setCell ⟨g, j * 2 + 1, none⟩ (.int .i64 ((k : Int) + 2 * (j : Int) + 1))) g t sz k n (j + 1) := by
          have h := hm.next hlt hs
          have q0 : ((k + 2 * j : Nat) : Int) = (k : Int) + 2 * (j : Int) := by omega
          have q1 : ((k + 2 * j + 1 : Nat) : Int) = (k : Int) + 2 * (j : Int) + 1 := by omega
          rw [q0, q1] at h
          exact h
        go_wp2
        go_roundw
        case rel => exact ⟨j + 1, by omega, by go_num, by go_num, (grown_set (grown_set hb _ _) _ _), hm2⟩
        case measure => simp [intOf]; omega
      · obtain rfl : n = j := by omega
        go_wp2
        go_ret
        exact ⟨rfl, hb, fun i x h => ⟨g, 0, rfl, by
          have hi : i < n := by have := (List.getElem?_eq_some_iff.1 h).1; simpa [markSteps_length] using this
          rw [Nat.zero_add]; exact hm.2 i x hi h⟩⟩

set_option maxHeartbeats 1000000 in
theorem heldStepS_any (A : Option Addr) (n c k : Nat) (w : World) (hn : n ≤ 1048576) (ki : Int) (hki : ki = (k : Int)) (hk : k ≤ 100000000) (hx : StepsAt w A (markSteps k n)) :
    Calls Try.prog 25 #[.slice A n c, .int .i64 ki] w fun e w' => e = .returned (.int .i64 (k + 2 * n)) ∧ w = w' := by
  subst hki
  go_enter Try.func25, Try.ntmps25
  go_wp2
  go_loop [5, 1] (fun i q => ∃ j : Nat, j ≤ n ∧ i = .int .i64 j ∧ q = .int .i64 ((k : Int) + 2 * (j : Int))) (fun i _ => n - (intOf i).toNat)
  case atStart => exact ⟨0, by omega, rfl, by simp⟩
  case round =>
    obtain ⟨j, hj, rfl, rfl⟩ := hrel
    by_cases hlt : j < n
    · obtain ⟨g, o, rfl, c0, c1⟩ := hx j _ (markSteps_at k n j hlt)
      have q0 : ((k + 2 * j : Nat) : Int) = (k : Int) + 2 * (j : Int) := by omega
      have q1 : ((k + 2 * j + 1 : Nat) : Int) = (k : Int) + 2 * (j : Int) + 1 := by omega
      simp only [q0, q1] at c0 c1
      clear q0 q1
      go_wp2
      go_round
      case rel => exact ⟨j + 1, by omega, by go_num, by go_num⟩
      case measure => simp [intOf]; omega
    · obtain rfl : n = j := by omega
      go_wp2
      go_ret
      exact ⟨rfl, rfl⟩

end Go.Proofs.Ytiihmagdimekgab
