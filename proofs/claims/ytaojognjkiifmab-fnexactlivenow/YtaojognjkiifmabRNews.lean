/-
  News: 3 numbers as they lie in memory, slices of them, and the copies, comparisons and marks that the laws make of them. No condition.
-/
import Derived.Test.YtaojognjkiifmabMarkB
import Derived.Test.YtaojognjkiifmabOpenW
namespace Go.Proofs.Ytaojognjkiifmab
open Go.RowKit

structure NewsD where
  x0 : Int
  x1 : Int
  x2 : Int
  deriving DecidableEq, Inhabited

def NewsRec (w : World) (g p : Nat) (a : NewsD) : Prop :=
  w.cell? ⟨g, p, none⟩ = some (.int .i64 a.x0) ∧ w.cell? ⟨g, p + 1, none⟩ = some (.int .i64 a.x1) ∧ w.cell? ⟨g, p + 2, none⟩ = some (.int .i64 a.x2)

/-- A slice's address leads to these. -/
def NewssAt (w : World) (A : Option Addr) (xs : List NewsD) : Prop :=
  ∀ (k : Nat) (a : NewsD), xs[k]? = some a → ∃ g o, A = some ⟨g, o, none⟩ ∧ NewsRec w g (o + k * 3) a

theorem NewsRec.lt {w : World} {g p : Nat} {a : NewsD} (h : NewsRec w g p a) : g < w.heap.size := lt_of_cell h.1
theorem NewsRec.keep {w w' : World} {g p : Nat} {a : NewsD} (h : NewsRec w g p a) (e : w'.heap[g]? = w.heap[g]?) : NewsRec w' g p a := by
  have hc : ∀ o, w'.cell? ⟨g, o, none⟩ = w.cell? ⟨g, o, none⟩ := fun o => World.cell?_of_block (w := w) (a := ⟨g, o, none⟩) e
  unfold NewsRec
  simp only [hc]
  exact h
theorem NewssAt.below {w w' : World} {A : Option Addr} {xs : List NewsD} (h : NewssAt w A xs) (hb : Below w.heap.size w w') : NewssAt w' A xs := fun k a hk => by
  obtain ⟨g, o, hA, h5⟩ := h k a hk
  exact ⟨g, o, hA, h5.keep (hb.block g h5.lt)⟩
theorem NewssAt.drew {w : World} {A : Option Addr} {xs : List NewsD} (h : NewssAt w A xs) : NewssAt w.drew A xs := h
theorem NewssAt.old {wE w w' : World} {A : Option Addr} {xs : List NewsD} {g : Nat} (hE : NewssAt wE A xs) (h : NewssAt w A xs) (hg : w.grownBy w' (some g)) (hle : wE.heap.size ≤ g) : NewssAt w' A xs := fun k x hk => by
  obtain ⟨b, o, rfl, hc⟩ := hE k x hk
  obtain ⟨b', o', e, hc'⟩ := h k x hk
  have hb := hc.lt
  injection e with e
  injection e with e1 e2
  subst e1 e2
  exact ⟨b, o, rfl, hc'.keep (hg.block b hc'.lt (by simp only [ne_eq, Option.some.injEq]; omega))⟩
theorem NewssAt.young {w w' : World} {A : Option Addr} {xs : List NewsD} {g lo t : Nat} (ho : OwnAt w lo A t 3 xs.length) (h : NewssAt w A xs) (hg : w.grownBy w' (some g)) (hlt : g < lo) : NewssAt w' A xs := fun k x hk => by
  obtain ⟨b', o', rfl, hc'⟩ := h k x hk
  rcases ho with ⟨h0, _⟩ | ⟨b, sz, e, hl, _, _⟩
  · cases h0
  · injection e with e
    injection e with e1 e2
    subst e1
    exact ⟨b', o', rfl, hc'.keep (hg.block b' hc'.lt (by simp only [ne_eq, Option.some.injEq]; omega))⟩
theorem NewssAt.under {wE w w' : World} {A : Option Addr} {xs : List NewsD} {lo : Nat} (hE : NewssAt wE A xs) (h : NewssAt w A xs) (hb : Below lo w w') (hle : wE.heap.size ≤ lo) : NewssAt w' A xs := fun k x hk => by
  obtain ⟨b, o, rfl, hc⟩ := hE k x hk
  obtain ⟨b', o', e, hc'⟩ := h k x hk
  have hb' := hc.lt
  injection e with e
  injection e with e1 e2
  subst e1 e2
  exact ⟨b, o, rfl, hc'.keep (hb.block b (by omega))⟩

/-- Block g is a row for n of them, of which the first k are there. -/
def MadeNews (w : World) (g t n : Nat) (xs : List NewsD) (k : Nat) : Prop :=
  RowN w g t (n * 3) ∧ ∀ j a, j < k → xs[j]? = some a → NewsRec w g (j * 3) a
theorem MadeNews.below {w w' : World} {g t n k : Nat} {xs : List NewsD} (h : MadeNews w g t n xs k) (hb : Below w.heap.size w w') : MadeNews w' g t n xs k := by
  have e := hb.block g h.1.lt
  exact ⟨h.1.keep e, fun j a hj ha => (h.2 j a hj ha).keep e⟩
theorem MadeNews.start (w : World) (t n : Nat) (xs : List NewsD) (cs : Array Value) (hs : cs.size = n * 3) : MadeNews (w.alloc (.cells cs t)) w.heap.size t n xs 0 :=
  ⟨⟨cs, heap_alloc_new w _, hs⟩, fun j a hj => absurd hj (by omega)⟩
theorem NewsRec.set {w : World} {g p : Nat} {a : NewsD} (h : NewsRec w g p a) (q : Nat) (u : Value) (hq : q < p ∨ p + 2 < q) : NewsRec (w.setCell ⟨g, q, none⟩ u) g p a := by
  have hc : ∀ o, p ≤ o → o ≤ p + 2 → (w.setCell ⟨g, q, none⟩ u).cell? ⟨g, o, none⟩ = w.cell? ⟨g, o, none⟩ := fun o h1 h2 => World.cell?_setCell_other w ⟨g, q, none⟩ ⟨g, o, none⟩ u (by intro e; injection e; omega)
  unfold NewsRec
  rw [hc (p) (by omega) (by omega), hc (p + 1) (by omega) (by omega), hc (p + 2) (by omega) (by omega)]
  exact h
theorem NewsRec.far {w : World} {g p : Nat} {a : NewsD} (h : NewsRec w g p a) (q : Addr) (u : Value) (hq : g ≠ q.block) : NewsRec (w.setCell q u) g p a := h.keep (Below.heap_setCell w q u g hq)

theorem NewsRec.put {w : World} {g t n p : Nat} (h : RowN w g t n) (hp : p + 2 < n) (x0 x1 x2 : Int) :
    NewsRec (((w.setCell ⟨g, p, none⟩ (.int .i64 x0)).setCell ⟨g, p + 1, none⟩ (.int .i64 x1)).setCell ⟨g, p + 2, none⟩ (.int .i64 x2)) g p ⟨x0, x1, x2⟩ := by
  have same : ∀ (u : World) (q : Nat) (x : Value), RowN u g t n → q < n → (u.setCell ⟨g, q, none⟩ x).cell? ⟨g, q, none⟩ = some x := fun u q x hu hq => by
    obtain ⟨v, hv⟩ := hu.cell hq
    exact World.cell?_setCell_same u ⟨g, q, none⟩ x hv
  have oth : ∀ (u : World) (q o : Nat) (x : Value), q ≠ o → (u.setCell ⟨g, q, none⟩ x).cell? ⟨g, o, none⟩ = u.cell? ⟨g, o, none⟩ := fun u q o x hq =>
    World.cell?_setCell_other u ⟨g, q, none⟩ ⟨g, o, none⟩ x (by intro e; injection e; omega)
  refine ⟨?_, ?_, ?_⟩
  · rw [oth _ _ _ _ (by omega), oth _ _ _ _ (by omega), same _ _ _ h (by omega)]
  · rw [oth _ _ _ _ (by omega), same _ _ _ (h.set _ _) (by omega)]
  · rw [same _ _ _ ((h.set _ _).set _ _) (by omega)]
theorem MadeNews.next {w : World} {g t n k : Nat} {xs : List NewsD} {x0 x1 x2 : Int} (h : MadeNews w g t n xs k) (ha : xs[k]? = some ⟨x0, x1, x2⟩) (hk : k < n) :
    MadeNews (((w.setCell ⟨g, k * 3, none⟩ (.int .i64 x0)).setCell ⟨g, k * 3 + 1, none⟩ (.int .i64 x1)).setCell ⟨g, k * 3 + 2, none⟩ (.int .i64 x2)) g t n xs (k + 1) := by
  refine ⟨(((h.1.set _ _).set _ _).set _ _), fun j a hj hja => ?_⟩
  rcases Nat.lt_or_ge j k with hlt | hge
  · exact ((((h.2 j a hlt hja).set _ _ (by omega)).set _ _ (by omega)).set _ _ (by omega))
  · obtain rfl : j = k := by omega
    rw [ha] at hja
    injection hja with hja
    subst hja
    exact NewsRec.put h.1 (by omega) _ _ _
theorem MadeNews.at_ {w : World} {g t n : Nat} {xs : List NewsD} (h : MadeNews w g t n xs n) (hl : xs.length = n) : NewssAt w (some ⟨g, 0, none⟩) xs := fun k a ha => by
  have hk : k < n := by rw [← hl]; exact (List.getElem?_eq_some_iff.1 ha).1
  exact ⟨g, 0, rfl, by rw [Nat.zero_add]; exact h.2 k a hk ha⟩

def cellsNews : List NewsD → List Value
  | [] => []
  | a :: xs => .int .i64 a.x0 :: .int .i64 a.x1 :: .int .i64 a.x2 :: cellsNews xs
theorem cellsNews_append (a b : List NewsD) : cellsNews (a ++ b) = cellsNews a ++ cellsNews b := by
  induction a with
  | nil => rfl
  | cons x a ih => simp [cellsNews, ih]
theorem cellsNews_length (xs : List NewsD) : (cellsNews xs).length = xs.length * 3 := by
  induction xs with
  | nil => rfl
  | cons x a ih => simp [cellsNews, ih]; omega
theorem cellsNews_one (xs : List NewsD) : ∀ u ∈ cellsNews xs, u.oneCell' = true := by
  induction xs with
  | nil => simp [cellsNews]
  | cons x a ih =>
    intro u hu
    simp only [cellsNews, List.mem_cons] at hu
    rcases hu with rfl | rfl | rfl | hu
    all_goals first | rfl | exact ih u hu
theorem cells_of_newss {w : World} {g : Nat} (xs : List NewsD) : ∀ o, (∀ k a, xs[k]? = some a → NewsRec w g (o + k * 3) a) → ∀ j u, (cellsNews xs)[j]? = some u → w.cell? ⟨g, o + j, none⟩ = some u := by
  induction xs with
  | nil => intro o _ j u h; simp [cellsNews] at h
  | cons a xs ih =>
    intro o h j u hu
    have h0 := h 0 a rfl
    simp only [Nat.zero_mul, Nat.add_zero] at h0
    match j, hu with
    | 0, hu => simp [cellsNews] at hu; subst hu; exact h0.1
    | 1, hu => simp [cellsNews] at hu; subst hu; exact h0.2.1
    | 2, hu => simp [cellsNews] at hu; subst hu; exact h0.2.2
    | j + 3, hu =>
      have := ih (o + 3) (fun k b hk => by
        have := h (k + 1) b (by simpa using hk)
        rw [show o + (k + 1) * 3 = o + 3 + k * 3 by omega] at this
        exact this) j u (by simpa [cellsNews] using hu)
      rw [show o + 3 + j = o + (j + 3) by omega] at this
      exact this
theorem newss_of_cells {w : World} {g : Nat} (xs : List NewsD) : ∀ o, (∀ j u, (cellsNews xs)[j]? = some u → w.cell? ⟨g, o + j, none⟩ = some u) → ∀ k a, xs[k]? = some a → NewsRec w g (o + k * 3) a := by
  induction xs with
  | nil => intro o _ k a h; simp at h
  | cons b xs ih =>
    intro o h k a hk
    cases k with
    | zero =>
      simp only [List.getElem?_cons_zero, Option.some.injEq] at hk
      subst hk
      simp only [Nat.zero_mul, Nat.add_zero]
      exact ⟨h 0 _ rfl, h 1 _ rfl, h 2 _ rfl⟩
    | succ k =>
      have := ih (o + 3) (fun j u hu => by
        have := h (j + 3) u (by simpa [cellsNews] using hu)
        rw [show o + (j + 3) = o + 3 + j by omega] at this
        exact this) k a (by simpa using hk)
      rw [show o + 3 + k * 3 = o + (k + 1) * 3 by omega] at this
      exact this
/-- v is a slice of the call's own (from block lo on) that holds these. -/
def ResNews (w : World) (lo : Nat) (v : Value) (xs : List NewsD) : Prop := w.ownsRow lo 64 3 v xs.length (cellsNews xs)
theorem ResNews.nil (w : World) (lo : Nat) : ResNews w lo (.slice none 0 0) [] := World.ownsRow_nil w lo _ _
theorem ResNews.form {w : World} {lo : Nat} {v : Value} {xs : List NewsD} (h : ResNews w lo v xs) : ∃ A c, v = .slice A xs.length c ∧ NewssAt w A xs ∧ OwnAt w lo A 64 3 xs.length := by
  rcases h.2 with ⟨rfl, h0⟩ | ⟨g, cap, cur, rfl, hlo, hh, hn, hm, hs, ht⟩
  · have : xs = [] := List.eq_nil_of_length_eq_zero h0
    subst this
    exact ⟨none, 0, rfl, fun k x hk => by simp at hk, .inl ⟨rfl, rfl⟩⟩
  · refine ⟨_, _, rfl, fun k a hk => ⟨g, 0, rfl, newss_of_cells xs 0 (fun j u hu => ?_) k a hk⟩, .inr ⟨g, cur.size, rfl, hlo, ⟨cur, hh, rfl⟩, by rw [hs]; exact Nat.mul_le_mul_right _ hn⟩⟩
    have := h.cells (g := g) rfl j u hu
    rw [Addr.add_lit] at this
    exact this
theorem ResNews.below {w w' : World} {lo : Nat} {v : Value} {xs : List NewsD} (h : ResNews w lo v xs) (hb : Below w.heap.size w w') : ResNews w' lo v xs :=
  World.ownsRow.kept h (grown_of_below hb none) (by cases hv : v.ownBlock <;> simp)
theorem ResNews.drewN {w : World} {lo : Nat} {v : Value} {xs : List NewsD} (h : ResNews w lo v xs) (n : Nat) : ResNews (w.drewN n) lo v xs := h
theorem ResNews.drew {w : World} {lo : Nat} {v : Value} {xs : List NewsD} (h : ResNews w lo v xs) : ResNews w.drew lo v xs := h
theorem ResNews.lower {w : World} {lo lo' : Nat} {v : Value} {xs : List NewsD} (h : ResNews w lo v xs) (hl : lo' ≤ lo) : ResNews w lo' v xs := by
  refine ⟨h.1, ?_⟩
  rcases h.2 with h0 | ⟨g, cap, cur, hv, hlo, r⟩
  · exact .inl h0
  · exact .inr ⟨g, cap, cur, hv, by omega, r⟩
theorem ResNews.push {w : World} {lo : Nat} {v : Value} {xs : List NewsD} {a : NewsD} (h : w.ownsRow lo 64 3 v (xs.length + 1) (cellsNews xs ++ [.int .i64 a.x0, .int .i64 a.x1, .int .i64 a.x2])) : ResNews w lo v (xs ++ [a]) := by
  unfold ResNews
  rw [cellsNews_append, List.length_append]
  exact h
/-- A slice of them in new memory is handed back; with a truth. -/
def GivesNews (w : World) (zs : List NewsD) (e : Ending) (w' : World) : Prop := ∃ v, e = .returned v ∧ ResNews w' w.heap.size v zs ∧ Below w.heap.size w w'
def GivesNewsB (w : World) (zs : List NewsD) (b : Bool) (e : Ending) (w' : World) : Prop := ∃ v, e = .returned (.tuple #[v, .bool b]) ∧ ResNews w' w.heap.size v zs ∧ Below w.heap.size w w'
theorem newNews (w : World) (x0 x1 x2 : Value) (t : Nat) : ∀ j u, ([x0, x1, x2] : List Value)[j]? = some u → (w.alloc (.cells #[x0, x1, x2] t)).cell? ((⟨w.heap.size, 0, none⟩ : Addr).add j) = some u := by
  intro j u hu
  rw [Addr.add_lit, Nat.zero_add, cell_of_row _ _ _ _ _ _ (heap_alloc_new w _)]
  simpa using hu
theorem infoNews : (Try.prog.info? 64).map (fun i => (i.zero, i.size, i.bytes)) = some (some (.agg #[.int .i64 0, .int .i64 0, .int .i64 0]), 3, 24) := by kernel_rfl

end Go.Proofs.Ytaojognjkiifmab
