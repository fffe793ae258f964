/-
  Plain mathematics of labels that are made shorter until nothing is left to do: cost, then arcs. In whatever order what is open is taken, the labels come to what is least. No program is named. No condition.
-/
import Derived.Test.YtaojognjkiifmacPNear
namespace Go.Proofs.Ytaojognjkiifmac

structure LenD where
  x0 : Int
  x1 : Int
  deriving DecidableEq, Inhabited

def lessB (a b : LenD) : Bool := if a.x0 = b.x0 then decide (a.x1 < b.x1) else decide (a.x0 < b.x0)
theorem lessB_iff (a b : LenD) : lessB a b = true ↔ a.x0 < b.x0 ∨ (a.x0 = b.x0 ∧ a.x1 < b.x1) := by
  unfold lessB
  split
  · simp; omega
  · simp; omega
theorem lessB_no (a b : LenD) : lessB a b = false ↔ b.x0 < a.x0 ∨ (a.x0 = b.x0 ∧ b.x1 ≤ a.x1) := by
  rw [Bool.eq_false_iff, ne_eq, lessB_iff]; omega
def plusL (a : LenD) (r : ArcD) : LenD := ⟨a.x0 + r.c, a.x1 + 1⟩
def farL : LenD := ⟨farI, 0⟩
def lab (L : List LenD) (v : Int) : LenD := L.getD v.toNat farL

theorem lab_set (L : List LenD) (u v : Int) (x : LenD) (hu : 0 ≤ u) (hl : u.toNat < L.length) (hv : 0 ≤ v) : lab (L.set u.toNat x) v = if v = u then x else lab L v := by
  unfold lab
  rw [List.getD_eq_getElem?_getD, List.getD_eq_getElem?_getD, List.getElem?_set]
  by_cases h : v = u
  · subst h; simp [hl]
  · rw [if_neg (by omega), if_neg h]

/-- A way whose every piece is no shorter than the label of where it ends. -/
inductive Hist (xs : List ArcD) (s : Int) (L : List LenD) : Int → Int → List Int → Prop
  | nil : lessB ⟨0, 0⟩ (lab L s) = false → Hist xs s L s 0 []
  | snoc {u c : Int} {l : List Int} {a : ArcD} : Hist xs s L u c l → a ∈ xs → a.f = u → lessB ⟨c + a.c, (l.length : Int) + 1⟩ (lab L a.t) = false → Hist xs s L a.t (c + a.c) (u :: l)

theorem Hist.way {xs : List ArcD} {s v c : Int} {l : List Int} {L : List LenD} (h : Hist xs s L v c l) : Way xs s v c l := by
  induction h with
  | nil => exact .nil
  | snoc _ ha e _ ih => exact .snoc ih ha e
theorem Hist.here {xs : List ArcD} {s v c : Int} {l : List Int} {L : List LenD} (h : Hist xs s L v c l) : lessB ⟨c, l.length⟩ (lab L v) = false := by
  cases h with
  | nil h => exact h
  | snoc _ _ _ h => simpa using h
/-- Shorter labels are no longer than any piece. -/
theorem Hist.mono {xs : List ArcD} {s v c : Int} {l : List Int} {m : Int} {L L' : List LenD} (hx : ArcsIn m xs) (hs : 0 ≤ s ∧ s < m) (hle : ∀ v, 0 ≤ v → v < m → lessB (lab L v) (lab L' v) = false) (h : Hist xs s L v c l) : Hist xs s L' v c l := by
  have tr : ∀ (p : LenD) (v : Int), 0 ≤ v → v < m → lessB p (lab L v) = false → lessB p (lab L' v) = false := fun p v h0 h1 h => by
    have := hle v h0 h1
    rw [lessB_no] at *
    omega
  induction h with
  | nil h => exact .nil (tr _ _ hs.1 hs.2 h)
  | snoc _ ha e h ih => exact .snoc ih ha e (tr _ _ (by have := hx _ ha; omega) (by have := hx _ ha; omega) h)
/-- On such a way each node's label is no longer than the piece up to it. -/
theorem Hist.on {xs : List ArcD} {s v c : Int} {l : List Int} {m : Int} {L : List LenD} (hx : ArcsIn m xs) (h : Hist xs s L v c l) : ∀ x ∈ v :: l, lessB ⟨c, l.length⟩ (lab L x) = false ∧ (x ≠ v → lessB ⟨c, (l.length : Int) - 1⟩ (lab L x) = false) := by
  induction h with
  | nil h =>
    intro x hx'
    simp at hx'
    subst hx'
    exact ⟨h, fun e => absurd rfl e⟩
  | @snoc u c l a h ha e h2 ih =>
    have hb := hx _ ha
    intro x hx'
    rcases List.mem_cons.1 hx' with rfl | hx'
    · exact ⟨by simpa using h2, fun e => absurd rfl e⟩
    · have := (ih x hx').1
      rw [lessB_no] at this
      constructor
      · rw [lessB_no]; simp at *; omega
      · intro _; rw [lessB_no]; simp at *; omega

/-- What is known of the labels, whatever is open. -/
structure Labs (m : Int) (xs : List ArcD) (s : Int) (L : List LenD) : Prop where
  len : (L.length : Int) = m
  each : ∀ v, 0 ≤ v → v < m → lab L v = farL ∨ ∃ l, Hist xs s L v (lab L v).x0 l ∧ (lab L v).x1 = l.length ∧ (v :: l).Nodup
  zero : lab L s = ⟨0, 0⟩

theorem Labs.bound {m : Int} {xs : List ArcD} {s : Int} {L : List LenD} (h : Labs m xs s L) (hx : ArcsIn m xs) (hs : 0 ≤ s ∧ s < m) (hm : m ≤ 17) (v : Int) (h0 : 0 ≤ v) (h1 : v < m) :
    0 ≤ (lab L v).x0 ∧ (lab L v).x0 ≤ farI ∧ 0 ≤ (lab L v).x1 ∧ (lab L v).x1 < m ∧ (lab L v = farL ∨ (lab L v).x0 ≤ 11200) := by
  rcases h.each v h0 h1 with e | ⟨l, a1, a2, a3⟩
  · rw [e]; unfold farL farI; simp; omega
  · have c := a1.way.cost hx
    have f := a1.way.few hx hs a3
    unfold farI
    exact ⟨by omega, by omega, by omega, by omega, .inr (by omega)⟩

/-- An arc of a node that has been reached. -/
def shorter (L : List LenD) (a : ArcD) : Bool := lessB (plusL (lab L a.f) a) (lab L a.t)
def setL (L : List LenD) (a : ArcD) : List LenD := L.set a.t.toNat (plusL (lab L a.f) a)

theorem Labs.le_set {m : Int} {xs : List ArcD} {L : List LenD} (hl : (L.length : Int) = m) (hx : ArcsIn m xs) {a : ArcD} (ha : a ∈ xs) (hc : shorter L a = true) : ∀ v, 0 ≤ v → v < m → lessB (lab L v) (lab (setL L a) v) = false := fun v h0 h1 => by
  have hb := hx a ha
  unfold setL
  rw [lab_set L a.t v _ (by omega) (by omega) h0]
  split
  · rename_i e
    subst e
    unfold shorter at hc
    rw [lessB_iff] at hc
    rw [lessB_no]
    omega
  · rw [lessB_no]; omega

theorem Labs.step {m : Int} {xs : List ArcD} {s : Int} {L : List LenD} (h : Labs m xs s L) (hx : ArcsIn m xs) (hs : 0 ≤ s ∧ s < m) {a : ArcD} (ha : a ∈ xs) (hf : lab L a.f ≠ farL) (hc : shorter L a = true) : Labs m xs s (setL L a) := by
  have hb := hx a ha
  have hle := Labs.le_set h.len hx ha hc
  obtain ⟨l, a1, a2, a3⟩ := (h.each a.f (by omega) (by omega)).resolve_left hf
  have hno : a.t ∉ a.f :: l := fun hm => by
    have := (a1.on hx a.t hm).1
    unfold shorter plusL at hc
    rw [lessB_iff] at hc
    rw [lessB_no] at this
    simp only at *
    omega
  have ls := fun v (h0 : 0 ≤ v) => lab_set L a.t v (plusL (lab L a.f) a) (by omega) (by have := h.len; omega) h0
  have hlab : lab (setL L a) a.t = plusL (lab L a.f) a := by unfold setL; rw [ls a.t (by omega), if_pos rfl]
  have hs0 : a.t ≠ s := fun e => by
    unfold shorter plusL at hc
    rw [lessB_iff, e, h.zero] at hc
    have := a1.way.cost hx
    simp only at hc
    omega
  refine ⟨by unfold setL; rw [List.length_set]; exact h.len, fun v h0 h1 => ?_, by unfold setL; rw [ls s hs.1, if_neg (fun e => hs0 e.symm)]; exact h.zero⟩
  by_cases e : v = a.t
  · right
    subst e
    rw [hlab]
    refine ⟨a.f :: l, ?_, by simp [plusL, a2], List.nodup_cons.2 ⟨hno, a3⟩⟩
    refine .snoc (a1.mono hx hs hle) ha rfl ?_
    rw [hlab, lessB_no]
    right
    exact ⟨rfl, by show (lab L a.f).x1 + 1 ≤ (l.length : Int) + 1; omega⟩
  · have e2 : lab (setL L a) v = lab L v := by unfold setL; rw [ls v h0, if_neg e]
    rw [e2]
    rcases h.each v h0 h1 with q | ⟨l', q1, q2, q3⟩
    · exact .inl q
    · exact .inr ⟨l', q1.mono hx hs hle, q2, q3⟩

/-- Whatever has been reached is open, or has nothing to do. -/
structure OpenD where
  x0 : Int
  x1 : Int
  x2 : Int
  deriving DecidableEq, Inhabited
def item (v : Int) (x : LenD) : OpenD := ⟨v, x.x0, x.x1⟩
def Done (L : List LenD) (xs : List ArcD) (v : Int) : Prop := ∀ a ∈ xs, a.f = v → shorter L a = false
def AllOpen (m : Int) (xs : List ArcD) (L : List LenD) (H : List OpenD) : Prop := ∀ v, 0 ≤ v → v < m → lab L v = farL ∨ item v (lab L v) ∈ H ∨ Done L xs v
/-- The arcs of v below number k have nothing to do; all others are as they should be. -/
def MidOpen (m : Int) (xs : List ArcD) (L : List LenD) (H : List OpenD) (v : Int) (k : Nat) : Prop :=
  (∀ j a, j < k → xs[j]? = some a → a.f = v → shorter L a = false) ∧ ∀ u, 0 ≤ u → u < m → u ≠ v → lab L u = farL ∨ item u (lab L u) ∈ H ∨ Done L xs u

theorem AllOpen.stale {m : Int} {xs : List ArcD} {L : List LenD} {H H' : List OpenD} {t : OpenD} (h : AllOpen m xs L H) (hp : ∀ x, x ∈ H ↔ x = t ∨ x ∈ H') (hne : (⟨t.x1, t.x2⟩ : LenD) ≠ lab L t.x0) : AllOpen m xs L H' := fun v h0 h1 => by
  rcases h v h0 h1 with q | q | q
  · exact .inl q
  · rcases (hp _).1 q with e | q
    · exfalso
      apply hne
      rw [← e]
      rfl
    · exact .inr (.inl q)
  · exact .inr (.inr q)
theorem AllOpen.take {m : Int} {xs : List ArcD} {L : List LenD} {H H' : List OpenD} {t : OpenD} (h : AllOpen m xs L H) (hp : ∀ x, x ∈ H ↔ x = t ∨ x ∈ H') : MidOpen m xs L H' t.x0 0 :=
  ⟨fun j a hj => absurd hj (by omega), fun u h0 h1 hu => by
    rcases h u h0 h1 with q | q | q
    · exact .inl q
    · rcases (hp _).1 q with e | q
      · exact absurd (by rw [← e]; rfl) hu
      · exact .inr (.inl q)
    · exact .inr (.inr q)⟩
theorem MidOpen.all {m : Int} {xs : List ArcD} {L : List LenD} {H : List OpenD} {v : Int} (h : MidOpen m xs L H v xs.length) : AllOpen m xs L H := fun u h0 h1 => by
  by_cases e : u = v
  · subst e
    refine .inr (.inr fun a ha hf => ?_)
    obtain ⟨j, hj, rfl⟩ := List.getElem_of_mem ha
    exact h.1 j _ hj (List.getElem?_eq_getElem hj) hf
  · exact h.2 u h0 h1 e
theorem MidOpen.skip {m : Int} {xs : List ArcD} {L : List LenD} {H : List OpenD} {v : Int} {k : Nat} {a : ArcD} (h : MidOpen m xs L H v k) (ha : xs[k]? = some a) (hn : a.f = v → shorter L a = false) : MidOpen m xs L H v (k + 1) :=
  ⟨fun j b hj hb hf => by
    rcases Nat.lt_or_ge j k with hlt | hge
    · exact h.1 j b hlt hb hf
    · obtain rfl : j = k := by omega
      rw [ha] at hb
      injection hb with hb
      subst hb
      exact hn hf, h.2⟩
/-- Shorter labels: who had nothing to do has nothing to do, if its own label stays. -/
theorem shorter_still {m : Int} {xs : List ArcD} {L : List LenD} (hl : (L.length : Int) = m) (hx : ArcsIn m xs) {a b : ArcD} (ha : a ∈ xs) (hb : b ∈ xs) (hc : shorter L a = true) (hne : b.f ≠ a.t) (h : shorter L b = false) : shorter (setL L a) b = false := by
  have ga := hx a ha
  have gb := hx b hb
  have hle := Labs.le_set hl hx ha hc b.t (by omega) (by omega)
  have e : lab (setL L a) b.f = lab L b.f := by unfold setL; rw [lab_set L a.t b.f _ (by omega) (by omega) (by omega), if_neg hne]
  unfold shorter at *
  rw [e]
  rw [lessB_no] at *
  omega
theorem MidOpen.push {m : Int} {xs : List ArcD} {L : List LenD} {H H' : List OpenD} {v : Int} {k : Nat} {a : ArcD} (h : MidOpen m xs L H v k) (hl : (L.length : Int) = m) (hx : ArcsIn m xs) (ha : xs[k]? = some a) (hf : a.f = v) (hne : a.f ≠ a.t) (hc : shorter L a = true)
    (hp : ∀ x, x ∈ H' ↔ x = item a.t (plusL (lab L a.f) a) ∨ x ∈ H) : MidOpen m xs (setL L a) H' v (k + 1) := by
  have hm := List.mem_of_getElem? ha
  have ga := hx a hm
  have ls := fun u (h0 : 0 ≤ u) => lab_set L a.t u (plusL (lab L a.f) a) (by omega) (by omega) h0
  refine ⟨fun j b hj hb hbf => ?_, fun u h0 h1 hu => ?_⟩
  · rcases Nat.lt_or_ge j k with hlt | hge
    · exact shorter_still hl hx hm (List.mem_of_getElem? hb) hc (by rw [hbf, ← hf]; exact hne) (h.1 j b hlt hb hbf)
    · obtain rfl : j = k := by omega
      rw [ha] at hb
      injection hb with hb
      subst hb
      unfold shorter setL
      rw [ls a.f (by omega), if_neg hne, ls a.t (by omega), if_pos rfl, lessB_no]
      omega
  · by_cases e : u = a.t
    · subst e
      right; left
      rw [hp]
      left
      unfold setL
      rw [ls a.t (by omega), if_pos rfl]
    · have e2 : lab (setL L a) u = lab L u := by unfold setL; rw [ls u h0, if_neg e]
      rw [e2]
      rcases h.2 u h0 h1 hu with q | q | q
      · exact .inl q
      · exact .inr (.inl ((hp _).2 (.inr q)))
      · exact .inr (.inr fun b hb hbf => shorter_still hl hx hm hb hc (by rw [hbf]; exact e) (q b hb hbf))

/-- With nothing open the labels are least. -/
theorem Labs.least {m : Int} {xs : List ArcD} {s : Int} {L : List LenD} (h : Labs m xs s L) (hx : ArcsIn m xs) (ho : AllOpen m xs L []) {v c : Int} {l : List Int} (hw : Way xs s v c l) (hc : c < farI) : lessB ⟨c, l.length⟩ (lab L v) = false := by
  induction hw with
  | nil => rw [h.zero, lessB_no]; simp
  | @snoc u c l a h' ha e ih =>
    have hb := hx a ha
    have ih := ih (by omega)
    subst e
    rcases ho a.f (by omega) (by omega) with q | q | q
    · rw [q] at ih
      rw [lessB_no] at ih
      unfold farL at ih
      simp only at ih
      omega
    · simp at q
    · have := q a ha rfl
      unfold shorter plusL at this
      rw [lessB_no] at *
      simp only [List.length_cons] at *
      omega
theorem Labs.near {m : Nat} {xs : List ArcD} {s : Int} {L : List LenD} (h : Labs m xs s L) (hx : ArcsIn m xs) (hs : 0 ≤ s ∧ s < m) (hm : m ≤ 17) (ho : AllOpen m xs L []) : L.map LenD.x0 = nearL m xs s := by
  have hat : ∀ v : Int, 0 ≤ v → v < m → at_ (L.map LenD.x0) v = (lab L v).x0 := fun v h0 h1 => by
    have : v.toNat < L.length := by have := h.len; omega
    simp [at_, lab, this]
  apply nearL_unique hm hx hs
  · refine ⟨by rw [List.length_map]; exact h.len, fun v h0 h1 => ?_⟩
    rw [hat v h0 h1]
    have hbd := h.bound hx hs (by omega) v h0 h1
    refine ⟨hbd.2.1, ?_⟩
    rcases h.each v h0 h1 with q | ⟨l, q1, _, _⟩
    · left; rw [q]; rfl
    · exact .inr ⟨l, q1.way⟩
  · intro v c l hw
    obtain ⟨c2, l2, h1, h2, _, h4⟩ := hw.simple hx
    have hf := h1.few hx hs h4
    have hc := h1.cost hx
    have hv := h1.node hx hs
    have := h.least hx ho h1 (by unfold farI; omega)
    rw [hat v hv.1 hv.2]
    rw [lessB_no] at this
    simp only at this
    omega

/-- What is left to do, as a number. -/
def rank (x : LenD) : Nat := (x.x0 * 17 + x.x1).toNat
def ranks (L : List LenD) : Nat := (L.map rank).sum
theorem ranks_set : ∀ (L : List LenD) (i : Nat) (x : LenD), i < L.length → ranks (L.set i x) + rank (L.getD i farL) = ranks L + rank x
  | [], i, x, h => by simp at h
  | y :: L, 0, x, _ => by simp [ranks]; omega
  | y :: L, i + 1, x, h => by
    have := ranks_set L i x (by simpa using h)
    simp [ranks] at *
    omega
theorem ranks_step {m : Int} {xs : List ArcD} {s : Int} {L : List LenD} (h : Labs m xs s L) (hx : ArcsIn m xs) (hs : 0 ≤ s ∧ s < m) (hm : m ≤ 17) {a : ArcD} (ha : a ∈ xs) (hf : lab L a.f ≠ farL) (hc : shorter L a = true) : ranks (setL L a) < ranks L := by
  have hb := hx a ha
  have h2 := h.step hx hs ha hf hc
  have b1 := h.bound hx hs hm a.t (by omega) (by omega)
  have b2 := h2.bound hx hs hm a.t (by omega) (by omega)
  have hlab : lab (setL L a) a.t = plusL (lab L a.f) a := by unfold setL; rw [lab_set L a.t a.t _ (by omega) (by have := h.len; omega) (by omega), if_pos rfl]
  rw [hlab] at b2
  have := ranks_set L a.t.toNat (plusL (lab L a.f) a) (by have := h.len; omega)
  have e : L.getD a.t.toNat farL = lab L a.t := rfl
  rw [e] at this
  unfold shorter at hc
  rw [lessB_iff] at hc
  unfold setL
  have : rank (plusL (lab L a.f) a) < rank (lab L a.t) := by unfold rank; omega
  omega
theorem ranks_start (m : Nat) (s : Int) (hm : m ≤ 17) : ranks ((List.replicate m farL).set s.toNat ⟨0, 0⟩) ≤ 28899711 := by
  have key : ∀ (L : List LenD) (i : Nat), ranks (L.set i ⟨0, 0⟩) ≤ ranks L := by
    intro L
    induction L with
    | nil => intro i; simp [ranks]
    | cons y L ih =>
      intro i
      cases i with
      | zero => simp [ranks, rank]
      | succ i => have := ih i; simp [ranks] at *; omega
  refine Nat.le_trans (key _ _) ?_
  have : ∀ m : Nat, ranks (List.replicate m farL) = m * 1699983 := by
    intro m
    induction m with
    | zero => rfl
    | succ m ih =>
      have e : rank farL = 1699983 := by decide
      rw [List.replicate_succ]
      show rank farL + ranks (List.replicate m farL) = _
      rw [ih, e]
      omega
  rw [this]
  omega
theorem labs_start (m : Nat) (xs : List ArcD) (s : Int) (hs : 0 ≤ s ∧ s < m) : Labs m xs s ((List.replicate m farL).set s.toNat ⟨0, 0⟩) := by
  have hl : ∀ v : Int, 0 ≤ v → v < m → lab ((List.replicate m farL).set s.toNat ⟨0, 0⟩) v = if v = s then ⟨0, 0⟩ else farL := fun v h0 h1 => by
    rw [lab_set _ s v _ hs.1 (by simp; omega) h0]
    split
    · rfl
    · unfold lab
      rw [List.getD_eq_getElem?_getD, List.getElem?_replicate, if_pos (by omega)]
      rfl
  refine ⟨by simp, fun v h0 h1 => ?_, by rw [hl s hs.1 hs.2, if_pos rfl]⟩
  rw [hl v h0 h1]
  split
  · rename_i e
    subst e
    exact .inr ⟨[], .nil (by rw [hl v h0 h1, if_pos rfl]; decide), rfl, by simp⟩
  · exact .inl rfl
theorem open_start (m : Nat) (xs : List ArcD) (s : Int) (hs : 0 ≤ s ∧ s < m) : AllOpen m xs ((List.replicate m farL).set s.toNat ⟨0, 0⟩) [⟨s, 0, 0⟩] := fun v h0 h1 => by
  rw [lab_set _ s v _ hs.1 (by simp; omega) h0]
  split
  · rename_i e
    subst e
    right; left
    simp [item]
  · left
    unfold lab
    rw [List.getD_eq_getElem?_getD, List.getElem?_replicate, if_pos (by omega)]
    rfl

end Go.Proofs.Ytaojognjkiifmac
