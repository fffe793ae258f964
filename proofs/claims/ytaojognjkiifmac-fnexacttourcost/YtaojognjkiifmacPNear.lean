/-
  Plain mathematics of what it costs at least: ways over arcs, rounds over all arcs until nothing turns, and that both tell the same. No program is named. No condition.
-/
import Derived.Test.YtaojognjkiifmacOk
namespace Go.Proofs.Ytaojognjkiifmac

/-- A way from s: where one is, what it has cost, the nodes that were left, the latest first. -/
inductive Way (xs : List ArcD) (s : Int) : Int → Int → List Int → Prop
  | nil : Way xs s s 0 []
  | snoc {u c : Int} {l : List Int} {a : ArcD} : Way xs s u c l → a ∈ xs → a.f = u → Way xs s a.t (c + a.c) (u :: l)

/-- What is asked of arcs: both ends are nodes, the cost is none too great. -/
def ArcsIn (m : Int) (xs : List ArcD) : Prop := ∀ a ∈ xs, 0 ≤ a.f ∧ a.f < m ∧ 0 ≤ a.t ∧ a.t < m ∧ 0 ≤ a.c ∧ a.c ≤ 700

theorem arcsIn_net {m : Int} {xs : List ArcD} (h : netB m xs = true) : ArcsIn m xs := fun a ha => by
  obtain ⟨_, _, h3⟩ := (netB_iff _ _).1 h
  have := h3 a ha
  simp only [arcB, Bool.and_eq_true, inB_iff] at this
  omega

theorem Way.cost {xs : List ArcD} {s m v c : Int} {l : List Int} (hx : ArcsIn m xs) (h : Way xs s v c l) : 0 ≤ c ∧ c ≤ 700 * l.length := by
  induction h with
  | nil => simp
  | snoc h ha _ ih => have := hx _ ha; simp; omega
theorem Way.node {xs : List ArcD} {s m v c : Int} {l : List Int} (hx : ArcsIn m xs) (hs : 0 ≤ s ∧ s < m) (h : Way xs s v c l) : 0 ≤ v ∧ v < m := by
  cases h with
  | nil => exact hs
  | snoc _ ha _ => have := hx _ ha; omega
theorem Way.nodes {xs : List ArcD} {s m v c : Int} {l : List Int} (hx : ArcsIn m xs) (hs : 0 ≤ s ∧ s < m) (h : Way xs s v c l) : ∀ u ∈ v :: l, 0 ≤ u ∧ u < m := by
  induction h with
  | nil => intro u hu; simp at hu; subst hu; exact hs
  | snoc h ha e ih =>
    intro u hu
    rcases List.mem_cons.1 hu with rfl | hu
    · have := hx _ ha; omega
    · exact ih u hu

/-- A piece of a way, up to a node on it. -/
theorem Way.cut {xs : List ArcD} {s m v c : Int} {l : List Int} (hx : ArcsIn m xs) (h : Way xs s v c l) : ∀ x ∈ v :: l, ∃ c2 l2, Way xs s x c2 l2 ∧ c2 ≤ c ∧ (x :: l2) <:+ (v :: l) := by
  induction h with
  | nil =>
    intro x hx'
    simp at hx'
    subst hx'
    exact ⟨0, [], .nil, Int.le_refl _, List.suffix_refl _⟩
  | @snoc u c l a h ha e ih =>
    intro x hx'
    rcases List.mem_cons.1 hx' with rfl | hx'
    · exact ⟨_, _, .snoc h ha e, Int.le_refl _, List.suffix_refl _⟩
    · obtain ⟨c2, l2, h1, h2, h3⟩ := ih x hx'
      have := hx _ ha
      exact ⟨c2, l2, h1, by omega, h3.trans (List.suffix_cons _ _)⟩

/-- Without its rings a way costs no more. -/
theorem Way.simple {xs : List ArcD} {s m v c : Int} {l : List Int} (hx : ArcsIn m xs) (h : Way xs s v c l) : ∃ c2 l2, Way xs s v c2 l2 ∧ c2 ≤ c ∧ l2.length ≤ l.length ∧ (v :: l2).Nodup := by
  induction h with
  | nil => exact ⟨0, [], .nil, Int.le_refl _, Nat.le_refl _, by simp⟩
  | @snoc u c l a h ha e ih =>
    obtain ⟨c2, l2, h1, h2, h3, h4⟩ := ih
    by_cases hm : a.t ∈ u :: l2
    · obtain ⟨c3, l3, g1, g2, g3⟩ := h1.cut hx _ hm
      have := hx _ ha
      have hl := g3.length_le
      simp at hl
      exact ⟨c3, l3, g1, by omega, by simp; omega, h4.sublist g3.sublist⟩
    · exact ⟨_, _, .snoc h1 ha e, by omega, by simp; omega, List.nodup_cons.2 ⟨hm, h4⟩⟩

theorem nodup_length {m : Nat} : ∀ {l : List Int}, l.Nodup → (∀ x ∈ l, 0 ≤ x ∧ x < m) → l.length ≤ m := by
  induction m with
  | zero =>
    intro l _ h
    cases l with
    | nil => simp
    | cons x l => have := h x (by simp); omega
  | succ m ih =>
    intro l hn h
    have h1 : (l.filter (fun x => x != (m : Int))).length ≤ m := ih (hn.filter _) fun x hx => by
      obtain ⟨h1, h2⟩ := List.mem_filter.1 hx
      have := h x h1
      simp at h2
      omega
    have h2 : l.length ≤ (l.filter (fun x => x != (m : Int))).length + 1 := by
      have hc : l.count (m : Int) ≤ 1 := List.nodup_iff_count.1 hn _
      have hf : (l.filter (fun x => x != (m : Int))).length = l.countP (fun x => x != (m : Int)) := List.countP_eq_length_filter.symm
      have hs := List.length_eq_countP_add_countP (fun x => x == (m : Int)) (l := l)
      rw [List.count] at hc
      have e : l.countP (fun x => decide ¬(x == (m : Int)) = true) = l.countP (fun x => x != (m : Int)) := by
        apply List.countP_congr
        intro x _
        simp
      omega
    omega

/-- The arcs of a way without rings are fewer than there are nodes. -/
theorem Way.few {xs : List ArcD} {s m v c : Int} {l : List Int} (hx : ArcsIn m xs) (hs : 0 ≤ s ∧ s < m) (h : Way xs s v c l) (hn : (v :: l).Nodup) : (l.length : Int) + 1 ≤ m := by
  have := nodup_length (m := m.toNat) hn fun x hx' => by have := h.nodes hx hs x hx'; omega
  simp at this
  omega

def farI : Int := 99999
def at_ (d : List Int) (v : Int) : Int := d.getD v.toNat 0
/-- One arc. -/
def relax (d : List Int) (a : ArcD) : List Int := if at_ d a.f < farI ∧ at_ d a.f + a.c < at_ d a.t then d.set a.t.toNat (at_ d a.f + a.c) else d
def roundTo (xs : List ArcD) (d : List Int) : List Int := xs.foldl relax d
def roundsTo (xs : List ArcD) (d : List Int) : Nat → List Int
  | 0 => d
  | r + 1 => roundTo xs (roundsTo xs d r)
def start (m : Nat) (s : Int) : List Int := (List.replicate m farI).set s.toNat 0
/-- What it costs at least from s to each. -/
def nearL (m : Nat) (xs : List ArcD) (s : Int) : List Int := roundsTo xs (start m s) m

theorem relax_length (d : List Int) (a : ArcD) : (relax d a).length = d.length := by unfold relax; split <;> simp
theorem roundTo_length (xs : List ArcD) : ∀ d, (roundTo xs d).length = d.length := by
  induction xs with
  | nil => intro d; rfl
  | cons a xs ih => intro d; show (roundTo xs (relax d a)).length = _; rw [ih, relax_length]
theorem roundsTo_length (xs : List ArcD) (d : List Int) : ∀ r, (roundsTo xs d r).length = d.length
  | 0 => rfl
  | r + 1 => by rw [roundsTo, roundTo_length, roundsTo_length xs d r]
theorem start_length (m : Nat) (s : Int) : (start m s).length = m := by simp [start]
theorem nearL_length (m : Nat) (xs : List ArcD) (s : Int) : (nearL m xs s).length = m := by rw [nearL, roundsTo_length, start_length]

theorem at_set (d : List Int) (u v x : Int) (hu : 0 ≤ u) (hl : u.toNat < d.length) (hv : 0 ≤ v) : at_ (d.set u.toNat x) v = if v = u then x else at_ d v := by
  unfold at_
  rw [List.getD_eq_getElem?_getD, List.getD_eq_getElem?_getD, List.getElem?_set]
  by_cases h : v = u
  · subst h; simp [hl]
  · rw [if_neg (by omega), if_neg h]

/-- All that stands in the list is far, or is what a way costs. -/
def Sound (m : Int) (xs : List ArcD) (s : Int) (d : List Int) : Prop := (d.length : Int) = m ∧ ∀ v, 0 ≤ v → v < m → at_ d v ≤ farI ∧ (at_ d v = farI ∨ ∃ l, Way xs s v (at_ d v) l)

theorem Sound.relax {m : Int} {xs : List ArcD} {s : Int} {d : List Int} (h : Sound m xs s d) (hx : ArcsIn m xs) {a : ArcD} (ha : a ∈ xs) : Sound m xs s (relax d a) := by
  have hb := hx a ha
  refine ⟨by rw [relax_length]; exact h.1, fun v h0 h1 => ?_⟩
  unfold Go.Proofs.Ytaojognjkiifmac.relax
  split
  · rename_i hc
    have hl : a.t.toNat < d.length := by have := h.1; omega
    rw [at_set d a.t v _ (by omega) hl h0]
    split
    · rename_i e
      have ht := (h.2 a.t (by omega) (by omega)).1
      obtain ⟨_, hf⟩ := h.2 a.f (by omega) (by omega)
      refine ⟨by omega, .inr ?_⟩
      rcases hf with hf | ⟨l, hf⟩
      · omega
      · rw [e]; exact ⟨_, .snoc hf ha rfl⟩
    · exact h.2 v h0 h1
  · exact h.2 v h0 h1
theorem Sound.foldl {m : Int} {xs : List ArcD} {s : Int} (hx : ArcsIn m xs) : ∀ (ys : List ArcD) (d : List Int), (∀ a ∈ ys, a ∈ xs) → Sound m xs s d → Sound m xs s (ys.foldl Go.Proofs.Ytaojognjkiifmac.relax d)
  | [], _, _, h => h
  | a :: ys, d, hy, h => Sound.foldl hx ys _ (fun b hb => hy b (List.mem_cons_of_mem _ hb)) (h.relax hx (hy a (by simp)))
theorem Sound.rounds {m : Int} {xs : List ArcD} {s : Int} {d : List Int} (hx : ArcsIn m xs) (h : Sound m xs s d) : ∀ r, Sound m xs s (roundsTo xs d r)
  | 0 => h
  | r + 1 => Sound.foldl hx xs _ (fun _ h => h) (Sound.rounds hx h r)
theorem at_start (m : Nat) (s v : Int) (hs : 0 ≤ s ∧ s < m) (hv : 0 ≤ v ∧ v < m) : at_ (start m s) v = if v = s then 0 else farI := by
  unfold start
  rw [at_set _ _ _ _ hs.1 (by simp; omega) hv.1]
  split
  · rfl
  · unfold at_
    rw [List.getD_eq_getElem?_getD, List.getElem?_replicate, if_pos (by omega)]
    rfl
theorem Sound.start (m : Nat) (xs : List ArcD) (s : Int) (hs : 0 ≤ s ∧ s < m) : Sound m xs s (start m s) := by
  refine ⟨by simp [start_length], fun v h0 h1 => ?_⟩
  rw [at_start m s v hs ⟨h0, h1⟩]
  split
  · rename_i e
    subst e
    exact ⟨by unfold farI; omega, .inr ⟨[], .nil⟩⟩
  · exact ⟨Int.le_refl _, .inl rfl⟩

/-- One arc makes nothing farther. -/
theorem relax_le (d : List Int) (a : ArcD) (v : Int) (ht : 0 ≤ a.t ∧ a.t.toNat < d.length) (hv : 0 ≤ v) : at_ (relax d a) v ≤ at_ d v := by
  unfold relax
  split
  · rename_i h
    rw [at_set d a.t v _ ht.1 ht.2 hv]
    split
    · rename_i e; subst e; omega
    · exact Int.le_refl _
  · exact Int.le_refl _
theorem foldl_le {m : Int} {xs : List ArcD} (hx : ArcsIn m xs) (v : Int) (hv : 0 ≤ v) : ∀ (ys : List ArcD) (d : List Int), (∀ a ∈ ys, a ∈ xs) → (d.length : Int) = m → at_ (ys.foldl relax d) v ≤ at_ d v
  | [], _, _, _ => Int.le_refl _
  | a :: ys, d, hy, hl => by
    have hb := hx a (hy a (by simp))
    have h1 := relax_le d a v ⟨by omega, by omega⟩ hv
    have h2 := foldl_le hx v hv ys (relax d a) (fun b hb => hy b (List.mem_cons_of_mem _ hb)) (by rw [relax_length]; exact hl)
    show at_ (ys.foldl relax (relax d a)) v ≤ _
    omega
/-- A round over all arcs goes over each. -/
theorem round_arc {m : Int} {xs : List ArcD} (hx : ArcsIn m xs) {b : ArcD} (c : Int) : ∀ (ys : List ArcD) (d : List Int), (∀ a ∈ ys, a ∈ xs) → (d.length : Int) = m → b ∈ ys → at_ d b.f ≤ c → c < farI → at_ (ys.foldl relax d) b.t ≤ c + b.c
  | [], _, _, _, h, _, _ => by simp at h
  | a :: ys, d, hy, hl, hb, hc, hf => by
    have hy' : ∀ a ∈ ys, a ∈ xs := fun b hb => hy b (List.mem_cons_of_mem _ hb)
    have ha := hx a (hy a (by simp))
    have hl' : ((relax d a).length : Int) = m := by rw [relax_length]; exact hl
    have hbx := hx b (hy b hb)
    show at_ (ys.foldl relax (relax d a)) b.t ≤ _
    rcases List.mem_cons.1 hb with e | hb
    · subst e
      have h1 := foldl_le hx b.t (by omega) ys (relax d b) hy' hl'
      have h2 : at_ (relax d b) b.t ≤ c + b.c := by
        unfold relax
        split
        · rw [at_set d b.t b.t _ (by omega) (by omega) (by omega), if_pos rfl]; omega
        · rename_i h; have : ¬ at_ d b.f + b.c < at_ d b.t := fun h' => h ⟨by omega, h'⟩
          omega
      omega
    · have h1 := relax_le d a b.f ⟨by omega, by omega⟩ (by omega)
      exact round_arc hx c ys (relax d a) hy' hl' hb (by omega) hf
/-- After r rounds no way of r arcs costs less. -/
theorem rounds_way {m : Nat} {xs : List ArcD} {s : Int} (hx : ArcsIn m xs) (hs : 0 ≤ s ∧ s < m) : ∀ (r : Nat) {v c : Int} {l : List Int}, Way xs s v c l → l.length ≤ r → c < farI → at_ (roundsTo xs (start m s) r) v ≤ c := by
  intro r
  have len : ∀ r, ((roundsTo xs (start m s) r).length : Int) = m := fun r => by rw [roundsTo_length, start_length]
  induction r with
  | zero =>
    intro v c l h hl _
    cases h with
    | nil => show at_ (start m s) s ≤ 0; rw [at_start m s s hs hs, if_pos rfl]; exact Int.le_refl _
    | snoc _ _ _ => simp at hl
  | succ r ih =>
    intro v c l h hl hc
    cases h with
    | nil =>
      have h0 := ih (.nil : Way xs s s 0 []) (by simp) (by unfold farI; omega)
      have := foldl_le hx s hs.1 xs (roundsTo xs (start m s) r) (fun _ h => h) (len r)
      show at_ (roundTo xs _) s ≤ 0
      unfold roundTo
      omega
    | @snoc u c' l' a h ha e =>
      have hb := hx a ha
      have h0 := ih h (by simp at hl; omega) (by omega)
      subst e
      exact round_arc hx c' xs _ (fun _ h => h) (len r) ha h0 (by omega)

/-- No way costs less than what is told. -/
theorem nearL_le {m : Nat} {xs : List ArcD} {s : Int} (hm : m ≤ 17) (hx : ArcsIn m xs) (hs : 0 ≤ s ∧ s < m) {v c : Int} {l : List Int} (h : Way xs s v c l) : at_ (nearL m xs s) v ≤ c := by
  obtain ⟨c2, l2, h1, h2, _, h4⟩ := h.simple hx
  have hf := h1.few hx hs h4
  have hc := h1.cost hx
  have := rounds_way hx hs m h1 (by omega) (by unfold farI; omega)
  unfold nearL
  omega
theorem nearL_sound {m : Nat} {xs : List ArcD} {s : Int} (hx : ArcsIn m xs) (hs : 0 ≤ s ∧ s < m) : Sound m xs s (nearL m xs s) := (Sound.start m xs s hs).rounds hx m

/-- Whatever is far or a way's cost, and no more than any way costs, is what is told. -/
theorem nearL_unique {m : Nat} {xs : List ArcD} {s : Int} {d : List Int} (hm : m ≤ 17) (hx : ArcsIn m xs) (hs : 0 ≤ s ∧ s < m) (hd : Sound m xs s d) (hle : ∀ {v c : Int} {l : List Int}, Way xs s v c l → at_ d v ≤ c) : d = nearL m xs s := by
  have hn := nearL_sound hx hs
  have hlen : d.length = m := by have := hd.1; omega
  apply List.ext_getElem (by rw [nearL_length]; exact hlen)
  intro i h1 h2
  have g1 : at_ d (i : Int) = d[i] := by simp [at_, h1]
  have g2 : at_ (nearL m xs s) (i : Int) = (nearL m xs s)[i] := by simp [at_, h2]
  rw [← g1, ← g2]
  obtain ⟨a1, a2⟩ := hd.2 (i : Int) (by omega) (by omega)
  obtain ⟨b1, b2⟩ := hn.2 (i : Int) (by omega) (by omega)
  rcases a2 with a2 | ⟨l, a2⟩
  · rcases b2 with b2 | ⟨l', b2⟩
    · omega
    · have := hle b2; omega
  · have k1 := nearL_le hm hx hs a2
    rcases b2 with b2 | ⟨l', b2⟩
    · omega
    · have := hle b2; omega

end Go.Proofs.Ytaojognjkiifmac
