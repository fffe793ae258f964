/-
  FnExactBothOver answers true at every input: impl.BothOver answers as spec.BothOver, leaves its arguments alone. No condition.
-/
import Derived.Test.YtaojognjkiifmaaWalkT
import Derived.Test.YtaojognjkiifmaaNTree
import Derived.Test.YtaojognjkiifmaaPWay
import Derived.Test.YtaojognjkiifmaaBack
import Derived.Test.YtaojognjkiifmaaPPlain
import Derived.Test.YtaojognjkiifmaaPNear
import Derived.Deep.RegionWith
import Derived.Test.YtaojognjkiifmaaQPast
import Derived.Test.YtaojognjkiifmaaInfoI
import Derived.Test.YtaojognjkiifmaaTo
import Derived.Test.YtaojognjkiifmaaRows
import Derived.Test.YtaojognjkiifmaaBase
import Derived.OpenShut
import Derived.ShutString
import Derived.ChangeOld
import Derived.Deep.Slices
import Derived.Deep.Fields
import Derived.Lib.SmallJoins
import Derived.Test.YtaojognjkiifmaaMark
import Derived.Test.YtaojognjkiifmaaMarkB
namespace Go.Proofs.Ytaojognjkiifmaa
open Go.RowKit

/-- The best way, of a net and two nodes that are there, and whether there is one. -/
def hereB2 (m : Int) (xs : List ArcD) (a b : Int) : Bool := hereB m xs a && inB b 0 (m - 1)
def nearWI (m : Int) (xs : List ArcD) (a b : Int) : List Int := if hereB2 m xs a b then wayM m.toNat xs a b else []
def nearWB (m : Int) (xs : List ArcD) (a b : Int) : Bool := hereB2 m xs a b && !(farB m.toNat xs b a)
theorem wayM_len {m : Nat} {xs : List ArcD} {a b : Int} (hx : ArcsIn m xs) (ha : 0 ≤ a ∧ a < m) (hb : 0 ≤ b ∧ b < m) (hm : m ≤ 8) : (wayM m xs a b).length ≤ 7 := by
  unfold wayM
  split
  · simp
  · rename_i h
    exact (treeL_of hx hb (by omega)).way_few a ha.1 ha.2 (by simpa [farB] using h)
theorem hereB2_iff (m : Int) (xs : List ArcD) (a b : Int) : hereB2 m xs a b = true ↔ netB m xs = true ∧ (0 ≤ a ∧ a < m) ∧ 0 ≤ b ∧ b < m := by
  simp only [hereB2, Bool.and_eq_true, hereB_iff, inB_iff]
  constructor
  · rintro ⟨⟨h1, h2, h3⟩, h4, h5⟩; exact ⟨h1, ⟨h2, h3⟩, h4, by omega⟩
  · rintro ⟨h1, ⟨h2, h3⟩, h4, h5⟩; exact ⟨⟨h1, h2, h3⟩, h4, by omega⟩
theorem nearWI_len (m : Int) (xs : List ArcD) (a b : Int) : (nearWI m xs a b).length ≤ 1048576 := by
  unfold nearWI
  split
  · rename_i h
    obtain ⟨h1, h2, h3⟩ := (hereB2_iff _ _ _ _).1 h
    obtain ⟨M, e, _, h8⟩ := here_nat h1
    subst e
    have := wayM_len (arcsIn_net h1) h2 h3 h8
    simp only [Int.toNat_natCast]
    omega
  · simp

end Go.Proofs.Ytaojognjkiifmaa

namespace Go.Proofs.Ytaojognjkiifmaa

theorem Way.one {xs : List ArcD} {a : ArcD} (ha : a ∈ xs) : Way xs a.f a.t a.c [a.f] := by
  have := Way.snoc (.nil : Way xs a.f a.f 0 []) ha rfl
  rw [Int.zero_add] at this
  exact this
theorem Way.back {xs : List ArcD} {s v c : Int} {l : List Int} (h : Way xs s v c l) : ∃ l', Way (xs.map flip) v s c l' := by
  induction h with
  | nil => exact ⟨_, .nil⟩
  | @snoc u c l a _ ha e ih =>
    obtain ⟨l', h'⟩ := ih
    subst e
    have h1 : Way (xs.map flip) a.t a.f a.c [a.t] := Way.one (a := flip a) (List.mem_map.2 ⟨a, ha, rfl⟩)
    obtain ⟨l2, h2⟩ := h1.join h'
    exact ⟨l2, by rw [Int.add_comm]; exact h2⟩
theorem flips_id (xs : List ArcD) : (xs.map flip).map flip = xs := by rw [List.map_map]; exact (List.map_congr_left fun _ _ => rfl).trans (List.map_id _)
theorem arcsIn_back {m : Int} {xs : List ArcD} (h : ArcsIn m xs) : ArcsIn m (xs.map flip) := fun a ha => by
  obtain ⟨b, hb, rfl⟩ := List.mem_map.1 ha
  have := h b hb
  simp only [flip]
  omega
theorem near_back {m : Nat} {xs : List ArcD} {s v : Int} (hm : m ≤ 17) (hx : ArcsIn m xs) (hs : 0 ≤ s ∧ s < m) (hv : 0 ≤ v ∧ v < m) : at_ (nearL m xs s) v = at_ (nearL m (xs.map flip) v) s := by
  have hy := arcsIn_back hx
  obtain ⟨a1, a2⟩ := (nearL_sound hx hs).2 v hv.1 hv.2
  obtain ⟨b1, b2⟩ := (nearL_sound hy hv).2 s hs.1 hs.2
  rcases a2 with a2 | ⟨l, a2⟩
  · rcases b2 with b2 | ⟨l', b2⟩
    · omega
    · obtain ⟨l2, h2⟩ := b2.back
      rw [flips_id] at h2
      have := nearL_le hm hx hs h2
      omega
  · obtain ⟨l2, h2⟩ := a2.back
    have h3 := nearL_le hm hy hv h2
    rcases b2 with b2 | ⟨l', b2⟩
    · omega
    · obtain ⟨l4, h4⟩ := b2.back
      rw [flips_id] at h4
      have := nearL_le hm hx hs h4
      omega

end Go.Proofs.Ytaojognjkiifmaa

namespace Go.Proofs.Ytaojognjkiifmaa

/-- What is known of the best way from a node. -/
structure Gone (xs : List ArcD) (L : List LenD) (s v : Int) (k : Nat) (ys : List Int) : Prop where
  chain : Chain xs v ys
  cost : costL xs ys = (lab L v).x0
  nodup : (v :: ys.map (toOf xs)).Nodup
  less : ∀ u ∈ ys.map (toOf xs), (lab L u).x1 < k
  last : ys ≠ [] → (arcOf xs (numOf ys (ys.length - 1))).t = s
  none : ys = [] → v = s

theorem TreeL.gone {m : Nat} {xs : List ArcD} {s : Int} {L : List LenD} (h : TreeL m xs s L) : ∀ (k : Nat) (v : Int), 0 ≤ v → v < m → lab L v ≠ farL → (lab L v).x1 = k → Gone xs L s v k (wayL xs L s v) := by
  intro k
  induction k with
  | zero =>
    intro v h0 h1 hf hk
    have hv : v = s := by
      by_cases e : v = s
      · exact e
      · obtain ⟨j, a, _, e2, _, _, e5, _⟩ := h.some v e hf h0 h1
        have hb := h.arcs a (List.mem_of_getElem? e2)
        have := h.bound a.t (by omega) (by omega)
        omega
    subst hv
    rw [h.wayL_to]
    exact ⟨trivial, by rw [h.lab_to]; rfl, by simp, fun u hu => by simp at hu, fun e => absurd rfl e, fun _ => rfl⟩
  | succ k ih =>
    intro v h0 h1 hf hk
    have hv : v ≠ s := fun e => by rw [e, h.lab_to] at hk; simp at hk; omega
    obtain ⟨j, a, e1, e2, _, e4, e5, e6, e7, _⟩ := h.some v hv hf h0 h1
    have hb := h.arcs a (List.mem_of_getElem? e2)
    have hj : j < xs.length := (List.getElem?_eq_some_iff.1 e2).1
    have ha : arcOf xs (j : Int) = a := by unfold arcOf; rw [Int.toNat_natCast, List.getD_eq_getElem?_getD, e2]; rfl
    have ht : toOf xs (j : Int) = a.t := by unfold toOf; rw [ha]
    have g := ih a.t (by omega) (by omega) e4 (by omega)
    rw [h.wayL_step hv e1 e2 e5]
    have hle : ∀ u ∈ a.t :: (wayL xs L s a.t).map (toOf xs), (lab L u).x1 < ((k + 1 : Nat) : Int) := fun u hu => by
      rcases List.mem_cons.1 hu with rfl | hu
      · omega
      · have := g.less u hu; omega
    refine ⟨⟨by unfold inArc; rw [inB_iff]; omega, by rw [ha]; exact e7, by rw [ht]; exact g.chain⟩, ?_, ?_, ?_, fun _ => ?_, fun e => by cases e⟩
    · have hc := g.cost
      unfold costL at hc ⊢
      rw [List.map_cons, List.sum_cons, hc, ha, e6]
      omega
    · rw [List.map_cons, ht]
      refine List.nodup_cons.2 ⟨fun hm => ?_, g.nodup⟩
      have := hle v hm
      omega
    · rw [List.map_cons, ht]
      exact hle
    · cases hw : wayL xs L s a.t with
      | nil =>
        have := g.none hw
        simp [numOf, ha, this]
      | cons z zs =>
        have hl := g.last (by rw [hw]; simp)
        rw [hw] at hl
        rw [List.length_cons, show (z :: zs).length + 1 - 1 = ((z :: zs).length - 1) + 1 by simp, numOf_succ]
        exact hl

theorem plain_self {m : Int} {xs : List ArcD} {ys : List Int} (ho : okB m xs ys = true) (hn : ys ≠ [] → ((arcOf xs (numOf ys 0)).f :: ys.map (toOf xs)).Nodup) : plainI m xs ys = ys := by
  unfold plainI
  rw [if_pos ho]
  split
  · rename_i e
    exact (List.eq_nil_of_length_eq_zero e).symm
  · rename_i e
    unfold plainW
    rw [nodesW_map xs ys e]
    have := plainFrom_self (p := ys) (hn (fun e' => e (by rw [e']; rfl))) (by simp) (ys.length + 1) 0 (by omega) (by omega)
    simpa using this

/-- All that the law asks of a best way. -/
theorem near_gone {m : Int} {xs : List ArcD} {a b : Int} (h : nearWB m xs a b = true) : okB m xs (nearWI m xs a b) = true ∧ costI m xs (nearWI m xs a b) = at_ (nearI m xs a) b ∧ plainI m xs (nearWI m xs a b) = nearWI m xs a b ∧
    (nearWI m xs a b = [] → a = b) ∧ (nearWI m xs a b ≠ [] → (arcOf xs (numOf (nearWI m xs a b) 0)).f = a ∧ (arcOf xs (numOf (nearWI m xs a b) ((nearWI m xs a b).length - 1))).t = b) ∧ (nearWI m xs a b).length ≤ 20 ∧ (nearI m xs a).length = m.toNat ∧ 0 ≤ b ∧ b < m ∧ ∃ M : Nat, m = M := by
  rw [nearWB, Bool.and_eq_true] at h
  obtain ⟨hB, hF⟩ := h
  obtain ⟨hN, ha, hb⟩ := (hereB2_iff _ _ _ _).1 hB
  obtain ⟨M, rfl, h3, h8⟩ := here_nat hN
  rw [Int.toNat_natCast] at hF
  have hF : farB M xs b a = false := by simpa using hF
  have hT := treeL_of (arcsIn_net hN) hb (by omega)
  have hf : lab (labsOf M xs b) a ≠ farL := by simpa [farB] using hF
  have hw : nearWI (M : Int) xs a b = wayL xs (labsOf M xs b) b a := by rw [nearWI, hB, if_pos rfl, Int.toNat_natCast, wayM, hF, if_neg (by simp)]
  have hbd := hT.bound a ha.1 ha.2
  have g := hT.gone (lab (labsOf M xs b) a).x1.toNat a ha.1 ha.2 hf (by omega)
  have hfew := hT.way_few a ha.1 ha.2 hf
  have hhere : hereB (M : Int) xs a = true := (hereB_iff _ _ _).2 ⟨hN, ha⟩
  have hnear : nearI (M : Int) xs a = nearL M xs a := by rw [nearI, hhere, if_pos rfl, Int.toNat_natCast]
  rw [hw, hnear]
  generalize hys : wayL xs (labsOf M xs b) b a = ys at g hfew ⊢
  have hfirst : ys ≠ [] → (arcOf xs (numOf ys 0)).f = a := fun e => by
    cases ys with
    | nil => exact absurd rfl e
    | cons y ys => rw [numOf_zero]; exact g.chain.2.1
  have ho : okB (M : Int) xs ys = true := by
    unfold okB
    rw [hN, Bool.true_and, walkB_iff]
    exact ⟨by omega, fun k hk => g.chain.step k hk⟩
  refine ⟨ho, ?_, ?_, g.none, fun e => ⟨hfirst e, g.last e⟩, by omega, by rw [nearL_length, Int.toNat_natCast], hb.1, hb.2, M, rfl⟩
  · unfold costI
    rw [if_pos ho, sumTo_all, g.cost, ← hT.near_at a ha.1 ha.2]
    exact (near_back (by omega) (arcsIn_net hN) ha hb).symm
  · exact plain_self ho (fun e => by rw [hfirst e]; exact g.nodup)

end Go.Proofs.Ytaojognjkiifmaa

namespace Go.Proofs.Ytaojognjkiifmaa

/-- Numbers are nodes of a net that is ok, and not too many. -/
def listB (m : Int) (xs : List ArcD) (ys : List Int) : Bool := netB m xs && (decide (ys.length ≤ 8) && ys.all (fun z => inB z 0 (m - 1)))

theorem listB_iff (m : Int) (xs : List ArcD) (ys : List Int) : listB m xs ys = true ↔ netB m xs = true ∧ ys.length ≤ 8 ∧ ∀ y ∈ ys, 0 ≤ y ∧ y < m := by
  simp only [listB, Bool.and_eq_true, decide_eq_true_eq, List.all_eq_true, inB_iff]
  constructor
  · rintro ⟨h1, h2, h3⟩
    exact ⟨h1, h2, fun y hy => by have := h3 y hy; omega⟩
  · rintro ⟨h1, h2, h3⟩
    exact ⟨h1, h2, fun y hy => by have := h3 y hy; omega⟩

/-- Which of the first k numbers is least, and how much that is: -1 and Far, if none is less than Far. -/
def least (cs : List Int) : Nat → Int × Int
  | 0 => (-1, 99999)
  | k + 1 => if at_ cs (k : Int) < (least cs k).2 then ((k : Int), at_ cs (k : Int)) else least cs k

theorem least_bd (cs : List Int) : ∀ k : Nat, -1 ≤ (least cs k).1 ∧ (least cs k).1 < k ∧ (least cs k).2 ≤ 99999
  | 0 => by simp [least]
  | k + 1 => by
    have ih := least_bd cs k
    unfold least
    split
    · simp only; omega
    · omega

theorem least_le (cs : List Int) : ∀ k i : Nat, i < k → (least cs k).2 ≤ at_ cs (i : Int)
  | 0, i, h => by omega
  | k + 1, i, h => by
    have ih := least_le cs k
    unfold least
    by_cases e : i = k
    · subst e
      split
      · exact Int.le_refl _
      · omega
    · have := ih i (by omega)
      split
      · simp only; omega
      · exact this

theorem least_first (cs : List Int) : ∀ k i : Nat, i < k → (i : Int) < (least cs k).1 → (least cs k).2 < at_ cs (i : Int)
  | 0, i, h => by omega
  | k + 1, i, h => by
    have ih := least_first cs k
    have hle := least_le cs k
    have hbd := least_bd cs k
    unfold least
    split
    · intro h2
      simp only at h2 ⊢
      have := hle i (by omega)
      omega
    · intro h2
      exact ih i (by omega) h2

theorem least_at (cs : List Int) : ∀ k : Nat, ((least cs k).1 = -1 ∧ (least cs k).2 = 99999) ∨ ∃ j : Nat, j < k ∧ (least cs k).1 = j ∧ at_ cs (j : Int) = (least cs k).2
  | 0 => by simp [least]
  | k + 1 => by
    have ih := least_at cs k
    unfold least
    split
    · exact .inr ⟨k, by omega, rfl, rfl⟩
    · rcases ih with h | ⟨j, h1, h2⟩
      · exact .inl h
      · exact .inr ⟨j, by omega, h2⟩

theorem least_next_lt {cs : List Int} {k : Nat} {z : Int} (hz : at_ cs (k : Int) = z) (h : z < (least cs k).2) : least cs (k + 1) = ((k : Int), z) := by
  subst hz
  simp only [least, if_pos h]
theorem least_next_ge {cs : List Int} {k : Nat} {z : Int} (hz : at_ cs (k : Int) = z) (h : ¬ z < (least cs k).2) : least cs (k + 1) = least cs k := by
  subst hz
  simp only [least, if_neg h]

/-- What it costs from a node to each of a list. -/
def costsL (m : Int) (xs : List ArcD) (s : Int) (ys : List Int) : List Int := ys.map (at_ (nearL m.toNat xs s))

theorem at_map {f : Int → Int} {ys : List Int} {k : Nat} {y : Int} (h : ys[k]? = some y) : at_ (ys.map f) (k : Int) = f y := by
  simp [at_, h]

/-- Which of a list of nodes is nearest, and what that costs. -/
def manyW (m : Int) (xs : List ArcD) (s : Int) (ys : List Int) : Int := if listB m xs ys && inB s 0 (m - 1) then (least (costsL m xs s ys) ys.length).1 else -1
def manyC (m : Int) (xs : List ArcD) (s : Int) (ys : List Int) : Int := if listB m xs ys && inB s 0 (m - 1) then (least (costsL m xs s ys) ys.length).2 else -1

end Go.Proofs.Ytaojognjkiifmaa

namespace Go.Proofs.Ytaojognjkiifmaa
open Go.RowKit

/-- What can be reached costs little. -/
theorem nearL_small {m : Nat} {xs : List ArcD} {s v : Int} (hm : m ≤ 17) (hx : ArcsIn m xs) (hs : 0 ≤ s ∧ s < m) (hv : 0 ≤ v ∧ v < m) (h : at_ (nearL m xs s) v ≠ 99999) : at_ (nearL m xs s) v ≤ 11200 := by
  obtain ⟨_, h2⟩ := (nearL_sound hx hs).2 v hv.1 hv.2
  rcases h2 with h2 | ⟨l, h2⟩
  · exact absurd h2 h
  · obtain ⟨c2, l2, h1, _, _, h4⟩ := h2.simple hx
    have hf := h1.few hx hs h4
    have hc := h1.cost hx
    have := nearL_le hm hx hs h1
    omega

theorem near_tri {m : Nat} {xs : List ArcD} {s u v : Int} (hm : m ≤ 17) (hx : ArcsIn m xs) (hs : 0 ≤ s ∧ s < m) (hu : 0 ≤ u ∧ u < m) (hv : 0 ≤ v ∧ v < m) : at_ (nearL m xs s) v ≤ at_ (nearL m xs s) u + at_ (nearL m xs u) v := by
  have b1 := nearL_bound hx hs hu
  have b2 := nearL_bound hx hu hv
  have b3 := nearL_bound hx hs hv
  by_cases h1 : at_ (nearL m xs s) u < farI
  · by_cases h2 : at_ (nearL m xs u) v < farI
    · exact near_over hm hx hs hu hv h1 h2
    · omega
  · omega

/-- How much more one distance is than another one. -/
def surI (a b : Int) : Int := if b = 99999 then 0 else if 49999 < a - b then 99999 else a - b
/-- What is known of one mark: d from it, b to it. -/
def lessM (d b : List Int) (f t : Int) : Int :=
  let p := if at_ d f < 99999 ∧ 0 < at_ d t - at_ d f then at_ d t - at_ d f else 0
  let q := if at_ b t < 99999 ∧ p < at_ b f - at_ b t then at_ b f - at_ b t else p
  if 49999 < q then 99999 else q
theorem sur_less {d b : List Int} {f t z : Int} (h1 : 0 ≤ at_ d f ∧ at_ d f ≤ 99999) (h2 : 0 ≤ at_ d t ∧ at_ d t ≤ 99999) (h3 : 0 ≤ at_ b f ∧ at_ b f ≤ 99999) (h4 : 0 ≤ at_ b t ∧ at_ b t ≤ 99999) (hz : 0 ≤ z) :
    max (max z (surI (at_ d t) (at_ d f))) (surI (at_ b f) (at_ b t)) = max z (lessM d b f t) := by
  unfold surI lessM
  simp only
  split <;> split <;> (repeat' split) <;> omega
theorem lessM_bound {d b : List Int} {f t : Int} (_h1 : 0 ≤ at_ d f ∧ at_ d f ≤ 99999) (_h2 : 0 ≤ at_ d t ∧ at_ d t ≤ 99999) (_h3 : 0 ≤ at_ b f ∧ at_ b f ≤ 99999) (_h4 : 0 ≤ at_ b t ∧ at_ b t ≤ 99999) :
    0 ≤ lessM d b f t ∧ lessM d b f t ≤ 99999 := by
  unfold lessM
  simp only
  repeat' split
  all_goals omega

/-- What is known of the first k marks. -/
def boundTo (M : Nat) (xs : List ArcD) (ks : List Int) (f t : Int) : Nat → Int
  | 0 => 0
  | k + 1 => max (boundTo M xs ks f t k) (lessM (nearL M xs (at_ ks (k : Int))) (nearL M (xs.map flip) (at_ ks (k : Int))) f t)
def boundI (m : Int) (xs : List ArcD) (ks : List Int) (f t : Int) : Int := if listB m xs ks && (inB f 0 (m - 1) && inB t 0 (m - 1)) then boundTo m.toNat xs ks f t ks.length else -1

theorem at_mem {ks : List Int} {k : Nat} (h : k < ks.length) : at_ ks (k : Int) ∈ ks := by
  have : at_ ks (k : Int) = ks[k] := by simp [at_, h]
  rw [this]
  exact List.getElem_mem h

section
variable {M : Nat} {xs : List ArcD} {ks : List Int} {f t : Int}
theorem four (hx : ArcsIn M xs) (hf : 0 ≤ f ∧ f < M) (ht : 0 ≤ t ∧ t < M) {s : Int} (hs : 0 ≤ s ∧ s < M) :
    (0 ≤ at_ (nearL M xs s) f ∧ at_ (nearL M xs s) f ≤ 99999) ∧ (0 ≤ at_ (nearL M xs s) t ∧ at_ (nearL M xs s) t ≤ 99999) ∧ (0 ≤ at_ (nearL M (xs.map flip) s) f ∧ at_ (nearL M (xs.map flip) s) f ≤ 99999) ∧ (0 ≤ at_ (nearL M (xs.map flip) s) t ∧ at_ (nearL M (xs.map flip) s) t ≤ 99999) :=
  ⟨nearL_bound hx hs hf, nearL_bound hx hs ht, nearL_bound (arcsIn_back hx) hs hf, nearL_bound (arcsIn_back hx) hs ht⟩
theorem boundTo_bound (hx : ArcsIn M xs) (hk : ∀ y ∈ ks, 0 ≤ y ∧ y < M) (hf : 0 ≤ f ∧ f < M) (ht : 0 ≤ t ∧ t < M) : ∀ k, k ≤ ks.length → 0 ≤ boundTo M xs ks f t k ∧ boundTo M xs ks f t k ≤ 99999
  | 0, _ => by unfold boundTo; omega
  | k + 1, h => by
    have ih := boundTo_bound hx hk hf ht k (by omega)
    obtain ⟨h1, h2, h3, h4⟩ := four hx hf ht (hk _ (at_mem (ks := ks) (k := k) (by omega)))
    have := lessM_bound h1 h2 h3 h4
    unfold boundTo
    omega
/-- One mark says no more than what it costs. -/
theorem lessM_le (hM : M ≤ 17) (hx : ArcsIn M xs) (hf : 0 ≤ f ∧ f < M) (ht : 0 ≤ t ∧ t < M) {s : Int} (hs : 0 ≤ s ∧ s < M) :
    lessM (nearL M xs s) (nearL M (xs.map flip) s) f t ≤ at_ (nearL M xs f) t := by
  obtain ⟨h1, h2, h3, h4⟩ := four hx hf ht hs
  have c1 := near_tri hM hx hs hf ht
  have c2 := near_tri hM hx hf ht hs
  have e1 := near_back hM hx hf hs
  have e2 := near_back hM hx ht hs
  have b0 := nearL_bound hx hf ht
  have s1 := fun h => nearL_small hM hx hs hf h
  have s2 := fun h => nearL_small hM (arcsIn_back hx) hs ht h
  have s3 := fun h => nearL_small hM hx hf ht h
  unfold lessM
  simp only
  unfold farI at *
  rw [e1, e2] at c2
  repeat' split
  all_goals omega
theorem boundTo_le (hM : M ≤ 17) (hx : ArcsIn M xs) (hk : ∀ y ∈ ks, 0 ≤ y ∧ y < M) (hf : 0 ≤ f ∧ f < M) (ht : 0 ≤ t ∧ t < M) : ∀ k, k ≤ ks.length → boundTo M xs ks f t k ≤ at_ (nearL M xs f) t
  | 0, _ => by
    have := nearL_bound hx hf ht
    unfold boundTo
    omega
  | k + 1, h => by
    have ih := boundTo_le hM hx hk hf ht k (by omega)
    have := lessM_le hM hx hf ht (hk _ (at_mem (ks := ks) (k := k) (by omega)))
    unfold boundTo
    omega
/-- The first node as a mark says what it costs. -/
theorem lessM_self (hM : M ≤ 17) (hx : ArcsIn M xs) (hf : 0 ≤ f ∧ f < M) (ht : 0 ≤ t ∧ t < M) :
    lessM (nearL M xs f) (nearL M (xs.map flip) f) f t = at_ (nearL M xs f) t := by
  have hle := lessM_le hM hx hf ht hf
  obtain ⟨h1, h2, h3, h4⟩ := four hx hf ht hf
  have e0 := nearL_start hM hx hf
  have e1 := nearL_start hM (arcsIn_back hx) hf
  have s3 := fun h => nearL_small hM hx hf ht h
  unfold lessM at hle ⊢
  simp only at hle ⊢
  rw [e0, e1] at hle ⊢
  repeat' split at hle
  all_goals (repeat' split) <;> omega
theorem boundTo_app (js : List Int) : ∀ k, k ≤ ks.length → boundTo M xs (ks ++ js) f t k = boundTo M xs ks f t k
  | 0, _ => rfl
  | k + 1, h => by
    have ih := boundTo_app js k (by omega)
    have e : at_ (ks ++ js) (k : Int) = at_ ks (k : Int) := by simp [at_, List.getD_eq_getElem?_getD, List.getElem?_append_left (show k < ks.length by omega)]
    rw [boundTo, boundTo, ih, e]
theorem boundTo_with (hM : M ≤ 17) (hx : ArcsIn M xs) (hk : ∀ y ∈ ks, 0 ≤ y ∧ y < M) (hf : 0 ≤ f ∧ f < M) (ht : 0 ≤ t ∧ t < M) : boundTo M xs (ks ++ [f]) f t (ks.length + 1) = at_ (nearL M xs f) t := by
  have hle := boundTo_le hM hx hk hf ht ks.length (Nat.le_refl _)
  have e : at_ (ks ++ [f]) ((ks.length : Nat) : Int) = f := by simp [at_]
  rw [boundTo, boundTo_app _ _ (Nat.le_refl _), e, lessM_self hM hx hf ht]
  omega
/-- Over an arc. -/
theorem lessM_arc (hM : M ≤ 17) (hx : ArcsIn M xs) (ht : 0 ≤ t ∧ t < M) {s : Int} (hs : 0 ≤ s ∧ s < M) {a : ArcD} (ha : a ∈ xs) (hfar : lessM (nearL M xs s) (nearL M (xs.map flip) s) a.t t < 99999) :
    lessM (nearL M xs s) (nearL M (xs.map flip) s) a.f t ≤ a.c + lessM (nearL M xs s) (nearL M (xs.map flip) s) a.t t := by
  have hb := hx a ha
  have hf : 0 ≤ a.f ∧ a.f < M := ⟨hb.1, hb.2.1⟩
  have hg : 0 ≤ a.t ∧ a.t < M := ⟨hb.2.2.1, hb.2.2.2.1⟩
  obtain ⟨h1, h2, h3, h4⟩ := four hx hf ht hs
  obtain ⟨g1, _, g3, _⟩ := four hx hg ht hs
  have c1 : at_ (nearL M xs s) a.f < 99999 → at_ (nearL M xs s) a.t ≤ at_ (nearL M xs s) a.f + a.c := fun h => nearL_arc hM hx hs ha h
  have c2 : at_ (nearL M (xs.map flip) s) a.t < 99999 → at_ (nearL M (xs.map flip) s) a.f ≤ at_ (nearL M (xs.map flip) s) a.t + a.c := fun h => nearL_arc hM (arcsIn_back hx) hs (a := flip a) (List.mem_map_of_mem ha) h
  have s1 := fun h => nearL_small hM hx hs hf h
  have s2 := fun h => nearL_small hM hx hs hg h
  have s3 := fun h => nearL_small hM hx hs ht h
  have r1 := fun h => nearL_small hM (arcsIn_back hx) hs hf h
  have r2 := fun h => nearL_small hM (arcsIn_back hx) hs hg h
  have r3 := fun h => nearL_small hM (arcsIn_back hx) hs ht h
  unfold lessM at hfar ⊢
  simp only at hfar ⊢
  repeat' split at hfar
  all_goals (repeat' split) <;> omega
theorem boundTo_arc (hM : M ≤ 17) (hx : ArcsIn M xs) (hk : ∀ y ∈ ks, 0 ≤ y ∧ y < M) (ht : 0 ≤ t ∧ t < M) {a : ArcD} (ha : a ∈ xs) : ∀ k, k ≤ ks.length → boundTo M xs ks a.t t k < 99999 → boundTo M xs ks a.f t k ≤ a.c + boundTo M xs ks a.t t k
  | 0, _, _ => by
    have := hx a ha
    unfold boundTo
    omega
  | k + 1, h, hb => by
    have hs := hk _ (at_mem (ks := ks) (k := k) (by omega))
    unfold boundTo at hb ⊢
    have ih := boundTo_arc hM hx hk ht ha k (by omega) (by omega)
    have := lessM_arc hM hx ht hs ha (by omega)
    omega
theorem boundTo_self (hx : ArcsIn M xs) : ∀ k, boundTo M xs ks t t k = 0
  | 0 => rfl
  | k + 1 => by
    rw [boundTo, boundTo_self hx k]
    unfold lessM
    simp only [Int.sub_self]
    simp
end

end Go.Proofs.Ytaojognjkiifmaa

namespace Go.Proofs.Ytaojognjkiifmaa

/-- What it costs at least over a node. -/
def overI (m : Int) (xs : List ArcD) (f t o : Int) : Int := if netB m xs && (inB f 0 (m - 1) && (inB t 0 (m - 1) && inB o 0 (m - 1))) then min (at_ (nearL m.toNat xs f) o + at_ (nearL m.toNat xs o) t) 99999 else -1

/-- Each arc of the best way leads to a node that is on it. -/
theorem TreeL.over {m : Nat} {xs : List ArcD} {s : Int} {L : List LenD} (h : TreeL m xs s L) : ∀ (k : Nat) (v : Int), 0 ≤ v → v < m → lab L v ≠ farL → (lab L v).x1 = k → ∀ y ∈ wayL xs L s v, 0 ≤ y ∧ ∃ a : ArcD, xs[y.toNat]? = Option.some a ∧ lab L a.t ≠ farL ∧ ∃ c l, Way xs v a.t c l ∧ c + (lab L a.t).x0 = (lab L v).x0 := by
  intro k
  induction k with
  | zero =>
    intro v h0 h1 hf hk y hy
    have := h.way_len 0 v h0 h1 hf hk
    rw [List.eq_nil_of_length_eq_zero this] at hy
    cases hy
  | succ k ih =>
    intro v h0 h1 hf hk y hy
    have hv : v ≠ s := fun e => by rw [e, h.lab_to] at hk; simp at hk; omega
    obtain ⟨j, a, e1, e2, _, e4, e5, e6, e7, _⟩ := h.some v hv hf h0 h1
    have hm := List.mem_of_getElem? e2
    have hb := h.arcs a hm
    rw [h.wayL_step hv e1 e2 e5] at hy
    have w1 : Way xs v a.t a.c [a.f] := by have := Way.one hm; rw [e7] at this; rw [e7]; exact this
    rcases List.mem_cons.1 hy with rfl | hy
    · exact ⟨by omega, a, by simpa using e2, e4, _, _, w1, by omega⟩
    · obtain ⟨g1, b, g2, g3, c, l, g4, g5⟩ := ih a.t (by omega) (by omega) e4 (by omega) y hy
      obtain ⟨l2, w2⟩ := w1.join g4
      exact ⟨g1, b, g2, g3, _, _, w2, by omega⟩

section
variable {m : Int} {xs : List ArcD} {f t : Int}
theorem overI_at {M : Nat} (hN : netB (M : Int) xs = true) (hf : 0 ≤ f ∧ f < M) (ht : 0 ≤ t ∧ t < M) {o : Int} (ho : 0 ≤ o ∧ o < M) : overI (M : Int) xs f t o = min (at_ (nearL M xs f) o + at_ (nearL M xs o) t) 99999 := by
  unfold overI
  rw [if_pos, Int.toNat_natCast]
  simp only [Bool.and_eq_true, inB_iff]
  exact ⟨hN, by omega, by omega, by omega⟩
/-- Over a node of the best way it costs as little. -/
theorem over_way {a b : Int} (h : nearWB m xs a b = true) : ∀ y ∈ nearWI m xs a b, ∃ e, xs[y.toNat]? = some e ∧ 0 ≤ y ∧ overI m xs a b e.t = at_ (nearI m xs a) b := by
  intro y hy
  simp only [nearWB, Bool.and_eq_true, Bool.not_eq_true', hereB2_iff] at h
  obtain ⟨⟨hN, ha, hb⟩, hfar⟩ := h
  obtain ⟨M, rfl, h3, h8⟩ := here_nat hN
  have hx := arcsIn_net hN
  have hT := treeL_of hx hb h8
  rw [Int.toNat_natCast] at hfar
  have hnf : lab (labsOf M xs b) a ≠ farL := by simpa [farB] using hfar
  rw [nearWI, if_pos ((hereB2_iff _ _ _ _).2 ⟨hN, ha, hb⟩), Int.toNat_natCast, wayM, if_neg (by rw [hfar]; simp)] at hy
  have hbd := hT.bound a ha.1 ha.2
  obtain ⟨g1, e, g2, g3, c, l, g4, g5⟩ := hT.over (lab (labsOf M xs b) a).x1.toNat a ha.1 ha.2 hnf (by omega) y hy
  have hm := List.mem_of_getElem? g2
  have he := hx e hm
  refine ⟨e, g2, g1, ?_⟩
  have hn : ∀ v : Int, 0 ≤ v ∧ v < M → at_ (nearL M xs v) b = (lab (labsOf M xs b) v).x0 := fun v hv => by
    rw [near_back (by omega) hx hv hb, hT.near_at v hv.1 hv.2]
  have het : 0 ≤ e.t ∧ e.t < (M : Int) := by omega
  have h1 := nearL_le (by omega) hx ha g4
  have h2 := near_tri (by omega) hx ha het hb
  have h4 := (hT.bound a ha.1 ha.2).2.2.2.2.resolve_left hnf
  have e1 := hn a ha
  have e2 := hn e.t het
  rw [overI_at hN ha hb het, nearI, if_pos ((hereB_iff _ _ _).2 ⟨hN, ha⟩), Int.toNat_natCast]
  omega
theorem over_least {M : Nat} (hN : netB (M : Int) xs = true) (hf : 0 ≤ f ∧ f < M) (ht : 0 ≤ t ∧ t < M) {o : Int} (ho : 0 ≤ o ∧ o < M) : at_ (nearL M xs f) t ≤ overI (M : Int) xs f t o := by
  have hM := ((netB_iff _ _).1 hN).1
  have hx := arcsIn_net hN
  have h1 := near_tri (by omega) hx hf ho ht
  have h2 := nearL_bound hx hf ht
  unfold farI at h2
  rw [overI_at hN hf ht ho]
  omega
theorem over_first {M : Nat} (hN : netB (M : Int) xs = true) (hf : 0 ≤ f ∧ f < M) (ht : 0 ≤ t ∧ t < M) : overI (M : Int) xs f t f = at_ (nearL M xs f) t := by
  have hM := ((netB_iff _ _).1 hN).1
  have hx := arcsIn_net hN
  have h1 := nearL_start (by omega) hx hf
  have h2 := nearL_bound hx hf ht
  unfold farI at h2
  rw [overI_at hN hf ht hf]
  omega
theorem over_last {M : Nat} (hN : netB (M : Int) xs = true) (hf : 0 ≤ f ∧ f < M) (ht : 0 ≤ t ∧ t < M) : overI (M : Int) xs f t t = at_ (nearL M xs f) t := by
  have hM := ((netB_iff _ _).1 hN).1
  have hx := arcsIn_net hN
  have h1 := nearL_start (by omega) hx ht
  have h2 := nearL_bound hx hf ht
  unfold farI at h2
  rw [overI_at hN hf ht ht]
  omega
end

end Go.Proofs.Ytaojognjkiifmaa

namespace Go.Proofs.Ytaojognjkiifmaa
open Go.RowKit

/-- What the specification tells. -/
theorem over_sum {M : Nat} {xs : List ArcD} {f t o : Int} (hN : netB (M : Int) xs = true) (hf : 0 ≤ f ∧ f < M) (ht : 0 ≤ t ∧ t < M) (ho : 0 ≤ o ∧ o < M) :
    overI (M : Int) xs f t o = if 99999 ≤ at_ (nearL M xs f) o then 99999 else if 99999 ≤ at_ (nearL M xs o) t then 99999 else at_ (nearL M xs f) o + at_ (nearL M xs o) t := by
  have hM := ((netB_iff _ _).1 hN).1
  have hx := arcsIn_net hN
  rw [overI_at hN hf ht ho]
  have b1 := nearL_bound hx hf ho
  have b2 := nearL_bound hx ho ht
  have s1 := nearL_small (by omega) hx hf ho
  have s2 := nearL_small (by omega) hx ho ht
  unfold farI at b1 b2
  split
  · omega
  · split
    · omega
    · have := s1 (by omega)
      have := s2 (by omega)
      omega

set_option maxRecDepth 100000 in
set_option maxHeartbeats 2000000 in
theorem specBothOver_any (m : Int) (A : Option Addr) (n c : Nat) (xs : List ArcD) (a b o : Int) (w : World) (hn : n ≤ 1048576) (hnx : xs.length = n) (hx : ArcsAt w A xs) :
    Calls Try.prog 39 #[.agg #[.int .i64 m, .slice A n c], .int .i64 a, .int .i64 b, .int .i64 o] w fun e w' => e = .returned (.int .i64 (overI m xs a b o)) ∧ Below w.heap.size w w' := by
  have HX := Lib.hid hnx
  clear hnx
  have hb0 : Past w (w.alloc (.cells #[.int .i64 m, .slice A n c] 32)) := (Past.refl _).alloc _
  go_enter Try.func39, Try.ntmps39
  go_wp2_with fail
  refine (l1Ok_any m A n c xs _ hn HX.out (hx.below hb0)).mono ?_
  rintro e W ⟨rfl, hb1⟩
  have b0 := cell_in (p := ⟨w.heap.size, 0, none⟩) (v := .int .i64 m) hb1 (by go_simp)
  have b1 := cell_in (p := ⟨w.heap.size, 1, none⟩) (v := .slice A n c) hb1 (by go_simp)
  have hxW := (hx.below hb0).below hb1
  have hpW := hb0.trans hb1
  clear hb0 hb1
  cases hB : netB m xs with
  | false =>
    have HB := Lib.hid hB
    clear hB
    go_wp2
    go_ret
    exact ⟨ret_int (by rw [overI, HB.out]; rfl), hpW⟩
  | true =>
  obtain ⟨M, rfl, h1, h8⟩ := here_nat hB
  have h16 : n ≤ 16 := by rw [← HX.out]; exact ((netB_iff _ _).1 hB).2.1
  have HB := Lib.hid hB
  clear hB
  go_wp2_with fail
  refine (l1In_any _ _ _ _).mono ?_
  rintro e w2 ⟨rfl, rfl⟩
  cases hI : inB a 0 ((M : Int) - 1) with
  | false =>
    have HI := Lib.hid hI
    clear hI
    go_wp2
    go_ret
    exact ⟨ret_int (by rw [overI, HB.out, HI.out]; rfl), hpW⟩
  | true =>
  have HI := Lib.hid hI
  have ha := (inB_iff _ _ _).1 hI
  clear hI
  go_wp2_with fail
  refine (l1In_any _ _ _ _).mono ?_
  rintro e w3 ⟨rfl, rfl⟩
  cases hJ : inB b 0 ((M : Int) - 1) with
  | false =>
    have HJ := Lib.hid hJ
    clear hJ
    go_wp2
    go_ret
    exact ⟨ret_int (by rw [overI, HB.out, HI.out, HJ.out]; rfl), hpW⟩
  | true =>
  have HJ := Lib.hid hJ
  have hb := (inB_iff _ _ _).1 hJ
  clear hJ
  go_wp2_with fail
  refine (l1In_any _ _ _ _).mono ?_
  rintro e w4 ⟨rfl, rfl⟩
  cases hK : inB o 0 ((M : Int) - 1) with
  | false =>
    have HK := Lib.hid hK
    clear hK
    go_wp2
    go_ret
    exact ⟨ret_int (by rw [overI, HB.out, HI.out, HJ.out, HK.out]; rfl), hpW⟩
  | true =>
  have ho := (inB_iff _ _ _).1 hK
  clear hK
  have hv := over_sum (f := a) (t := b) (o := o) HB.out (by omega) (by omega) (by omega)
  have HV := Lib.hid hv
  clear hv
  have o0 : 0 ≤ o := by omega
  have o1 : o < (M : Int) := by omega
  have t0 : 0 ≤ b := by omega
  have t1 : b < (M : Int) := by omega
  go_wp2_with fail
  refine (l3All_any M a A n c xs _ h8 HX.out (by omega) hxW (arcsIn_net HB.out) (by omega)).mono ?_
  rintro e w5 ⟨v5, rfl, hv5, hb5⟩
  obtain ⟨D, cd, rfl, hd5, _⟩ := hv5.form
  rw [nearL_length]
  obtain ⟨g5, o5, rfl, c5⟩ := hd5 o.toNat _ (getElem_at _ o.toNat (by rw [nearL_length]; omega))
  rw [show ((o.toNat : Nat) : Int) = o by omega] at c5
  obtain ⟨p, hp⟩ : ∃ p, p = at_ (nearL M xs a) o := ⟨_, rfl⟩
  rw [← hp] at c5 HV
  have q1 := nearL_bound (arcsIn_net HB.out) (s := a) (v := o) (m := M) (by omega) (by omega)
  rw [← hp] at q1
  clear hp
  have b0 := cell_in hb5 b0
  have b1 := cell_in hb5 b1
  have hx5 := hxW.below hb5
  have hp5 := hpW.trans hb5
  clear hv5 hd5 hb5
  go_wp2_with fail
  refine (l3All_any M o A n c xs _ h8 HX.out (by omega) hx5 (arcsIn_net HB.out) (by omega)).mono ?_
  rintro e w6 ⟨v6, rfl, hv6, hb6⟩
  obtain ⟨E, ce, rfl, he6, _⟩ := hv6.form
  rw [nearL_length]
  obtain ⟨g6, o6, rfl, c6⟩ := he6 b.toNat _ (getElem_at _ b.toNat (by rw [nearL_length]; omega))
  rw [show ((b.toNat : Nat) : Int) = b by omega] at c6
  obtain ⟨q, hq⟩ : ∃ q, q = at_ (nearL M xs o) b := ⟨_, rfl⟩
  rw [← hq] at c6 HV
  have hp6 := hp5.trans hb6
  have q2 := nearL_bound (arcsIn_net HB.out) (s := o) (v := b) (m := M) (by omega) (by omega)
  rw [← hq] at q2
  unfold farI at q1 q2
  have s1 : IntKind.i64.wrap (p + q) = p + q := IntWalk.i64_in _ (by omega)
  clear hv6 he6 hb6 hq
  by_cases e1 : 99999 ≤ p
  · go_wp2
    go_ret
    exact ⟨ret_int (by rw [HV.out, if_pos e1]), hp6⟩
  · by_cases e2 : 99999 ≤ q
    · go_wp2
      go_ret
      exact ⟨ret_int (by rw [HV.out, if_neg (by omega), if_pos (by omega)]), hp6⟩
    · go_wp2
      go_ret
      exact ⟨ret_int (by rw [HV.out, if_neg (by omega), if_neg (by omega)]), hp6⟩

end Go.Proofs.Ytaojognjkiifmaa

namespace Go.Proofs.Ytaojognjkiifmaa
open Go.RowKit

set_option maxRecDepth 100000 in
set_option maxHeartbeats 2000000 in
theorem implBothOver_any (m : Int) (A : Option Addr) (n c : Nat) (xs : List ArcD) (a b o : Int) (w : World) (hn : n ≤ 1048576) (hnx : xs.length = n) (hx : ArcsAt w A xs) :
    Calls Try.prog 40 #[.agg #[.int .i64 m, .slice A n c], .int .i64 a, .int .i64 b, .int .i64 o] w fun e w' => e = .returned (.int .i64 (overI m xs a b o)) ∧ Below w.heap.size w w' := by
  have HX := Lib.hid hnx
  clear hnx
  have hb0 : Past w ((w.alloc (.cells #[.int .i64 m, .slice A n c] 32)).alloc (.cells #[.int .i64 a, .int .i64 b, .int .i64 o] 3)) := ((Past.refl _).alloc _).alloc _
  have hz : IntsAt ((w.alloc (.cells #[.int .i64 m, .slice A n c] 32)).alloc (.cells #[.int .i64 a, .int .i64 b, .int .i64 o] 3)) (some ⟨w.heap.size + 1, 0, none⟩) [a, b, o] := fun k y hk => by
    rcases k with _ | _ | _ | k
    · simp at hk; subst hk; exact ⟨_, _, rfl, by go_simp⟩
    · simp at hk; subst hk; exact ⟨_, _, rfl, by go_simp⟩
    · simp at hk; subst hk; exact ⟨_, _, rfl, by go_simp⟩
    · simp at hk
  go_enter Try.func40, Try.ntmps40
  go_wp2_with fail
  refine (netHas_any m A n c xs _ 3 3 [a, b, o] _ hn HX.out (hx.below hb0) (by omega) rfl hz).mono ?_
  rintro e w1 ⟨rfl, hb1⟩
  have b0 := cell_in (p := ⟨w.heap.size, 0, none⟩) (v := .int .i64 m) hb1 (by go_simp)
  have b1 := cell_in (p := ⟨w.heap.size, 1, none⟩) (v := .slice A n c) hb1 (by go_simp)
  have hx1 := (hx.below hb0).below hb1
  have hp1 := hb0.trans hb1
  have hH : (netB m xs && [a, b, o].all (fun z => inB z 0 (m - 1))) = (netB m xs && (inB a 0 (m - 1) && (inB b 0 (m - 1) && inB o 0 (m - 1)))) := by simp
  rw [hH]
  clear hH hb0 hz hb1
  cases hB : (netB m xs && (inB a 0 (m - 1) && (inB b 0 (m - 1) && inB o 0 (m - 1)))) with
  | false =>
    have HB := Lib.hid hB
    clear hB
    go_wp2
    go_ret
    exact ⟨ret_int (by rw [overI, HB.out]; rfl), hp1⟩
  | true =>
  have HB := Lib.hid hB
  simp only [Bool.and_eq_true, inB_iff] at hB
  obtain ⟨hN, ha, hb, ho⟩ := hB
  obtain ⟨M, rfl, h3, h8⟩ := here_nat hN
  have hM8 : M ≤ 8 := by omega
  have hv := overI_at (f := a) (t := b) (o := o) hN (by omega) (by omega) (by omega)
  have h1 : nearI (M : Int) xs a = nearL M xs a := by rw [nearI, if_pos ((hereB_iff _ _ _).2 ⟨hN, by omega, by omega⟩), Int.toNat_natCast]
  have h2 : nearI (M : Int) xs o = nearL M xs o := by rw [nearI, if_pos ((hereB_iff _ _ _).2 ⟨hN, by omega, by omega⟩), Int.toNat_natCast]
  have HV := Lib.hid hv
  have C1 := Lib.hid (fun q : PastOf w1 => implNearAll_any (M : Int) A n c xs a q.W hn HX.out (hx1.below q.h))
  have C2 := Lib.hid (fun q : PastOf w1 => implNearAll_any (M : Int) A n c xs o q.W hn HX.out (hx1.below q.h))
  rw [h1] at C1
  rw [h2] at C2
  have HN := Lib.hid hN
  have o0 : 0 ≤ o := by omega
  have o1 : o < (M : Int) := by omega
  have t0 : 0 ≤ b := by omega
  have t1 : b < (M : Int) := by omega
  obtain ⟨p, hp⟩ : ∃ p, p = at_ (nearL M xs a) o := ⟨_, rfl⟩
  obtain ⟨q, hq⟩ : ∃ q, q = at_ (nearL M xs o) b := ⟨_, rfl⟩
  have q1 := nearL_bound (arcsIn_net hN) (s := a) (v := o) (m := M) (by omega) (by omega)
  have q2 := nearL_bound (arcsIn_net hN) (s := o) (v := b) (m := M) (by omega) (by omega)
  rw [← hp] at q1
  rw [← hq] at q2
  unfold farI at q1 q2
  have s1 : IntKind.i64.wrap (p + q) = p + q := IntWalk.i64_in _ (by omega)
  have G1 : Hid ((nearL M xs a)[o.toNat]? = some p) := by rw [Hid, getElem_at _ o.toNat (by rw [nearL_length]; omega), show ((o.toNat : Nat) : Int) = o by omega, hp]
  have G2 : Hid ((nearL M xs o)[b.toNat]? = some q) := by rw [Hid, getElem_at _ b.toNat (by rw [nearL_length]; omega), show ((b.toNat : Nat) : Int) = b by omega, hq]
  have HVV : Hid (overI (M : Int) xs a b o = min (p + q) 99999) := by rw [Hid, HV.out, hp, hq]
  clear hv h1 h2 hN hp hq HV HB
  go_wp2_with fail
  go_region_with (first
      | (go_at_call 30; (with_reducible refine (C1.out ⟨w1.drew, (Past.refl w1).drew⟩).mono ?_); rintro e w2 ⟨v2, rfl, hv2, hb2⟩; obtain ⟨D, cd, rfl, hd2, _⟩ := hv2.form; rw [nearL_length]; obtain ⟨g2, o2, rfl, c2⟩ := hd2 o.toNat p G1.out; have b0 := cell_in hb2 b0; have b1 := cell_in hb2 b1; have hp12 : Past w1 w2 := (Past.refl w1).drew.trans hb2; clear hv2 hd2)
      | (go_at_call 30; (with_reducible refine (C2.out ⟨w2, hp12⟩).mono ?_); rintro e w3 ⟨v3, rfl, hv3, hb3⟩; obtain ⟨E, ce, rfl, hd3, _⟩ := hv3.form; rw [nearL_length]; obtain ⟨g3, o3, rfl, c3⟩ := hd3 b.toNat q G2.out; have b0 := cell_in hb3 b0; have b1 := cell_in hb3 b1; have c2 := cell_in hb3 c2; clear hv3 hd3))
  all_goals go_wp2
  all_goals go_ret
  all_goals exact ⟨ret_int (by rw [HVV.out]), (hp1.trans hp12).trans hb3⟩

end Go.Proofs.Ytaojognjkiifmaa

namespace Go.Proofs.Ytaojognjkiifmaa
open Go.RowKit

set_option maxHeartbeats 400000 in
theorem eqIntS_same (A B : Option Addr) (n c c' : Nat) (xs : List Int) (w : World) (hn : n ≤ 1048576) (hl : xs.length = n) (hx : IntsAt w A xs) (hy : IntsAt w B xs) :
    Calls Try.prog 21 #[.slice A n c, .slice B n c'] w fun e w' => e = .returned (.bool true) ∧ Below w.heap.size w w' := by
  go_enter Try.func21, Try.ntmps21
  go_wp2
  go_loopw [5] (fun i wr => ∃ k : Nat, k ≤ n ∧ i = .int .i64 k ∧ Below w.heap.size w wr) (fun i _ => n - (intOf i).toNat)
  case atStart => exact ⟨0, by omega, rfl, Below.refl _ _⟩
  case round =>
    obtain ⟨k, hk, rfl, hb⟩ := hrel
    by_cases hlt : k < n
    · obtain ⟨x, ha⟩ : ∃ a, xs[k]? = some a := ⟨_, List.getElem?_eq_getElem (by omega)⟩
      obtain ⟨g, o, rfl, c0⟩ := (hx.below hb) k _ ha
      obtain ⟨g', o', rfl, d0⟩ := (hy.below hb) k _ ha
      have hi : (k : Int) < (n : Int) := by omega
      have h0 : (0 : Int) ≤ (k : Int) := by omega
      clear ha hl
      go_wp2_with fail
      go_quiet (fail)
      go_wp2
      go_roundw
      case rel => exact ⟨k + 1, by omega, by go_num, by first | exact hb.drewN _ | exact ⟨hb.os, hb.tape, hb.output, hb.size, hb.block⟩⟩
      case measure => simp [intOf]; omega
    · go_wp2
      go_ret
      exact ⟨rfl, hb⟩


end Go.Proofs.Ytaojognjkiifmaa

namespace Go.Proofs.Ytaojognjkiifmaa
open Go.RowKit

set_option maxRecDepth 100000 in
set_option maxHeartbeats 400000 in
theorem eqArcS_same (A B : Option Addr) (n c c' : Nat) (xs : List ArcD) (w : World) (hn : n ≤ 1048576) (hl : xs.length = n) (hx : ArcsAt w A xs) (hy : ArcsAt w B xs) :
    Calls Try.prog 67 #[.slice A n c, .slice B n c'] w fun e w' => e = .returned (.bool true) ∧ Below w.heap.size w w' := by
  go_enter Try.func67, Try.ntmps67
  go_wp2
  go_loopw [5] (fun i wr => ∃ k : Nat, k ≤ n ∧ i = .int .i64 k ∧ Below w.heap.size w wr) (fun i _ => n - (intOf i).toNat)
  case atStart => exact ⟨0, by omega, rfl, Below.refl _ _⟩
  case round =>
    obtain ⟨k, hk, rfl, hb⟩ := hrel
    by_cases hlt : k < n
    · obtain ⟨⟨f, t, c, l, d⟩, ha⟩ : ∃ a, xs[k]? = some a := ⟨_, List.getElem?_eq_getElem (by omega)⟩
      obtain ⟨g, o, rfl, c0, c1, c2, c3, c4⟩ := (hx.below hb) k _ ha
      obtain ⟨g', o', rfl, d0, d1, d2, d3, d4⟩ := (hy.below hb) k _ ha
      have hi : (k : Int) < (n : Int) := by omega
      have h0 : (0 : Int) ≤ (k : Int) := by omega
      clear ha hl
      go_wp2_with fail
      go_still_tail 8, (by kernel_rfl)
      change wpList _ _ _ _ _ wr.drew
      go_wp2_with fail
      refine (eqArc_same f t c l d _).mono ?_
      rintro e w1 ⟨rfl, hb1⟩
      go_wp2
      go_roundw
      case rel => exact ⟨k + 1, by omega, by go_num, hb.drew.trans (hb1.mono hb.size)⟩
      case measure => simp [intOf]; omega
    · go_wp2
      go_ret
      exact ⟨rfl, hb⟩

theorem eqNet_same (m : Int) (A B : Option Addr) (n c c' : Nat) (xs : List ArcD) (w : World) (hn : n ≤ 1048576) (hl : xs.length = n) (hx : ArcsAt w A xs) (hy : ArcsAt w B xs) :
    Calls Try.prog 22 #[.agg #[.int .i64 m, .slice A n c], .agg #[.int .i64 m, .slice B n c']] w fun e w' => e = .returned (.bool true) ∧ Below w.heap.size w w' := by
  have HL := Lib.hid hl
  clear hl
  go_enter Try.func22, Try.ntmps22
  go_wp2_with fail
  have hb0 : Below w.heap.size w ((w.alloc (.cells #[.int .i64 m, .slice A n c] 32)).alloc (.cells #[.int .i64 m, .slice B n c'] 32)) := ((Below.refl _ _).alloc (Nat.le_refl _) _).alloc (by simp) _
  refine (eqArcS_same A B n c c' xs _ hn HL.out (hx.below hb0) (hy.below hb0)).mono ?_
  rintro e w1 ⟨rfl, hb1⟩
  go_wp2
  go_ret
  exact ⟨rfl, bel_trans hb0 hb1⟩

end Go.Proofs.Ytaojognjkiifmaa

namespace Go.Proofs.Ytaojognjkiifmaa
open Go.ChangeShapes Go.WideShapes Go.ChangeAt Go.RowKit Go.Deep Go.Joins

theorem own : ownKnob Try.prog.godebug = none := by kernel_rfl
theorem laidOut : laidOutB Try.prog = true := by kernel_rfl

theorem spotless {W : World} {a : Addr} {v : Value} (h : W.cell? (a.add 0) = some v) : ∃ g o, a = ⟨g, o, none⟩ := by
  obtain ⟨g, o, s⟩ := a
  have := World.cell?_spot h
  refine ⟨g, o, ?_⟩
  simpa [Addr.add] using this

theorem addr_add (g o i : Nat) : Addr.add ⟨g, o, none⟩ i = ⟨g, o + i, none⟩ := by
  unfold Addr.add
  split <;> simp_all

/-- What a reading goes through was there. -/
theorem places_lt {H : Type} {enc : TypeId × Value → H} {W : World} {t : TypeId} {v : Value} {d : DataW H} {p : List MemPlace} (h : DataW.Trod enc Try.prog W 0 (fun _ => true) true t v d p) : ∀ x ∈ p, x.block < W.heap.size := by
  obtain ⟨m, hm⟩ := h
  exact DataW.trod_lt m _ _ _ hm



end Go.Proofs.Ytaojognjkiifmaa

namespace Go.Proofs.Ytaojognjkiifmaa
open Go.ChangeShapes Go.WideShapes Go.ChangeAt Go.RowKit Go.Deep Go.Joins

set_option maxRecDepth 100000 in
/-- Every number that a slice of numbers leads to. -/
theorem open_nums {H : Type} {enc : TypeId × Value → H} {W : World} {fuel : Nat} {v : Value} {x : DataW H × List MemPlace} (h : DataW.trod enc Try.prog W 0 (fun _ => true) true fuel 28 [v] = some x) :
    ∃ (A : Option Addr) (n c : Nat) (xs : List Int), v = .slice A n c ∧ xs.length = n ∧ n ≤ maxLen ∧ IntsAt W A xs := by
  rcases open_ints Try.underlying28 Try.underlying3 (by kernel_rfl) h with ⟨hcs, _⟩ | ⟨a, len, cap, zs, hcs, _, hl, hm, hz, _, hcell, _⟩
  · injection hcs with hcs
    exact ⟨none, 0, 0, [], hcs, rfl, Nat.zero_le _, fun k a hk => by simp at hk⟩
  · injection hcs with hcs
    simp only [if_true] at hz
    refine ⟨some a, len, cap, zs.take len, hcs, by simp; omega, by omega, fun k b hk => ?_⟩
    have hlt : k < len := by
      have := (List.getElem?_eq_some_iff.1 hk).1
      simp at this
      omega
    have hc := hcell k (by omega)
    obtain ⟨g, o, rfl⟩ := spotless (hcell 0 (by omega))
    rw [addr_add] at hc
    rw [List.getElem?_take_of_lt hlt] at hk
    rw [List.getD_eq_getElem?_getD, hk] at hc
    exact ⟨g, o, rfl, hc⟩

set_option maxRecDepth 100000 in
/-- A slice of numbers that comes in. -/
theorem open_list {H : Type} {enc : TypeId × Value → H} {W : World} {r : Reach} {b0 : Nat} {v : Value} {d : DataW H} {p : List MemPlace} (hv : Value.okWide Try.prog W r b0 28 v)
    (h : DataW.Trod enc Try.prog W 0 (fun _ => true) true 28 v d p) : ∃ (A : Option Addr) (n c : Nat) (xs : List Int), v = .slice A n c ∧ xs.length = n ∧ n ≤ maxLen ∧ IntsAt W A xs := by
  obtain ⟨a0, len, cap, rfl⟩ := okWide_slice Try.underlying28 hv
  obtain ⟨fuel, hf⟩ := h
  exact open_nums (by simpa [Value.cells] using hf)

end Go.Proofs.Ytaojognjkiifmaa

namespace Go.Proofs.Ytaojognjkiifmaa
open Go.ChangeShapes Go.WideShapes Go.ChangeAt Go.RowKit Go.Deep Go.Joins

set_option maxRecDepth 100000 in
/-- Every arc that a slice of arcs leads to. -/
theorem open_arcs {H : Type} {enc : TypeId × Value → H} {W : World} {fuel : Nat} {v : Value} {x : DataW H × List MemPlace} (h : DataW.trod enc Try.prog W 0 (fun _ => true) true fuel 22 [v] = some x) :
    ∃ (A : Option Addr) (n c : Nat) (xs : List ArcD), v = .slice A n c ∧ xs.length = n ∧ n ≤ maxLen ∧ ArcsAt W A xs := by
  rcases open_slice Try.underlying22 h with ⟨hcs, _⟩ | ⟨a, len, cap, m, n, D, Pl, hcs, _, hl, hm, hmm, _, hi⟩
  · injection hcs with hcs
    exact ⟨none, 0, 0, [], hcs, rfl, Nat.zero_le _, fun k a hk => by simp at hk⟩
  · injection hcs with hcs
    simp only [if_true] at hmm
    subst hmm
    have hC : Try.prog.cellsOf 114 = 5 := by kernel_rfl
    have hI : Try.prog.cellsOf 3 = 1 := by kernel_rfl
    have spot : 0 < len → ∃ g o, a = ⟨g, o, none⟩ := fun h0 => by
      obtain ⟨cs', hc, _⟩ := hi 0 (by omega)
      rw [hC] at hc
      obtain ⟨_, hcl, hat⟩ := World.cells?_some hc
      have := hat 0 (by omega)
      rw [add_add, List.getElem?_eq_getElem (by omega)] at this
      exact spotless this
    have key : ∀ i, i < len → ∃ b : ArcD, ∃ g o, a = ⟨g, o, none⟩ ∧ Arc5 W g (o + i * 5) b := fun i hlt => by
      obtain ⟨cs', hc, ht⟩ := hi i (by omega)
      rw [hC] at hc
      obtain ⟨_, hcl, hat⟩ := World.cells?_some hc
      obtain ⟨ys, n', _, _, _, _, hf⟩ := DataW.trod_struct Try.underlying114 ht
      match cs', hcl with
      | [v0, v1, v2, v3, v4], _ =>
        have h5 : ys.length = 5 := by assumption
        match ys, h5 with
        | [y0, y1, y2, y3, y4], _ =>
          have f0 : DataW.trod enc Try.prog W 0 (fun _ => true) true n' 3 (([v0, v1, v2, v3, v4].drop 0).take (Try.prog.cellsOf 3)) = some y0 := hf 0 _ rfl
          have f1 : DataW.trod enc Try.prog W 0 (fun _ => true) true n' 3 (([v0, v1, v2, v3, v4].drop 1).take (Try.prog.cellsOf 3)) = some y1 := hf 1 _ rfl
          have f2 : DataW.trod enc Try.prog W 0 (fun _ => true) true n' 3 (([v0, v1, v2, v3, v4].drop 2).take (Try.prog.cellsOf 3)) = some y2 := hf 2 _ rfl
          have f3 : DataW.trod enc Try.prog W 0 (fun _ => true) true n' 3 (([v0, v1, v2, v3, v4].drop 3).take (Try.prog.cellsOf 3)) = some y3 := hf 3 _ rfl
          have f4 : DataW.trod enc Try.prog W 0 (fun _ => true) true n' 3 (([v0, v1, v2, v3, v4].drop 4).take (Try.prog.cellsOf 3)) = some y4 := hf 4 _ rfl
          rw [hI] at f0 f1 f2 f3 f4
          obtain ⟨z0, e0, _⟩ := DataW.trod_int Try.underlying3 f0
          obtain ⟨z1, e1, _⟩ := DataW.trod_int Try.underlying3 f1
          obtain ⟨z2, e2, _⟩ := DataW.trod_int Try.underlying3 f2
          obtain ⟨z3, e3, _⟩ := DataW.trod_int Try.underlying3 f3
          obtain ⟨z4, e4, _⟩ := DataW.trod_int Try.underlying3 f4
          simp at e0 e1 e2 e3 e4
          subst e0 e1 e2 e3 e4
          have c0 := hat 0 (by omega)
          have c1 := hat 1 (by omega)
          have c2 := hat 2 (by omega)
          have c3 := hat 3 (by omega)
          have c4 := hat 4 (by omega)
          rw [add_add] at c0 c1 c2 c3 c4
          obtain ⟨g, o, rfl⟩ := spot (by omega)
          simp only [addr_add] at c0 c1 c2 c3 c4
          exact ⟨⟨z0, z1, z2, z3, z4⟩, g, o, rfl, by simpa using c0, by simpa [Nat.add_assoc] using c1, by simpa [Nat.add_assoc] using c2, by simpa [Nat.add_assoc] using c3, by simpa [Nat.add_assoc] using c4⟩
    obtain ⟨F, hF⟩ := choose_lt (α := ArcD) (p := fun i b => ∃ g o, a = ⟨g, o, none⟩ ∧ Arc5 W g (o + i * 5) b) (fun i hlt => by
      obtain ⟨b, h⟩ := key i hlt
      exact ⟨b, h⟩)
    refine ⟨some a, len, _, (List.range len).map F, hcs, by simp, by omega, fun k b hk => ?_⟩
    have hlt : k < len := by simpa using (List.getElem?_eq_some_iff.1 hk).1
    simp [hlt] at hk
    subst hk
    obtain ⟨g, o, ha, h5⟩ := hF k hlt
    exact ⟨g, o, by rw [ha], h5⟩

set_option maxRecDepth 100000 in
/-- A net that comes in. -/
theorem open_net {H : Type} {enc : TypeId × Value → H} {W : World} {r : Reach} {b0 : Nat} {v : Value} {d : DataW H} {p : List MemPlace} (hv : Value.okWide Try.prog W r b0 24 v)
    (h : DataW.Trod enc Try.prog W 0 (fun _ => true) true 24 v d p) :
    ∃ (m : Int) (A : Option Addr) (n c : Nat) (xs : List ArcD), v = .agg #[.int .i64 m, .slice A n c] ∧ xs.length = n ∧ n ≤ maxLen ∧ ArcsAt W A xs ∧ (Lit.int .i64 m).wf = true := by
  obtain ⟨v0, v1, y0, y1, k, rfl, _, _, h0, h1⟩ := open_agg2 Try.underlying24 (by kernel_rfl) (by kernel_rfl) hv h
  obtain ⟨m, e0, _, hm⟩ := DataW.trod_int Try.underlying3 h0
  injection e0 with e0
  subst e0
  obtain ⟨A, n, c, xs, rfl, hl, hn, hx⟩ := open_arcs h1
  exact ⟨m, A, n, c, xs, rfl, hl, hn, hx, hm⟩

end Go.Proofs.Ytaojognjkiifmaa

namespace Go.Proofs.Ytaojognjkiifmaa
open Go.ChangeShapes Go.WideShapes Go.ChangeAt Go.RowKit

set_option maxRecDepth 100000 in
set_option maxHeartbeats 2000000 in
theorem exactBothOver_walk (m0 : Int) (A0 : Option Addr) (n0 c0 : Nat) (xs0 : List ArcD) (z1 : Int) (z2 : Int) (z3 : Int) (w : World) (hn0 : n0 ≤ maxLen) (hl0 : xs0.length = n0) (hx0 : ArcsAt w A0 xs0) :
    Calls Try.prog 8 #[.agg #[.int .i64 m0, .slice A0 n0 c0], .int .i64 z1, .int .i64 z2, .int .i64 z3] w fun e w' => e = .returned (.bool true) ∧ Below w.heap.size w w' := by
  have HX0 := Lib.hid hl0
  clear hl0
  have hP : Past w (w.alloc (.cells #[.int .i64 m0, .slice A0 n0 c0] 24)) := ((Past.refl w).alloc _)
  go_enter Try.func8, Try.ntmps8
  go_wp2_with fail
  refine (szNet_any m0 A0 n0 c0 (1048576) _ (by omega) (by omega) hn0).mono ?_
  rintro e w1 ⟨rfl, hb⟩
  have a0_0 := cell_in (p := ⟨w.heap.size, 0, none⟩) (v := .int .i64 m0) hb (by go_simp)
  have a0_1 := cell_in (p := ⟨w.heap.size, 1, none⟩) (v := .slice A0 n0 c0) hb (by go_simp)
  have hx0 := (hx0.below hP).below hb
  have hP := Past.trans hP hb
  clear hb
  by_cases h20s_0 : (n0 : Int) ≤ 1048576
  rotate_left
  · have hr : roomLeft (1048576) n0 = -1 := by unfold roomLeft; rw [if_pos (by omega)]
    rw [hr]
    go_wp2
    go_ret
    exact ⟨rfl, hP⟩
  have hr : roomLeft (1048576) n0 = 1048576 - n0 := by unfold roomLeft; rw [if_neg (by omega)]
  rw [hr]
  clear hr
  have h20_0 : n0 ≤ 1048576 := by omega
  go_wp2_with fail
  refine (toNet_any m0 A0 n0 c0 xs0 _ h20_0 HX0.out hx0).mono ?_
  rintro e w2 ⟨sg0, rfl, hb, hg, sm0⟩
  have hx0 := hx0.below hb
  have a0_0 := cell_in hb a0_0
  have a0_1 := cell_in hb a0_1
  have hP := Past.trans hP hb
  have s2 := hb.size
  clear hb hg
  go_wp2_with fail
  refine (specBothOver_any m0 _ n0 n0 xs0 z1 z2 z3 _ h20_0 HX0.out (sm0.arcs HX0.out)).mono ?_
  rintro e w3 ⟨rfl, hb⟩
  have hx0 := hx0.below hb
  have a0_0 := cell_in hb a0_0
  have a0_1 := cell_in hb a0_1
  have sm0 := sm0.below hb
  have hP := Past.trans hP hb
  have s3 := hb.size
  clear hb
  clear sm0
  have hx0E := hx0
  have sb : w.heap.size < w3.heap.size := lt_of_cell a0_0
  have sP := hP.size
  go_wp2_with fail
  refine (toNet_any m0 A0 n0 c0 xs0 _ h20_0 HX0.out hx0).mono ?_
  rintro e w4 ⟨g0, rfl, hb, hg0, hm0⟩
  have sg0 := hm0.1.lt
  have hx0 := hx0.below hb
  have a0_0 := cell_in hb a0_0
  have a0_1 := cell_in hb a0_1
  have hP := Past.trans hP hb
  have s4 := hb.size
  clear hb
  have hb : Past w4 (w4.alloc (.cells #[.int .i64 m0, .slice (some ⟨g0, 0, none⟩) n0 n0] 32)) := (Past.refl _).alloc _
  obtain ⟨w5, hw6⟩ : ∃ u, u = w4.alloc (.cells #[.int .i64 m0, .slice (some ⟨g0, 0, none⟩) n0 n0] 32) := ⟨_, rfl⟩
  go_wp2_with fail
  have p0_0 : w5.cell? ⟨w4.heap.size, 0, none⟩ = some (.int .i64 m0) := by rw [hw6]; go_simp
  have p0_1 : w5.cell? ⟨w4.heap.size, 1, none⟩ = some (.slice (some ⟨g0, 0, none⟩) n0 n0) := by rw [hw6]; go_simp
  rw [← hw6] at hb ⊢
  have sx0 : w4.heap.size < w5.heap.size := lt_of_cell p0_0
  clear hw6
  have hx0 := hx0.below hb
  have a0_0 := cell_in hb a0_0
  have a0_1 := cell_in hb a0_1
  have hm0 := hm0.below hb
  have hP := Past.trans hP hb
  have s5 := hb.size
  clear hb
  refine (implBothOver_any m0 _ n0 n0 xs0 z1 z2 z3 _ h20_0 HX0.out (hm0.arcs HX0.out)).mono ?_
  rintro e w6 ⟨rfl, hb⟩
  have hx0 := hx0.below hb
  have a0_0 := cell_in hb a0_0
  have a0_1 := cell_in hb a0_1
  have hm0 := hm0.below hb
  have p0_0 := cell_in hb p0_0
  have p0_1 := cell_in hb p0_1
  have hP := Past.trans hP hb
  have s6 := hb.size
  clear hb
  have hq := (hm0.arcs HX0.out)
  go_wp2_with fail
  go_region_held3 (fun w' => w'.cell? ⟨w.heap.size, 0, none⟩ = some (.int .i64 m0) ∧ w'.cell? ⟨w.heap.size, 1, none⟩ = some (.slice A0 n0 c0) ∧ w'.cell? ⟨w4.heap.size, 0, none⟩ = some (.int .i64 m0) ∧ w'.cell? ⟨w4.heap.size, 1, none⟩ = some (.slice (some ⟨g0, 0, none⟩) n0 n0)) (go_keep)
    (first
      | (go_at_call 18; refine (toNet_any m0 A0 n0 c0 xs0 _ h20_0 HX0.out hx0.drew).mono ?_; rintro e w7 ⟨g9, rfl, hb9, hg9, hm9⟩; have a0_0 := cell_in hb9 a0_0; have a0_1 := cell_in hb9 a0_1; have p0_0 := cell_in hb9 p0_0; have p0_1 := cell_in hb9 p0_1)
      | (go_at_call 22; refine (eqNet_same m0 _ _ n0 n0 n0 xs0 _ h20_0 HX0.out (hq.drew.below hb9) (hm9.arcs HX0.out)).mono ?_; rintro e w8 ⟨rfl, hb10⟩; have a0_0 := cell_in hb10 a0_0; have a0_1 := cell_in hb10 a0_1; have p0_0 := cell_in hb10 p0_0; have p0_1 := cell_in hb10 p0_1))
  have hb : Past w6 w8 := (Past.refl w6).drew.trans (Past.trans hb9 hb10)
  clear hb9 hb10 hq hm9 hg9
  have hx0 := hx0.below hb
  have hm0 := hm0.below hb
  have hP := Past.trans hP hb
  have s8 := hb.size
  clear hb
  go_wp2
  go_ret
  exact ⟨rfl, hP⟩

set_option maxRecDepth 100000 in
theorem exactBothOver_lifted (os : Os) (started : os.Started) (H : Type) (enc : TypeId × Value → H) :
    ReturnsInHanded {} Try.checked os 8 .any (Rows.fnExactBothOverSpec.pre6 enc Try.prog Try.f8 Rows.fnExactBothOverRow.domain false) (Rows.fnExactBothOverSpec.post enc Try.prog Try.f8 false true false false) := by
  refine returnsInHanded_of_change (C := Try.checked) own started (by kernel_rfl) Try.func8
    (ChangeSpec.witness6 (enc := enc) (C := Try.checked) false ⟨#[], #[.agg #[.int .i64 0, .slice none 0 0], .int .i64 0, .int .i64 0, .int .i64 0], []⟩ 8 (by kernel_rfl) (by kernel_rfl) (by kernel_rfl) (by kernel_rfl)) ?_
  intro W base args ds gs before hval0 hW hcnd _
  have hval : ∀ (j : Nat) t v, Try.f8.params[j]? = some t → args[j]? = some v → Value.okWide Try.prog W .any base t v := hval0
  have hW' := hW
  obtain ⟨p, q, hA0, hV, rfl, hfz, hnd⟩ := hW
  have hA : DataW.TrodAll enc Try.prog W 0 (fun _ => true) true Try.f8.params.toList args.toList ds p := hA0
  rw [Try.params8] at hA hval
  obtain ⟨v0, vs0, d0, ds0, p0, q0, hargs, rfl, rfl, h0, r0⟩ := trodAll_cons hA
  obtain ⟨v1, vs1, d1, ds1, p1, q1, rfl, rfl, rfl, h1, r1⟩ := trodAll_cons r0
  obtain ⟨v2, vs2, d2, ds2, p2, q2, rfl, rfl, rfl, h2, r2⟩ := trodAll_cons r1
  obtain ⟨v3, vs3, d3, ds3, p3, q3, rfl, rfl, rfl, h3, r3⟩ := trodAll_cons r2
  obtain ⟨rfl, rfl, rfl⟩ := trodAll_nil r3
  obtain rfl : args = #[v0, v1, v2, v3] := by cases args; simp_all
  obtain ⟨rfl, rfl⟩ := trodVars_none hV
  have k0 := h0
  have lt0 := places_lt k0
  have k1 := h1
  have lt1 := places_lt k1
  have k2 := h2
  have lt2 := places_lt k2
  have k3 := h3
  have lt3 := places_lt k3
  obtain ⟨m0, A0, n0, c0, xs0, rfl, hl0, hn0, hx0, _⟩ := open_net (hval 0 24 v0 rfl rfl) h0
  obtain ⟨z1, rfl⟩ := okWide_int Try.underlying3 (hval 1 3 v1 rfl rfl)
  obtain ⟨z2, rfl⟩ := okWide_int Try.underlying3 (hval 2 3 v2 rfl rfl)
  obtain ⟨z3, rfl⟩ := okWide_int Try.underlying3 (hval 3 3 v3 rfl rfl)
  clear hA0 hval0
  refine (exactBothOver_walk m0 A0 n0 c0 xs0 z1 z2 z3 W hn0 hl0 hx0).mono fun e W' ⟨he, bel⟩ => ?_
  subst he
  exact ⟨_, rfl, _, _, _, [], _, [], hW', trodAll_mk1 (shut_bool Try.underlying4 _), (trodAll_cons_mk (Below.trod laidOut (by kernel_rfl) (of_decide_eq_true (by kernel_rfl)) k0 bel lt0) (trodAll_cons_mk (Below.trod laidOut (by kernel_rfl) (of_decide_eq_true (by kernel_rfl)) k1 bel lt1) (trodAll_cons_mk (Below.trod laidOut (by kernel_rfl) (of_decide_eq_true (by kernel_rfl)) k2 bel lt2) (trodAll_cons_mk (Below.trod laidOut (by kernel_rfl) (of_decide_eq_true (by kernel_rfl)) k3 bel lt3) trodAll_mk0)))), rfl, bel.frame _, fun h => by cases h⟩

/-- The given statement. -/
theorem exactBothOver_proved : Rows.FnExactBothOverSaid :=
  OpenClaim.holds_of_wide 8 Try.f8 rfl rfl rfl rfl rfl rfl rfl ⟨rfl, rfl, rfl, rfl, rfl⟩ rfl rfl rfl rfl rfl (by kernel_rfl) Try.func8 (by kernel_rfl)
    (of_decide_eq_true (by kernel_rfl)) (by unfold Func.isWrapper; first | (rw [if_pos (by decide +kernel)]; kernel_rfl) | (rw [if_neg (by decide +kernel)]; exact ⟨rfl, rfl⟩))
    (fun os started H enc _ => exactBothOver_lifted os started H enc)

end Go.Proofs.Ytaojognjkiifmaa
