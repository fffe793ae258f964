/-
  Plain mathematics: the best way can be gone, costs what its label says, and comes to no node twice. No program is named. No condition.
-/
import Derived.Test.YtokljfeoignbcaaPPlain
import Derived.Test.YtokljfeoignbcaaNWalk
import Derived.Test.YtokljfeoignbcaaPBack
namespace Go.Proofs.Ytokljfeoignbcaa

/-- What is known of the best way from a node. -/
structure Gone (xs : List ArcD) (L : List LenD) (s v : Int) (k : Nat) (ys : List Int) : Prop where
  chain : Chain xs v ys
  cost : costL xs ys = (lab L v).x0
  nodup : (v :: ys.map (toOf xs)).Nodup
  less : ∀ u ∈ ys.map (toOf xs), (lab L u).x1 < k
  last : ys ≠ [] → (arcOf xs (numOf ys (ys.length - 1))).t = s
  none : ys = [] → v = s

theorem TreeL.gone {m : Nat} {xs : List ArcD} {s : Int} {L : List LenD} (h : TreeL m xs s L) : ∀ (k : Nat) (v : Int), 0 ≤ v → v < m → lab L v ≠ farL → (lab L v).x1 = k → Gone xs L s v k (wayL xs L s v) := by
  intro k
  induction k with
  | zero =>
    intro v h0 h1 hf hk
    have hv : v = s := by
      by_cases e : v = s
      · exact e
      · obtain ⟨j, a, _, e2, _, _, e5, _⟩ := h.some v e hf h0 h1
        have hb := h.arcs a (List.mem_of_getElem? e2)
        have := h.bound a.t (by omega) (by omega)
        omega
    subst hv
    rw [h.wayL_to]
    exact ⟨trivial, by rw [h.lab_to]; rfl, by simp, fun u hu => by simp at hu, fun e => absurd rfl e, fun _ => rfl⟩
  | succ k ih =>
    intro v h0 h1 hf hk
    have hv : v ≠ s := fun e => by rw [e, h.lab_to] at hk; simp at hk; omega
    obtain ⟨j, a, e1, e2, _, e4, e5, e6, e7, _⟩ := h.some v hv hf h0 h1
    have hb := h.arcs a (List.mem_of_getElem? e2)
    have hj : j < xs.length := (List.getElem?_eq_some_iff.1 e2).1
    have ha : arcOf xs (j : Int) = a := by unfold arcOf; rw [Int.toNat_natCast, List.getD_eq_getElem?_getD, e2]; rfl
    have ht : toOf xs (j : Int) = a.t := by unfold toOf; rw [ha]
    have g := ih a.t (by omega) (by omega) e4 (by omega)
    rw [h.wayL_step hv e1 e2 e5]
    have hle : ∀ u ∈ a.t :: (wayL xs L s a.t).map (toOf xs), (lab L u).x1 < ((k + 1 : Nat) : Int) := fun u hu => by
      rcases List.mem_cons.1 hu with rfl | hu
      · omega
      · have := g.less u hu; omega
    refine ⟨⟨by unfold inArc; rw [inB_iff]; omega, by rw [ha]; exact e7, by rw [ht]; exact g.chain⟩, ?_, ?_, ?_, fun _ => ?_, fun e => by cases e⟩
    · have hc := g.cost
      unfold costL at hc ⊢
      rw [List.map_cons, List.sum_cons, hc, ha, e6]
      omega
    · rw [List.map_cons, ht]
      refine List.nodup_cons.2 ⟨fun hm => ?_, g.nodup⟩
      have := hle v hm
      omega
    · rw [List.map_cons, ht]
      exact hle
    · cases hw : wayL xs L s a.t with
      | nil =>
        have := g.none hw
        simp [numOf, ha, this]
      | cons z zs =>
        have hl := g.last (by rw [hw]; simp)
        rw [hw] at hl
        rw [List.length_cons, show (z :: zs).length + 1 - 1 = ((z :: zs).length - 1) + 1 by simp, numOf_succ]
        exact hl

theorem plain_self {m : Int} {xs : List ArcD} {ys : List Int} (ho : okB m xs ys = true) (hn : ys ≠ [] → ((arcOf xs (numOf ys 0)).f :: ys.map (toOf xs)).Nodup) : plainI m xs ys = ys := by
  unfold plainI
  rw [if_pos ho]
  split
  · rename_i e
    exact (List.eq_nil_of_length_eq_zero e).symm
  · rename_i e
    unfold plainW
    rw [nodesW_map xs ys e]
    have := plainFrom_self (p := ys) (hn (fun e' => e (by rw [e']; rfl))) (by simp) (ys.length + 1) 0 (by omega) (by omega)
    simpa using this

/-- All that the law asks of a best way. -/
theorem near_gone {m : Int} {xs : List ArcD} {a b : Int} (h : nearWB m xs a b = true) : okB m xs (nearWI m xs a b) = true ∧ costI m xs (nearWI m xs a b) = at_ (nearI m xs a) b ∧ plainI m xs (nearWI m xs a b) = nearWI m xs a b ∧
    (nearWI m xs a b = [] → a = b) ∧ (nearWI m xs a b ≠ [] → (arcOf xs (numOf (nearWI m xs a b) 0)).f = a ∧ (arcOf xs (numOf (nearWI m xs a b) ((nearWI m xs a b).length - 1))).t = b) ∧ (nearWI m xs a b).length ≤ 20 ∧ (nearI m xs a).length = m.toNat ∧ 0 ≤ b ∧ b < m ∧ ∃ M : Nat, m = M := by
  rw [nearWB, Bool.and_eq_true] at h
  obtain ⟨hB, hF⟩ := h
  obtain ⟨hN, ha, hb⟩ := (hereB2_iff _ _ _ _).1 hB
  obtain ⟨M, rfl, h3, h8⟩ := here_nat hN
  rw [Int.toNat_natCast] at hF
  have hF : farB M xs b a = false := by simpa using hF
  have hT := treeL_of (arcsIn_net hN) hb h8
  have hf : lab (labsOf M xs b) a ≠ farL := by simpa [farB] using hF
  have hw : nearWI (M : Int) xs a b = wayL xs (labsOf M xs b) b a := by rw [nearWI, hB, if_pos rfl, Int.toNat_natCast, wayM, hF, if_neg (by simp)]
  have hbd := hT.bound a ha.1 ha.2
  have g := hT.gone (lab (labsOf M xs b) a).x1.toNat a ha.1 ha.2 hf (by omega)
  have hfew := hT.way_few a ha.1 ha.2 hf
  have hhere : hereB (M : Int) xs a = true := (hereB_iff _ _ _).2 ⟨hN, ha⟩
  have hnear : nearI (M : Int) xs a = nearL M xs a := by rw [nearI, hhere, if_pos rfl, Int.toNat_natCast]
  rw [hw, hnear]
  generalize hys : wayL xs (labsOf M xs b) b a = ys at g hfew ⊢
  have hfirst : ys ≠ [] → (arcOf xs (numOf ys 0)).f = a := fun e => by
    cases ys with
    | nil => exact absurd rfl e
    | cons y ys => rw [numOf_zero]; exact g.chain.2.1
  have ho : okB (M : Int) xs ys = true := by
    unfold okB
    rw [hN, Bool.true_and, walkB_iff]
    exact ⟨by omega, fun k hk => g.chain.step k hk⟩
  refine ⟨ho, ?_, ?_, g.none, fun e => ⟨hfirst e, g.last e⟩, by omega, by rw [nearL_length, Int.toNat_natCast], hb.1, hb.2, M, rfl⟩
  · unfold costI
    rw [if_pos ho, sumTo_all, g.cost, ← hT.near_at a ha.1 ha.2]
    exact (near_back h8 (arcsIn_net hN) ha hb).symm
  · exact plain_self ho (fun e => by rw [hfirst e]; exact g.nodup)

end Go.Proofs.Ytokljfeoignbcaa
