/-
  What is left of a walk without its rings: a walk, that comes to no node twice, from the same node to the same node, and costs no more.
-/
import Derived.Test.YtaojognjkiifmaaCut2
import Derived.Test.YtaojognjkiifmaaPlain
namespace Go.Proofs.Ytaojognjkiifmaa
open Go.RowKit

def toOf (xs : List ArcD) (y : Int) : Int := (arcOf xs y).t
def inArc (xs : List ArcD) (y : Int) : Bool := inB y 0 ((xs.length : Int) - 1)

/-- Arcs one behind the other, the first from the node x. -/
def Chain (xs : List ArcD) : Int → List Int → Prop
  | _, [] => True
  | x, y :: ys => inArc xs y = true ∧ (arcOf xs y).f = x ∧ Chain xs (toOf xs y) ys

theorem numOf_zero (y : Int) (ys : List Int) : numOf (y :: ys) 0 = y := by simp [numOf]
theorem numOf_succ (y : Int) (ys : List Int) (k : Nat) : numOf (y :: ys) (k + 1) = numOf ys k := by simp [numOf]

theorem Chain.step {xs : List ArcD} : ∀ {ys : List Int} {x : Int}, Chain xs x ys → ∀ k, k < ys.length → stepB xs ys k = true
  | [], _, _, k, hk => by simp at hk
  | y :: ys, x, h, k, hk => by
    obtain ⟨h1, h2, h3⟩ := h
    unfold inArc at h1
    cases k with
    | zero => unfold stepB; rw [numOf_zero, h1]; simp
    | succ k =>
      have ih := Chain.step h3 k (by simpa using hk)
      cases k with
      | zero =>
        cases ys with
        | nil => simp at hk
        | cons z zs =>
          obtain ⟨g1, g2, g3⟩ := h3
          unfold inArc at g1
          unfold stepB
          rw [numOf_succ, numOf_zero, show (0 + 1 - 1) = 0 by omega, numOf_zero, g1, g2]
          simp [toOf]
      | succ k =>
        unfold stepB at ih ⊢
        rw [numOf_succ, show (k + 1 + 1 - 1) = k + 1 by omega, numOf_succ]
        simp at ih ⊢
        exact ih

theorem nodesW_map (xs : List ArcD) (ys : List Int) (h : ys.length ≠ 0) : nodesW xs ys = (arcOf xs (numOf ys 0)).f :: ys.map (toOf xs) := by
  rw [nodesW, if_neg h, nodesTo]
  congr 1
  apply List.ext_getElem?
  intro k
  by_cases hk : k < ys.length
  · simp [hk, numOf, toOf]
  · simp [hk]

def costL (xs : List ArcD) (ys : List Int) : Int := (ys.map fun y => (arcOf xs y).c).sum

theorem sumTo_costL (xs : List ArcD) : ∀ (ys : List Int) (k : Nat), sumTo xs ys k = costL xs (ys.take k) ∨ ys.length < k := by
  intro ys k
  induction k with
  | zero => left; simp [sumTo, costL]
  | succ k ih =>
    by_cases hk : k < ys.length
    · left
      rcases ih with ih | ih
      · rw [sumTo, ih, List.take_add_one, List.getElem?_eq_getElem hk, numOf_at (List.getElem?_eq_getElem hk)]
        simp only [costL, Option.toList_some, List.map_append, List.map_cons, List.map_nil, List.sum_append, List.sum_cons, List.sum_nil, Int.add_zero]
      · omega
    · right; omega

theorem sumTo_all (xs : List ArcD) (ys : List Int) : sumTo xs ys ys.length = costL xs ys := by
  rcases sumTo_costL xs ys ys.length with h | h
  · rw [h, List.take_length]
  · omega

theorem costL_sub {xs : List ArcD} {p ys : List Int} (h : p.Sublist ys) (hp : ∀ y ∈ ys, 0 ≤ (arcOf xs y).c) : costL xs p ≤ costL xs ys := by
  induction h with
  | slnil => exact Int.le_refl _
  | cons a _ ih =>
    have := ih (fun y hy => hp y (List.mem_cons_of_mem _ hy))
    have := hp a List.mem_cons_self
    simp only [costL, List.map_cons, List.sum_cons] at *
    omega
  | cons_cons a _ ih =>
    have := ih (fun y hy => hp y (List.mem_cons_of_mem _ hy))
    simp only [costL, List.map_cons, List.sum_cons] at *
    omega

/-- What plainFrom keeps. -/
structure Kept (xs : List ArcD) (nd ys p : List Int) (s : Nat) : Prop where
  chain : Chain xs (numOf nd s) p
  sub : p.Sublist (ys.drop s)
  late : ∀ z ∈ numOf nd s :: p.map (toOf xs), ∃ j, s ≤ j ∧ nd[j]? = some z
  nodup : (numOf nd s :: p.map (toOf xs)).Nodup
  last : (numOf nd s :: p.map (toOf xs)).getLast? = some (numOf nd ys.length)

theorem kept {m : Int} {xs : List ArcD} {ys : List Int} (ho : okB m xs ys = true) (h0 : ys.length ≠ 0) : ∀ fuel s, s ≤ ys.length → ys.length + 1 ≤ fuel + s → Kept xs (nodesW xs ys) ys (plainFrom (nodesW xs ys) ys fuel s) s
  | 0, s, h1, h2 => by omega
  | fuel + 1, s, h1, h2 => by
    have hlen := nodesW_length (xs := xs) h0
    have hs := at_numOf (zs := nodesW xs ys) (k := s) (by omega)
    obtain ⟨hl, hsi⟩ := lastIx_spec hs
    obtain ⟨i, hi⟩ : ∃ i, i = lastIx (nodesW xs ys) (numOf (nodesW xs ys) s) := ⟨_, rfl⟩
    rw [← hi] at hl hsi
    unfold plainFrom
    rw [← hi]
    have hiL : i < (nodesW xs ys).length := (List.getElem?_eq_some_iff.1 hl.1).1
    by_cases hlt : i < ys.length
    · rw [if_pos hlt]
      have ih := kept ho h0 fuel (i + 1) (by omega) (by omega)
      have hto : toOf xs (numOf ys i) = numOf (nodesW xs ys) (i + 1) := (numOf_at (nodesW_to hlt)).symm
      have hfr : (arcOf xs (numOf ys i)).f = numOf (nodesW xs ys) s := by
        have h1 := nodesW_from ho hlt
        rw [hl.1] at h1
        injection h1 with h1
        exact h1.symm
      have hin : inArc xs (numOf ys i) = true := by
        have h := ((walkB_iff _ _).1 ((okB_iff _ _ _).1 ho).2).2 i hlt
        unfold stepB at h
        simp only [Bool.and_eq_true] at h
        exact h.1
      have hne : ∀ z ∈ numOf (nodesW xs ys) (i + 1) :: (plainFrom (nodesW xs ys) ys fuel (i + 1)).map (toOf xs), z ≠ numOf (nodesW xs ys) s := by
        intro z hz e
        obtain ⟨j, hj, hjz⟩ := ih.late z hz
        exact hl.2 j (by omega) (by rw [hjz, e])
      refine ⟨⟨hin, hfr, by rw [hto]; exact ih.chain⟩, ?_, ?_, ?_, ?_⟩
      · have e : ys.drop i = numOf ys i :: ys.drop (i + 1) := by
          rw [List.drop_eq_getElem_cons hlt]
          congr 1
          simp [numOf, hlt]
        have h3 : (numOf ys i :: plainFrom (nodesW xs ys) ys fuel (i + 1)).Sublist (ys.drop i) := by rw [e]; exact ih.sub.cons_cons _
        refine h3.trans ?_
        rw [show i = s + (i - s) by omega, ← List.drop_drop]
        exact List.drop_sublist _ _
      · intro z hz
        rcases List.mem_cons.1 hz with rfl | hz
        · exact ⟨s, Nat.le_refl _, hs⟩
        · rw [List.map_cons, hto] at hz
          obtain ⟨j, hj, e⟩ := ih.late z hz
          exact ⟨j, by omega, e⟩
      · rw [List.map_cons, hto]
        exact List.nodup_cons.2 ⟨fun h => hne _ h rfl, ih.nodup⟩
      · rw [List.map_cons, hto, List.getLast?_cons_cons]
        exact ih.last
    · rw [if_neg hlt]
      obtain rfl : i = ys.length := by omega
      refine ⟨trivial, List.nil_sublist _, ?_, by simp, ?_⟩
      · intro z hz
        simp at hz
        subst hz
        exact ⟨s, Nat.le_refl _, hs⟩
      · simp
        exact (numOf_at hl.1).symm

theorem plainFrom_self {nd p : List Int} (hn : nd.Nodup) (hl : nd.length = p.length + 1) : ∀ fuel s, s ≤ p.length → p.length + 1 ≤ fuel + s → plainFrom nd p fuel s = p.drop s
  | 0, s, h1, h2 => by omega
  | fuel + 1, s, h1, h2 => by
    have hs := at_numOf (zs := nd) (k := s) (by omega)
    have hlast : IsLast nd (numOf nd s) s := ⟨hs, fun j hj e => by
      have := (List.getElem?_inj (i := s) (j := j) (by omega) hn).1 (hs.trans e.symm)
      omega⟩
    unfold plainFrom
    rw [lastIx_eq hlast]
    split
    · rename_i h
      rw [plainFrom_self hn hl fuel (s + 1) (by omega) (by omega), List.drop_eq_getElem_cons h]
      congr 1
      simp [numOf, h]
    · rw [List.drop_eq_nil_of_le (by omega)]

/-- What is said of a walk without its rings. -/
structure Plains (m : Int) (xs : List ArcD) (ys p : List Int) : Prop where
  ok : okB m xs p = true
  nodup : (nodesI m xs p).Nodup
  len : (nodesI m xs p).length = p.length + 1
  first : (nodesI m xs p)[0]? = (nodesI m xs ys)[0]?
  last : (nodesI m xs p)[p.length]? = (nodesI m xs ys)[ys.length]?
  cost : costI m xs p ≤ costI m xs ys
  self : plainI m xs p = p

theorem plains {m : Int} {xs : List ArcD} {ys : List Int} (ho : okB m xs ys = true) (hp : (plainI m xs ys).length ≠ 0) : ys.length ≠ 0 ∧ Plains m xs ys (plainI m xs ys) := by
  by_cases h0 : ys.length = 0
  · simp [plainI, ho, h0] at hp
  refine ⟨h0, ?_⟩
  have hk := kept ho h0 (ys.length + 1) 0 (by omega) (by omega)
  have hP : plainI m xs ys = plainFrom (nodesW xs ys) ys (ys.length + 1) 0 := by rw [plainI, if_pos ho, if_neg h0, plainW]
  rw [← hP] at hk
  generalize plainI m xs ys = p at *
  obtain ⟨hch, hsub, _, hnd, hla⟩ := hk
  rw [List.drop_zero] at hsub
  have h20 := ok_len ho
  have hokp : okB m xs p = true := (okB_iff _ _ _).2 ⟨((okB_iff _ _ _).1 ho).1, (walkB_iff _ _).2 ⟨by have := hsub.length_le; omega, hch.step⟩⟩
  have hfr : (arcOf xs (numOf p 0)).f = numOf (nodesW xs ys) 0 := by
    cases p with
    | nil => simp at hp
    | cons y q => rw [numOf_zero]; exact hch.2.1
  have hno : nodesI m xs p = numOf (nodesW xs ys) 0 :: p.map (toOf xs) := by rw [nodesI, if_pos hokp, nodesW_map xs p hp, hfr]
  have hny : nodesI m xs ys = nodesW xs ys := by rw [nodesI, if_pos ho]
  have hnl := nodesW_length (xs := xs) h0
  refine ⟨hokp, by rw [hno]; exact hnd, by rw [hno]; simp, ?_, ?_, ?_, ?_⟩
  · rw [hno, hny, at_numOf (zs := nodesW xs ys) (k := 0) (by omega)]; rfl
  · rw [hno, hny, at_numOf (zs := nodesW xs ys) (k := ys.length) (by omega), ← hla, List.getLast?_eq_getElem?]
    simp
  · rw [costI, if_pos hokp, costI, if_pos ho, sumTo_all, sumTo_all]
    refine costL_sub hsub fun y hy => ?_
    obtain ⟨k, hk, rfl⟩ := List.mem_iff_getElem.1 hy
    obtain ⟨j, a, hya, hja, q0, _, he⟩ := ok_arc ho (List.getElem?_eq_getElem hk)
    rw [numOf_at (List.getElem?_eq_getElem hk)] at he
    rw [he]; exact q0
  · have hnw : nodesW xs p = numOf (nodesW xs ys) 0 :: p.map (toOf xs) := by rw [nodesW_map xs p hp, hfr]
    rw [plainI, if_pos hokp, if_neg hp, plainW, plainFrom_self (by rw [hnw]; exact hnd) (nodesW_length hp) _ _ (by omega) (by omega), List.drop_zero]

theorem plain_none {m : Int} {xs : List ArcD} {ys : List Int} (ho : okB m xs ys = true) (hp : (plainI m xs ys).length = 0) (h0 : ys.length ≠ 0) : (arcOf xs (numOf ys 0)).f = (arcOf xs (numOf ys (ys.length - 1))).t := by
  have hk := kept ho h0 (ys.length + 1) 0 (by omega) (by omega)
  have hP : plainI m xs ys = plainFrom (nodesW xs ys) ys (ys.length + 1) 0 := by rw [plainI, if_pos ho, if_neg h0, plainW]
  rw [← hP, List.eq_nil_of_length_eq_zero hp] at hk
  have h1 := hk.last
  simp at h1
  have e1 := numOf_at (nodesW_from ho (show 0 < ys.length by omega))
  have e2 := nodesW_to (xs := xs) (show ys.length - 1 < ys.length by omega)
  rw [show ys.length - 1 + 1 = ys.length by omega] at e2
  rw [← e1, h1, numOf_at e2]

end Go.Proofs.Ytaojognjkiifmaa
