/-
  A walk without its rings: impl.lastIndex, impl's walk.plain, spec.WalkPlain, impl.WalkPlain.
-/
import Derived.Test.YtokljfeoignbcaaNodes2
namespace Go.Proofs.Ytokljfeoignbcaa
open Go.RowKit

/-- i is where x stands last in a list. -/
def IsLast (nd : List Int) (x : Int) (i : Nat) : Prop := nd[i]? = some x ∧ ∀ j, i < j → nd[j]? ≠ some x

/-- Where x stands last among the first k + 1. -/
def lastFrom (nd : List Int) (x : Int) : Nat → Nat
  | 0 => 0
  | k + 1 => if nd[k + 1]? = some x then k + 1 else lastFrom nd x k
def lastIx (nd : List Int) (x : Int) : Nat := lastFrom nd x nd.length

theorem lastFrom_eq {nd : List Int} {x : Int} {i : Nat} (h : IsLast nd x i) : ∀ k, i ≤ k → lastFrom nd x k = i
  | 0, hk => by simp [lastFrom]; omega
  | k + 1, hk => by
    unfold lastFrom
    split
    · rename_i h1
      rcases Nat.lt_or_ge i (k + 1) with hlt | hge
      · exact absurd h1 (h.2 _ hlt)
      · omega
    · rename_i h1
      have : i ≠ k + 1 := fun e => by subst e; exact h1 h.1
      exact lastFrom_eq h k (by omega)
theorem lastIx_eq {nd : List Int} {x : Int} {i : Nat} (h : IsLast nd x i) : lastIx nd x = i :=
  lastFrom_eq h _ (Nat.le_of_lt (List.getElem?_eq_some_iff.1 h.1).1)

theorem lastFrom_spec {nd : List Int} {x : Int} {s : Nat} (hs : nd[s]? = some x) : ∀ k, s ≤ k → (∀ j, k < j → nd[j]? ≠ some x) → IsLast nd x (lastFrom nd x k) ∧ s ≤ lastFrom nd x k
  | 0, hk, h => by
    obtain rfl : s = 0 := by omega
    exact ⟨⟨hs, h⟩, Nat.le_refl _⟩
  | k + 1, hk, h => by
    unfold lastFrom
    split
    · rename_i h1
      exact ⟨⟨h1, h⟩, hk⟩
    · rename_i h1
      have hne : s ≠ k + 1 := fun e => by subst e; exact h1 hs
      refine lastFrom_spec hs k (by omega) (fun j hj => ?_)
      rcases Nat.lt_or_ge (k + 1) j with hlt | hge
      · exact h j hlt
      · obtain rfl : j = k + 1 := by omega
        exact h1
theorem lastIx_spec {nd : List Int} {x : Int} {s : Nat} (hs : nd[s]? = some x) : IsLast nd x (lastIx nd x) ∧ s ≤ lastIx nd x :=
  lastFrom_spec hs _ (Nat.le_of_lt (List.getElem?_eq_some_iff.1 hs).1) (fun j hj => by rw [List.getElem?_eq_none (by omega)]; simp)

/-- What is left of a walk from node s on. -/
def plainFrom (nd ys : List Int) : Nat → Nat → List Int
  | 0, _ => []
  | fuel + 1, s => if lastIx nd (numOf nd s) < ys.length then numOf ys (lastIx nd (numOf nd s)) :: plainFrom nd ys fuel (lastIx nd (numOf nd s) + 1) else []

def plainW (xs : List ArcD) (ys : List Int) : List Int := plainFrom (nodesW xs ys) ys (ys.length + 1) 0
def plainI (m : Int) (xs : List ArcD) (ys : List Int) : List Int := if okB m xs ys then (if ys.length = 0 then [] else plainW xs ys) else []

set_option maxHeartbeats 400000 in
theorem lastIndex_any (A : Option Addr) (n c : Nat) (nd : List Int) (x : Int) (i : Nat) (w : World) (hn : n ≤ 1048576) (hl : nd.length = n) (hx : IntsAt w A nd) (hi : IsLast nd x i) :
    Calls Try.prog 88 #[.slice A n c, .int .i64 x] w fun e w' => e = .returned (.int .i64 i) ∧ w = w' := by
  have hlt : i < n := by rw [← hl]; exact (List.getElem?_eq_some_iff.1 hi.1).1
  have HL := Lib.hid hl
  clear hl
  go_enter Try.func88, Try.ntmps88
  go_wp2
  go_loop [5] (fun q => ∃ k : Nat, i ≤ k ∧ k < n ∧ q = .int .i64 k) (fun q => (intOf q).toNat)
  case atStart => exact ⟨n - 1, by omega, by omega, by congr 1; omega⟩
  case round =>
    obtain ⟨k, hik, hkn, rfl⟩ := hrel
    obtain ⟨y, ha⟩ : ∃ a, nd[k]? = some a := ⟨_, List.getElem?_eq_getElem (by have := HL.out; omega)⟩
    obtain ⟨g, o, rfl, c0⟩ := hx k _ ha
    by_cases he : i = k
    · have hyx : y = x := by
        have := hi.1
        rw [he, ha] at this
        injection this
      subst hyx
      have HE := Lib.hid he
      clear ha he
      go_wp2
      go_ret
      exact ⟨ret_int (by rw [HE.out]), rfl⟩
    · have hyx : (y == x) = false := by
        simp only [beq_eq_false_iff_ne, ne_eq]
        intro e
        subst e
        exact hi.2 k (by omega) ha
      clear ha
      go_wp2
      go_round
      case rel => exact ⟨k - 1, by omega, by omega, by congr 1; omega⟩
      case measure => simp [intOf]; omega

theorem nodesW_length {xs : List ArcD} {ys : List Int} (h : ys.length ≠ 0) : (nodesW xs ys).length = ys.length + 1 := by rw [nodesW, if_neg h, nodesTo_length]
theorem nodesW_to {xs : List ArcD} {ys : List Int} {k : Nat} (hk : k < ys.length) : (nodesW xs ys)[k + 1]? = some (arcOf xs (numOf ys k)).t := by
  rw [nodesW, if_neg (by omega)]
  simp [nodesTo, hk]
theorem nodesW_from {m : Int} {xs : List ArcD} {ys : List Int} {k : Nat} (ho : okB m xs ys = true) (hk : k < ys.length) : (nodesW xs ys)[k]? = some (arcOf xs (numOf ys k)).f := by
  cases k with
  | zero => rw [nodesW, if_neg (by omega)]; simp [nodesTo]
  | succ k =>
    rw [nodesW_to (by omega)]
    have h := ((walkB_iff _ _).1 ((okB_iff _ _ _).1 ho).2).2 (k + 1) hk
    simp [stepB] at h
    rw [h.2]

theorem numOf_at {zs : List Int} {k : Nat} {x : Int} (h : zs[k]? = some x) : numOf zs k = x := by simp [numOf, List.getD_eq_getElem?_getD, h]
theorem at_numOf {zs : List Int} {k : Nat} (h : k < zs.length) : zs[k]? = some (numOf zs k) := by simp [numOf, List.getD_eq_getElem?_getD, List.getElem?_eq_getElem h]

theorem plainFrom_len (nd ys : List Int) : ∀ fuel s, (plainFrom nd ys fuel s).length ≤ fuel
  | 0, _ => by simp [plainFrom]
  | fuel + 1, s => by
    unfold plainFrom
    split
    · simp only [List.length_cons]
      have := plainFrom_len nd ys fuel (lastIx nd (numOf nd s) + 1)
      omega
    · simp
theorem plainI_len (m : Int) (xs : List ArcD) (ys : List Int) : (plainI m xs ys).length ≤ 1048576 := by
  unfold plainI
  split
  · rename_i h
    have := ok_len h
    split
    · simp
    · have := plainFrom_len (nodesW xs ys) ys (ys.length + 1) 0
      unfold plainW
      omega
  · simp

/-- What was kept so far, and what is still to come from node s on, are the whole. -/
structure PlainAt (nd ys tot done : List Int) (s fuel : Nat) : Prop where
  whole : done ++ plainFrom nd ys fuel s = tot
  enough : ys.length + 1 ≤ fuel + s
  inside : s ≤ ys.length

theorem PlainAt.next {nd ys tot done : List Int} {s fuel i : Nat} (h : PlainAt nd ys tot done s fuel) (hi : IsLast nd (numOf nd s) i) (hs : s ≤ i) (hlt : i < ys.length) : ∃ fuel', PlainAt nd ys tot (done ++ [numOf ys i]) (i + 1) fuel' := by
  obtain ⟨h1, h2, h3⟩ := h
  cases fuel with
  | zero => omega
  | succ fuel =>
    refine ⟨fuel, ?_, by omega, by omega⟩
    rw [← h1]
    conv => rhs; unfold plainFrom
    rw [lastIx_eq hi, if_pos hlt]
    simp
theorem PlainAt.stop {nd ys tot done : List Int} {s fuel i : Nat} (h : PlainAt nd ys tot done s fuel) (hi : IsLast nd (numOf nd s) i) (hge : ys.length ≤ i) : done = tot := by
  obtain ⟨h1, h2, h3⟩ := h
  cases fuel with
  | zero => omega
  | succ fuel =>
    rw [← h1]
    unfold plainFrom
    rw [lastIx_eq hi, if_neg (by omega)]
    simp
theorem PlainAt.len {nd ys tot done : List Int} {s fuel : Nat} (h : PlainAt nd ys tot done s fuel) : done.length ≤ tot.length := by rw [← h.whole]; simp

set_option maxHeartbeats 1000000 in
theorem walkPlain_any (m : Int) (A B : Option Addr) (n c l cb : Nat) (xs : List ArcD) (ys : List Int) (w : World) (hnx : xs.length = n) (hny : ys.length = l) (hx : ArcsAt w A xs) (hy : IntsAt w B ys) (ho : okB m xs ys = true) :
    Calls Try.prog 65 #[.agg #[.int .i64 m, .slice A n c, .slice B l cb]] w (Gives w (plainI m xs ys)) := by
  have h20 := ok_len ho
  rw [hny] at h20
  have HX := Lib.hid hnx
  have HY := Lib.hid hny
  have HO := Lib.hid ho
  clear hnx hny ho
  obtain ⟨i0, hi, hz0, hz1, hz2⟩ := info_parts infoInt
  have hb0 : Past w (w.alloc (.cells #[.int .i64 m, .slice A n c, .slice B l cb] 75)) := (Past.refl _).alloc _
  by_cases hl0 : l = 0
  · have HZ := Lib.hid hl0
    have hl0' : ((l : Int) == 0) = true := by simp; omega
    clear hl0
    go_enter Try.func65, Try.ntmps65
    go_wp2
    go_ret
    exact ⟨_, rfl, by rw [plainI, if_pos HO.out, if_pos (by rw [HY.out, HZ.out])]; exact Res.nil _ _, hb0⟩
  have hl0' : ((l : Int) == 0) = false := by simp; omega
  have HT : Hid (plainI m xs ys = plainW xs ys) := by rw [Hid, plainI, if_pos HO.out, if_neg (by rw [HY.out]; exact hl0)]
  go_enter Try.func65, Try.ntmps65
  go_wp2_with fail
  refine (walkNodes_any m A B n c l cb xs ys _ HX.out HY.out (hx.below hb0) (hy.below hb0) HO.out).mono ?_
  rintro e w1 ⟨v1, rfl, hv1, hb1⟩
  have b2 := cell_in (p := ⟨w.heap.size, 2, none⟩) (v := .slice B l cb) hb1 (by go_simp)
  have hy1 := (hy.below hb0).below hb1
  have hb01 := hb0.trans hb1
  obtain ⟨Ad, cd, rfl, hd, _⟩ := hv1.form
  have hndl : (nodesW xs ys).length = l + 1 := by rw [nodesW_length (by rw [HY.out]; exact hl0), HY.out]
  obtain ⟨tot, htot⟩ : ∃ tot, tot = plainW xs ys := ⟨_, rfl⟩
  have hstart : PlainAt (nodesW xs ys) ys tot [] 0 (ys.length + 1) := ⟨by rw [htot]; rfl, by omega, by omega⟩
  have htl : tot.length ≤ l + 1 := by rw [htot, plainW, ← HY.out]; exact plainFrom_len _ _ _ _
  have HTT := Lib.hid htot
  clear htot hv1 hb1 hb0 hx hy
  obtain ⟨nd, hnd⟩ : ∃ nd, nd = nodesW xs ys := ⟨_, rfl⟩
  rw [← hnd] at hd hndl hstart ⊢
  rw [hndl]
  have HD := Lib.hid hnd
  have HDL := Lib.hid hndl
  clear hnd hndl
  obtain ⟨g0, o0, rfl, n0⟩ := hd 0 _ (at_numOf (by rw [HDL.out]; omega))
  simp only [Nat.add_zero] at n0
  have hz : 0 < l + 1 := by omega
  obtain ⟨hl1, hl2⟩ := lastIx_spec (at_numOf (zs := nd) (k := 0) (by rw [HDL.out]; omega))
  obtain ⟨i1, hi1⟩ : ∃ i1, i1 = lastIx nd (numOf nd 0) := ⟨_, rfl⟩
  rw [← hi1] at hl1 hl2
  have hi1l : i1 < l + 1 := by rw [← HDL.out]; exact (List.getElem?_eq_some_iff.1 hl1.1).1
  clear hi1
  obtain ⟨x0, hx0⟩ : ∃ x0, x0 = numOf nd 0 := ⟨_, rfl⟩
  rw [← hx0] at n0 hl1
  have HX0 := Lib.hid hx0
  clear hx0
  go_wp2_with fail
  refine (lastIndex_any (some ⟨g0, o0, none⟩) (l + 1) cd nd x0 i1 _ (by omega) HDL.out hd hl1).mono ?_
  rintro e w2 ⟨rfl, rfl⟩
  rw [HX0.out] at hl1
  clear n0 HX0
  go_wp2
  go_loopw [4, 5] (fun v q wr => ∃ (s i fuel : Nat) (done : List Int), i < l + 1 ∧ s ≤ i ∧ q = .int .i64 i ∧ IsLast nd (numOf nd s) i ∧ Res wr w1.heap.size v done ∧ PlainAt nd ys tot done s fuel ∧ Past w1 wr) (fun _ q _ => l + 1 - (intOf q).toNat)
  case atStart => exact ⟨0, i1, _, [], hi1l, by omega, rfl, hl1, Res.nil _ _, hstart, Past.refl _⟩
  case round =>
    obtain ⟨s, i, fuel, done, hil, hsi, rfl, hla, hv, hp, hb⟩ := hrel
    have b2 := cell_in hb b2
    have hzz : w.heap.size < wr.heap.size := lt_of_cell b2
    have hdl := hp.len
    by_cases hlt : i < l
    · obtain ⟨fuel', hp'⟩ := hp.next hla hsi (by rw [HY.out]; exact hlt)
      obtain ⟨g, o, rfl, c0⟩ := (hy1.below hb) i _ (at_numOf (by rw [HY.out]; exact hlt))
      obtain ⟨g1, o1, eg, n1'⟩ := hd (i + 1) _ (at_numOf (by rw [HDL.out]; omega))
      injection eg with eg
      injection eg with eg1 eg2
      subst eg1 eg2
      obtain ⟨hl3, hl4⟩ := lastIx_spec (at_numOf (zs := nd) (k := i + 1) (by rw [HDL.out]; omega))
      obtain ⟨i2, hi2⟩ : ∃ i2, i2 = lastIx nd (numOf nd (i + 1)) := ⟨_, rfl⟩
      rw [← hi2] at hl3 hl4
      have hi2l : i2 < l + 1 := by rw [← HDL.out]; exact (List.getElem?_eq_some_iff.1 hl3.1).1
      clear hi2
      obtain ⟨x1, hx1⟩ : ∃ x1, x1 = numOf nd (i + 1) := ⟨_, rfl⟩
      obtain ⟨y1, hy1'⟩ : ∃ y1, y1 = numOf ys i := ⟨_, rfl⟩
      rw [← hy1'] at c0 hp'
      rw [← hx1] at n1'
      have iw : i + 1 < l + 1 := by omega
      have HX1 := Lib.hid hx1
      have HL3 := Lib.hid hl3
      have HP' := Lib.hid hp'
      have hds : done.length ≤ l + 1 := by omega
      have i0' : (0 : Int) ≤ (i : Int) := by omega
      have i1' : (i : Int) < (l : Int) := by omega
      have hbs := hb.size
      unfold Res at hv
      obtain ⟨D, hD⟩ : ∃ D, D = done.length := ⟨_, rfl⟩
      rw [← hD] at hv hds
      have HDD := Lib.hid hD
      clear hx1 hy1' hl3 hp' hdl hp hla hD
      go_wp2_with (first | (at_builtin; refine wpList_append_own _ rfl _ _ 26 rfl w1.heap.size 3 i0 (.int .i64 0) 1 8 Try.underlying26 hi hz0 hz1 hz2 rfl (by decide) _ _ _ rfl (hv.alloc _) ⟨wr.heap.size, 0, none⟩ 1 1 [.int .i64 y1] rfl rfl (cell_one_new _ _ _) (one_cell y1) (by unfold maxLen; omega) (by omega) (by simp; omega) ?_; intro v' w3 hown' hgrow3 hnil3; have hg3 : Past w1 w3 := Past.grown (hb.alloc _) (hv.alloc _) hgrow3 (Nat.le_refl _); have n1 := cell_in hg3 n1'))
      refine (lastIndex_any (some ⟨g0, o0, none⟩) (l + 1) cd nd x1 i2 _ (by omega) HDL.out (hd.below hg3) (by rw [HX1.out]; exact HL3.out)).mono ?_
      rintro e w4 ⟨rfl, rfl⟩
      go_wp2
      go_roundw
      case rel => exact ⟨i + 1, i2, fuel', done ++ [y1], hi2l, by omega, rfl, HL3.out, Res.push (by rw [← HDD.out]; exact hown'), HP'.out, hg3⟩
      case measure => simp [intOf]; omega
    · have hdone := hp.stop hla (by rw [HY.out]; omega)
      subst hdone
      go_wp2
      go_ret
      exact ⟨_, rfl, by rw [HT.out, ← HTT.out]; exact hv.lower hb01.size, hb01.trans hb⟩

end Go.Proofs.Ytokljfeoignbcaa
