/-
  When arcs are a walk: spec.l2Ok, spec.WalkOk, impl's walk.ok, impl.WalkOk all answer by 'walkB'.
-/
import Derived.Test.YtaojognjkiifmaaOk
namespace Go.Proofs.Ytaojognjkiifmaa
open Go.RowKit

/-- Number k of a list; arc number i of a list. -/
def numOf (ys : List Int) (k : Nat) : Int := ys.getD k 0
def arcOf (xs : List ArcD) (i : Int) : ArcD := xs.getD i.toNat default

/-- Arc k of a walk is there, and begins where the one ahead ends. -/
def stepB (xs : List ArcD) (ys : List Int) (k : Nat) : Bool :=
  inB (numOf ys k) 0 ((xs.length : Int) - 1) && (k == 0 || (arcOf xs (numOf ys k)).f == (arcOf xs (numOf ys (k - 1))).t)

def walkB (xs : List ArcD) (ys : List Int) : Bool := decide (ys.length ≤ 20) && (List.range ys.length).all (stepB xs ys)

theorem walkB_iff (xs : List ArcD) (ys : List Int) : walkB xs ys = true ↔ ys.length ≤ 20 ∧ ∀ k, k < ys.length → stepB xs ys k = true := by simp [walkB]

/-- The first k arcs are right. -/
def StepsTo (xs : List ArcD) (ys : List Int) (k : Nat) : Prop := ∀ j, j < k → stepB xs ys j = true
theorem StepsTo.next {xs : List ArcD} {ys : List Int} {k : Nat} (h : StepsTo xs ys k) (hk : stepB xs ys k = true) : StepsTo xs ys (k + 1) := fun j hj => by
  rcases Nat.lt_or_ge j k with hlt | hge
  · exact h j hlt
  · obtain rfl : j = k := by omega
    exact hk
theorem walkB_bad {xs : List ArcD} {ys : List Int} {k : Nat} (hk : k < ys.length) (h : stepB xs ys k = false) : walkB xs ys = false := by
  rw [Bool.eq_false_iff]
  intro hw
  rw [((walkB_iff _ _).1 hw).2 k hk] at h
  cases h
theorem walkB_long {xs : List ArcD} {ys : List Int} (h : 20 < ys.length) : walkB xs ys = false := by
  rw [Bool.eq_false_iff]
  intro hw
  have := ((walkB_iff _ _).1 hw).1
  omega

theorem stepB_out {xs : List ArcD} {ys : List Int} {k : Nat} {y : Int} (hy : ys[k]? = some y) (h : inB y 0 ((xs.length : Int) - 1) = false) : stepB xs ys k = false := by
  simp [stepB, numOf, List.getD_eq_getElem?_getD, hy, h]
theorem stepB_first {xs : List ArcD} {ys : List Int} {y : Int} (hy : ys[0]? = some y) (h : inB y 0 ((xs.length : Int) - 1) = true) : stepB xs ys 0 = true := by
  simp [stepB, numOf, List.getD_eq_getElem?_getD, hy, h]
theorem stepB_in {xs : List ArcD} {ys : List Int} {k : Nat} {j j' : Nat} {a a' : ArcD} (hk : k ≠ 0) (hy : ys[k]? = some (j : Int)) (hy' : ys[k - 1]? = some (j' : Int)) (ha : xs[j]? = some a) (ha' : xs[j']? = some a') : stepB xs ys k = (a.f == a'.t) := by
  have h1 : inB (j : Int) 0 ((xs.length : Int) - 1) = true := (inB_iff _ _ _).2 (by have := (List.getElem?_eq_some_iff.1 ha).1; omega)
  simp [stepB, numOf, arcOf, List.getD_eq_getElem?_getD, hy, hy', ha, ha', h1, hk]

/-- What a right step tells: its arc is there. -/
theorem stepB_arc {xs : List ArcD} {ys : List Int} {k : Nat} {y : Int} (h : stepB xs ys k = true) (hy : ys[k]? = some y) : ∃ (j : Nat) (a : ArcD), y = j ∧ xs[j]? = some a := by
  have h1 : inB y 0 ((xs.length : Int) - 1) = true := by
    have := h
    simp [stepB, numOf, List.getD_eq_getElem?_getD, hy] at this
    exact this.1
  have := (inB_iff _ _ _).1 h1
  exact ⟨y.toNat, _, by omega, List.getElem?_eq_getElem (by omega)⟩

theorem in_arc {xs : List ArcD} {y : Int} (h : inB y 0 ((xs.length : Int) - 1) = true) : ∃ (j : Nat) (a : ArcD), y = j ∧ xs[j]? = some a := by
  have := (inB_iff _ _ _).1 h
  exact ⟨y.toNat, _, by omega, List.getElem?_eq_getElem (by omega)⟩

set_option maxHeartbeats 1000000 in
theorem l2Ok_wide (m : Int) (A B : Option Addr) (n c l cb : Nat) (xs : List ArcD) (ys : List Int) (w : World) (hn : n ≤ 1048576) (hl : l ≤ 2097152) (hnx : xs.length = n) (hny : ys.length = l) (hx : ArcsAt w A xs) (hy : IntsAt w B ys) :
    Calls Try.prog 79 #[.agg #[.int .i64 m, .slice A n c], .slice B l cb] w fun e w' => e = .returned (.bool (walkB xs ys)) ∧ Below w.heap.size w w' := by
  have HX := Lib.hid hnx
  have HY := Lib.hid hny
  clear hnx hny
  have hb0 : Past w (w.alloc (.cells #[.int .i64 m, .slice A n c] 32)) := (Past.refl _).alloc _
  go_enter Try.func79, Try.ntmps79
  go_wp2
  go_loopw [5] (fun i wr => ∃ k : Nat, k ≤ l ∧ i = .int .i64 k ∧ Past (w.alloc (.cells #[.int .i64 m, .slice A n c] 32)) wr ∧ StepsTo xs ys k) (fun i _ => l - (intOf i).toNat)
  case atStart => exact ⟨0, by omega, rfl, Past.refl _, fun j h => absurd h (by omega)⟩
  case round =>
    obtain ⟨k, hk, rfl, hb, hok⟩ := hrel
    have hz := hb.lt
    have b0 := cell_in (p := ⟨w.heap.size, 0, none⟩) (v := .int .i64 m) hb (by go_simp)
    have b1 := cell_in (p := ⟨w.heap.size, 1, none⟩) (v := .slice A n c) hb (by go_simp)
    by_cases hlt : k < l
    · obtain ⟨y, ha⟩ : ∃ a, ys[k]? = some a := ⟨_, List.getElem?_eq_getElem (by have := HY.out; omega)⟩
      obtain ⟨g, o, rfl, c0⟩ := ((hy.below hb0).below hb) k _ ha
      have HA := Lib.hid ha
      clear ha
      have i0 : (0 : Int) ≤ (k : Int) := by omega
      have i1 : (k : Int) < (l : Int) := by omega
      have w1 : IntKind.i64.wrap ((n : Int) - 1) = (n : Int) - 1 := IntWalk.i64_in _ (by omega)
      cases hB : inB y 0 ((n : Int) - 1) with
      | false =>
        have HB := Lib.hid hB
        clear hB
        have e1 : (!inB y 0 ((n : Int) - 1)) = true := by simp [HB.out]
        go_wp2_with fail
        go_quiet ((go_at_call 57; exact Calls.quiet_of_same ((l1In_any _ _ _ _).mono fun _ _ h => ⟨h.1, h.2.symm⟩)))
        go_wp2
        go_ret
        exact ⟨ret_bool (walkB_bad (k := k) (by have := HY.out; omega) (stepB_out HA.out (by rw [HX.out]; exact HB.out))).symm, hb0.trans (hb.drewN _)⟩
      | true =>
        obtain ⟨j, ⟨f, t, c', l', d⟩, rfl, hj⟩ := in_arc (xs := xs) (y := y) (by rw [HX.out]; exact hB)
        obtain ⟨g', o', rfl, d0, d1, d2, d3, d4⟩ := ((hx.below hb0).below hb) j _ hj
        have hjn : j < n := by rw [← HX.out]; exact (List.getElem?_eq_some_iff.1 hj).1
        have HJ := Lib.hid hj
        have HB := Lib.hid hB
        clear hB hj
        have e1 : (!inB (j : Int) 0 ((n : Int) - 1)) = false := by simp [HB.out]
        have j0 : (0 : Int) ≤ (j : Int) := by omega
        have j1 : (j : Int) < (n : Int) := by omega
        by_cases hk0 : k = 0
        · have k1 : decide (0 < k) = false := by simp; omega
          have HK := Lib.hid hk0
          clear hk0
          go_wp2_with fail
          go_quiet ((go_at_call 57; exact Calls.quiet_of_same ((l1In_any _ _ _ _).mono fun _ _ h => ⟨h.1, h.2.symm⟩)))
          go_wp2
          go_roundw
          case rel => exact ⟨k + 1, by omega, by go_num, hb.drewN _, hok.next (by have e := HK.out; subst e; exact stepB_first HA.out (by rw [HX.out]; exact HB.out))⟩
          case measure => simp [intOf]; omega
        · have hp : stepB xs ys (k - 1) = true := hok (k - 1) (by omega)
          obtain ⟨y', ha'⟩ : ∃ a, ys[k - 1]? = some a := ⟨_, List.getElem?_eq_getElem (by have := HY.out; omega)⟩
          obtain ⟨j', ⟨f', t', c'', l'', d'⟩, rfl, hj'⟩ := stepB_arc hp ha'
          obtain ⟨g'', o'', eg, e0, e1', e2, e3, e4⟩ := ((hx.below hb0).below hb) j' _ hj'
          injection eg with eg
          injection eg with eg1 eg2
          subst eg1 eg2
          obtain ⟨g3, o3, eg, c1⟩ := ((hy.below hb0).below hb) (k - 1) _ ha'
          injection eg with eg
          injection eg with eg1 eg2
          subst eg1 eg2
          have hjn' : j' < n := by rw [← HX.out]; exact (List.getElem?_eq_some_iff.1 hj').1
          have HS := Lib.hid (stepB_in hk0 HA.out ha' HJ.out hj')
          clear ha' hj' hp
          have k1 : decide (0 < k) = true := by simp; omega
          have k2 : IntKind.i64.wrap ((k : Int) - 1) = (k : Int) - 1 := IntWalk.i64_in _ (by omega)
          have k3 : (0 : Int) ≤ (k : Int) - 1 := by omega
          have k4 : (k : Int) - 1 < (l : Int) := by omega
          have k5 : ((k : Int) - 1).toNat = k - 1 := by omega
          have j2 : (0 : Int) ≤ (j' : Int) := by omega
          have j3 : (j' : Int) < (n : Int) := by omega
          go_wp2_with fail
          go_quiet ((go_at_call 57; exact Calls.quiet_of_same ((l1In_any _ _ _ _).mono fun _ _ h => ⟨h.1, h.2.symm⟩)))
          go_wp2
          case roundEnd =>
            go_roundw
            case rel => exact ⟨k + 1, by omega, by go_num, hb.drewN _, hok.next (by rw [HS.out]; simp_all)⟩
            case measure => simp [intOf]; omega
          all_goals go_ret
          all_goals exact ⟨ret_bool (walkB_bad (k := k) (by have := HY.out; omega) (by rw [HS.out]; simp_all)).symm, hb0.trans (hb.drewN _)⟩
    · obtain rfl : l = k := by omega
      go_wp2
      go_ret
      refine ⟨ret_bool ?_, hb0.trans hb⟩
      have hy' := HY.out
      by_cases h20 : l ≤ 20
      · rw [(walkB_iff xs ys).2 ⟨by omega, by rw [hy']; exact hok⟩]; simp; omega
      · rw [walkB_long (by omega)]; simp; omega

/-- The net is ok and the arcs are a walk. -/
def okB (m : Int) (xs : List ArcD) (ys : List Int) : Bool := netB m xs && walkB xs ys

theorem l2Ok_any (m : Int) (A B : Option Addr) (n c l cb : Nat) (xs : List ArcD) (ys : List Int) (w : World) (hn : n ≤ 1048576) (hl : l ≤ 1048576) (hnx : xs.length = n) (hny : ys.length = l) (hx : ArcsAt w A xs) (hy : IntsAt w B ys) :
    Calls Try.prog 79 #[.agg #[.int .i64 m, .slice A n c], .slice B l cb] w fun e w' => e = .returned (.bool (walkB xs ys)) ∧ Below w.heap.size w w' :=
  l2Ok_wide m A B n c l cb xs ys w hn (by omega) hnx hny hx hy

end Go.Proofs.Ytaojognjkiifmaa
