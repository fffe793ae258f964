/-
  When a net is ok: spec.l1Ok, spec.NetOk, impl.NetOk all answer 'netB'.
-/
import Derived.Test.YtaojognjkiifmacLeaf
namespace Go.Proofs.Ytaojognjkiifmac
open Go.RowKit

/-- A net is ok. -/
def netB (m : Int) (xs : List ArcD) : Bool := inB m 1 8 && (decide (xs.length ≤ 16) && xs.all (arcB (m - 1)))

theorem netB_iff (m : Int) (xs : List ArcD) : netB m xs = true ↔ (1 ≤ m ∧ m ≤ 8) ∧ xs.length ≤ 16 ∧ ∀ a ∈ xs, arcB (m - 1) a = true := by
  simp [netB, inB_iff]

theorem wrap_in {m : Int} (h : 1 ≤ m ∧ m ≤ 8) : wrap64 (m - 1) = m - 1 := IntWalk.wrap64_in _ (by omega)

theorem netB_bad (m : Int) (xs : List ArcD) (a : ArcD) (k : Nat) (h : xs[k]? = some a) (hb : arcB (wrap64 (m - 1)) a = false) : netB m xs = false := by
  rw [Bool.eq_false_iff]
  intro hn
  obtain ⟨h1, h2, h3⟩ := (netB_iff _ _).1 hn
  rw [wrap_in h1] at hb
  rw [h3 a (List.mem_of_getElem? h)] at hb
  cases hb

/-- The first k arcs are ok. -/
def OkTo (m : Int) (xs : List ArcD) (k : Nat) : Prop := ∀ j a, j < k → xs[j]? = some a → arcB (wrap64 (m - 1)) a = true

theorem OkTo.next {m : Int} {xs : List ArcD} {k : Nat} {a : ArcD} (h : OkTo m xs k) (ha : xs[k]? = some a) (hb : arcB (wrap64 (m - 1)) a = true) : OkTo m xs (k + 1) := fun j b hj hja => by
  rcases Nat.lt_or_ge j k with hlt | hge
  · exact h j b hlt hja
  · obtain rfl : j = k := by omega
    rw [ha] at hja
    injection hja with hja
    subst hja
    exact hb

theorem OkTo.all {m : Int} {xs : List ArcD} (h : OkTo m xs xs.length) (hm : 1 ≤ m ∧ m ≤ 8) (hl : xs.length ≤ 16) : netB m xs = true := by
  refine (netB_iff _ _).2 ⟨hm, hl, fun a ha => ?_⟩
  obtain ⟨j, hj, rfl⟩ := List.getElem_of_mem ha
  rw [← wrap_in hm]
  exact h j _ hj (List.getElem?_eq_getElem hj)

set_option maxHeartbeats 400000 in
theorem implNetOk_any (m : Int) (A : Option Addr) (n c : Nat) (xs : List ArcD) (w : World) (hn : n ≤ 1048576) (hl : xs.length = n) (hx : ArcsAt w A xs) :
    Calls Try.prog 71 #[.agg #[.int .i64 m, .slice A n c]] w fun e w' => e = .returned (.bool (netB m xs)) ∧ Below w.heap.size w w' := by
  have HL := Lib.hid hl
  clear hl
  have hb0 : Past w (w.alloc (.cells #[.int .i64 m, .slice A n c] 30)) := (Past.refl _).alloc _
  by_cases h1 : m < 1
  · go_enter Try.func71, Try.ntmps71
    go_wp2
    go_ret
    refine ⟨ret_bool (Bool.eq_false_iff.2 fun h => ?_).symm, hb0⟩
    obtain ⟨h1, _⟩ := (netB_iff _ _).1 h
    omega
  by_cases h2 : 8 < m
  · go_enter Try.func71, Try.ntmps71
    go_wp2
    go_ret
    refine ⟨ret_bool (Bool.eq_false_iff.2 fun h => ?_).symm, hb0⟩
    obtain ⟨h1, _⟩ := (netB_iff _ _).1 h
    omega
  by_cases h3 : 16 < n
  · have h3' : (16 : Int) < (n : Int) := by omega
    go_enter Try.func71, Try.ntmps71
    go_wp2
    go_ret
    refine ⟨ret_bool (Bool.eq_false_iff.2 fun h => ?_).symm, hb0⟩
    obtain ⟨_, h1, _⟩ := (netB_iff _ _).1 h
    have := HL.out
    omega
  have h3' : ¬ (16 : Int) < (n : Int) := by omega
  go_enter Try.func71, Try.ntmps71
  go_wp2
  go_loopw [22] (fun i wr => ∃ k : Nat, k ≤ n ∧ i = .int .i64 k ∧ Past (w.alloc (.cells #[.int .i64 m, .slice A n c] 30)) wr ∧ OkTo m xs k) (fun i _ => n - (intOf i).toNat)
  case atStart => exact ⟨0, by omega, rfl, Past.refl _, fun j a h => absurd h (by omega)⟩
  case round =>
    obtain ⟨k, hk, rfl, hb, hok⟩ := hrel
    by_cases hlt : k < n
    · obtain ⟨⟨f, t, c', l, d⟩, ha⟩ : ∃ a, xs[k]? = some a := ⟨_, List.getElem?_eq_getElem (by have := HL.out; omega)⟩
      obtain ⟨g, o, rfl, c0, c1, c2, c3, c4⟩ := ((hx.below hb0).below hb) k _ ha
      have hz := hb.lt
      have b0 := cell_in (p := ⟨w.heap.size, 0, none⟩) (v := .int .i64 m) hb (by go_simp)
      have HA := Lib.hid ha
      clear ha
      cases hB : arcB (wrap64 (m - 1)) ⟨f, t, c', l, d⟩ with
      | true =>
        have HB := Lib.hid hB
        clear hB
        go_wp2_with fail
        refine (arcOk_any ⟨f, t, c', l, d⟩ m _).mono ?_
        rintro e w1 ⟨rfl, hb1⟩
        rw [HB.out]
        go_wp2
        go_roundw
        case rel => exact ⟨k + 1, by omega, by go_num, (hb.alloc _).trans hb1, hok.next HA.out HB.out⟩
        case measure => simp [intOf]; omega
      | false =>
        have HB := Lib.hid hB
        clear hB
        go_wp2_with fail
        refine (arcOk_any ⟨f, t, c', l, d⟩ m _).mono ?_
        rintro e w1 ⟨rfl, hb1⟩
        rw [HB.out]
        go_wp2
        go_ret
        exact ⟨ret_bool (netB_bad m xs _ k HA.out HB.out).symm, hb0.trans ((hb.alloc _).trans hb1)⟩
    · obtain rfl : n = k := by omega
      go_wp2
      go_ret
      have := HL.out
      subst this
      exact ⟨ret_bool (hok.all (by omega) (by omega)).symm, hb0.trans hb⟩

set_option maxHeartbeats 1000000 in
theorem l1Ok_any (m : Int) (A : Option Addr) (n c : Nat) (xs : List ArcD) (w : World) (hn : n ≤ 1048576) (hl : xs.length = n) (hx : ArcsAt w A xs) :
    Calls Try.prog 45 #[.agg #[.int .i64 m, .slice A n c]] w fun e w' => e = .returned (.bool (netB m xs)) ∧ Below w.heap.size w w' := by
  have HL := Lib.hid hl
  clear hl
  have hb0 : Past w (w.alloc (.cells #[.int .i64 m, .slice A n c] 30)) := (Past.refl _).alloc _
  go_enter Try.func45, Try.ntmps45
  go_wp2
  go_loopw [3] (fun i wr => ∃ k : Nat, k ≤ n ∧ i = .int .i64 k ∧ Past (w.alloc (.cells #[.int .i64 m, .slice A n c] 30)) wr ∧ OkTo m xs k) (fun i _ => n - (intOf i).toNat)
  case atStart => exact ⟨0, by omega, rfl, Past.refl _, fun j a h => absurd h (by omega)⟩
  case round =>
    obtain ⟨k, hk, rfl, hb, hok⟩ := hrel
    have hz := hb.lt
    have b0 := cell_in (p := ⟨w.heap.size, 0, none⟩) (v := .int .i64 m) hb (by go_simp)
    have b1 := cell_in (p := ⟨w.heap.size, 1, none⟩) (v := .slice A n c) hb (by go_simp)
    by_cases hlt : k < n
    · obtain ⟨⟨f, t, c', l, d⟩, ha⟩ : ∃ a, xs[k]? = some a := ⟨_, List.getElem?_eq_getElem (by have := HL.out; omega)⟩
      obtain ⟨g, o, rfl, c0, c1, c2, c3, c4⟩ := ((hx.below hb0).below hb) k _ ha
      have HA := Lib.hid ha
      clear ha
      go_wp2_with (first | (go_at_call 63; refine (l1In_any _ _ _ _).mono ?_; rintro e w' ⟨rfl, rfl⟩))
      case roundEnd =>
        go_roundw
        case rel => exact ⟨k + 1, by omega, by go_num, hb.alloc _, hok.next HA.out (by simp_all [arcB])⟩
        case measure => simp [intOf]; omega
      all_goals go_ret
      all_goals refine ⟨ret_bool (netB_bad m xs _ k HA.out ?_).symm, hb0.trans (hb.alloc _)⟩
      all_goals first | (simp [arcB, *]; done) | (rcases ‹(f == t) = true ∨ _› with h | h <;> simp_all [arcB])
    · obtain rfl : n = k := by omega
      cases h1 : inB m 1 8 with
      | true =>
        have HB := Lib.hid h1
        clear h1
        go_wp2_with (first | (go_at_call 63; refine (l1In_any _ _ _ _).mono ?_; rintro e w' ⟨rfl, rfl⟩; rw [HB.out]))
        go_ret
        have := HL.out
        subst this
        refine ⟨ret_bool ?_, hb0.trans hb⟩
        have h2 := (inB_iff _ _ _).1 HB.out
        by_cases h16 : xs.length ≤ 16
        · rw [hok.all h2 h16]; simp; omega
        · have : netB m xs = false := Bool.eq_false_iff.2 fun h => by
            obtain ⟨_, h1, _⟩ := (netB_iff _ _).1 h
            omega
          rw [this]; simp; omega
      | false =>
        have HB := Lib.hid h1
        clear h1
        go_wp2_with (first | (go_at_call 63; refine (l1In_any _ _ _ _).mono ?_; rintro e w' ⟨rfl, rfl⟩; rw [HB.out]))
        go_ret
        refine ⟨ret_bool ?_, hb0.trans hb⟩
        have := HB.out
        simp [netB, this]

end Go.Proofs.Ytaojognjkiifmac
