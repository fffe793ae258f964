/-
  What it costs at least from each to a node: spec.NearTo, impl.NearTo. No condition.
-/
import Derived.Test.YtokljfeoignbcaaNAll
import Derived.Test.YtokljfeoignbcaaBack4
namespace Go.Proofs.Ytokljfeoignbcaa
open Go.RowKit

theorem flip_flip' (a : ArcD) : flip (flip a) = a := rfl
theorem arcB_flip' {m : Int} {a : ArcD} (h : arcB m a = true) : arcB m (flip a) = true := by
  unfold arcB at h ⊢
  unfold flip
  simp only [Bool.and_eq_true, Bool.not_eq_true', beq_eq_false_iff_ne] at h ⊢
  exact ⟨h.2.1, h.1, fun e => h.2.2.1 e.symm, h.2.2.2⟩
theorem netB_flip' {m : Int} {xs : List ArcD} (h : netB m xs = true) : netB m (xs.map flip) = true := by
  obtain ⟨h1, h2, h3⟩ := (netB_iff _ _).1 h
  refine (netB_iff _ _).2 ⟨h1, by rw [List.length_map]; exact h2, fun a ha => ?_⟩
  obtain ⟨b, hb, rfl⟩ := List.mem_map.1 ha
  exact arcB_flip' (h3 b hb)
/-- What it costs from each to a node. -/
def nearTI (m : Int) (xs : List ArcD) (s : Int) : List Int := if hereB m xs s then nearL m.toNat (xs.map flip) s else []
theorem nearTI_back (m : Int) (xs : List ArcD) (s : Int) : nearI (backN m xs) (backL m xs) s = nearTI m xs s := by
  unfold nearI nearTI backN backL hereB
  cases hB : netB m xs with
  | true => simp only [if_true, netB_flip' hB]
  | false =>
    have : netB 0 [] = false := by decide
    simp [this]
theorem nearTI_len (m : Int) (xs : List ArcD) (s : Int) : (nearTI m xs s).length ≤ 1048576 := by
  rw [← nearTI_back]
  exact nearI_len _ _ _

set_option maxHeartbeats 1000000 in
theorem specNearTo_any (m : Int) (A : Option Addr) (n c : Nat) (xs : List ArcD) (s : Int) (w : World) (hn : n ≤ 1048576) (hnx : xs.length = n) (hx : ArcsAt w A xs) :
    Calls Try.prog 24 #[.agg #[.int .i64 m, .slice A n c], .int .i64 s] w (Gives w (nearTI m xs s)) := by
  have HX := Lib.hid hnx
  clear hnx
  have hb0 : Past w (w.alloc (.cells #[.int .i64 m, .slice A n c] 30)) := (Past.refl _).alloc _
  go_enter Try.func24, Try.ntmps24
  go_wp2_with fail
  refine (l1Ok_any m A n c xs _ hn HX.out (hx.below hb0)).mono ?_
  rintro e w1 ⟨rfl, hb1⟩
  have b0 := cell_in (p := ⟨w.heap.size, 0, none⟩) (v := .int .i64 m) hb1 (by go_simp)
  have b1 := cell_in (p := ⟨w.heap.size, 1, none⟩) (v := .slice A n c) hb1 (by go_simp)
  have hx1 := (hx.below hb0).below hb1
  have hp1 := hb0.trans hb1
  cases hB : netB m xs with
  | false =>
    have HB := Lib.hid hB
    clear hB
    go_wp2
    go_ret
    exact ⟨_, rfl, by rw [nearTI, hereB, HB.out]; exact Res.nil _ _, hp1⟩
  | true =>
    obtain ⟨M, rfl, h1, h8⟩ := here_nat hB
    have h16 : n ≤ 16 := by rw [← HX.out]; exact ((netB_iff _ _).1 hB).2.1
    have HB := Lib.hid hB
    clear hB
    go_wp2_with fail
    refine (l1In_any _ _ _ _).mono ?_
    rintro e w2 ⟨rfl, rfl⟩
    cases hI : inB s 0 ((M : Int) - 1) with
    | false =>
      have HI := Lib.hid hI
      clear hI
      go_wp2
      go_ret
      exact ⟨_, rfl, by rw [nearTI, hereB, HB.out, HI.out]; exact Res.nil _ _, hp1⟩
    | true =>
      have hs := (inB_iff _ _ _).1 hI
      have HI := Lib.hid hI
      clear hI
      go_wp2_with fail
      refine (l1Back_any (M : Int) A n c xs _ h16 HX.out hx1).mono ?_
      rintro e w3 ⟨A3, c3, rfl, hx3, _, hb3⟩
      obtain ⟨N3, hN3⟩ : ∃ N3, (xs.map flip).length = N3 := ⟨_, rfl⟩
      have h3 : N3 ≤ 16 := by rw [← hN3, List.length_map, HX.out]; exact h16
      rw [hN3]
      have HN3 := Lib.hid hN3
      clear hN3
      go_wp2_with fail
      refine (l3All_any M s A3 N3 c3 (xs.map flip) _ h8 HN3.out (by omega) hx3 (arcsIn_net (netB_flip' HB.out)) (by omega)).mono ?_
      rintro e w4 ⟨v4, rfl, hv4, hb4⟩
      go_wp2
      go_ret
      exact ⟨_, rfl, by rw [nearTI, hereB, HB.out, HI.out]; exact hv4.lower (Nat.le_trans hp1.size hb3.size), (hp1.trans hb3).trans hb4⟩

set_option maxHeartbeats 1000000 in
theorem implNearTo_all (m : Int) (A : Option Addr) (n c : Nat) (xs : List ArcD) (s : Int) (w : World) (hn : n ≤ 1048576) (hnx : xs.length = n) (hx : ArcsAt w A xs) (ho : (A = none ∧ n = 0) ∨ ∃ g o, A = some ⟨g, o, none⟩) :
    Calls Try.prog 25 #[.agg #[.int .i64 m, .slice A n c], .int .i64 s] w (Gives w (nearTI m xs s)) := by
  have HX := Lib.hid hnx
  clear hnx
  go_enter Try.func25, Try.ntmps25
  go_wp2_with fail
  have hb0 : Past w (w.alloc (.cells #[.int .i64 m, .slice A n c] 30)) := (Past.refl _).alloc _
  refine (implNetBack_all m A n c xs _ hn HX.out (hx.below hb0) ho).mono ?_
  rintro e w1 ⟨A1, c1, rfl, hx1, _, hb1⟩
  obtain ⟨N1, hN1⟩ : ∃ N1, (backL m xs).length = N1 := ⟨_, rfl⟩
  have h1 : N1 ≤ 1048576 := by have := backL_len m xs; have := HX.out; omega
  rw [hN1]
  have HN1 := Lib.hid hN1
  clear hN1
  go_wp2_with fail
  refine (implNearAll_any (backN m xs) A1 N1 c1 (backL m xs) s _ h1 HN1.out hx1).mono ?_
  rintro e w2 ⟨v2, rfl, hv2, hb2⟩
  go_wp2
  go_ret
  rw [nearTI_back] at hv2
  exact ⟨_, rfl, hv2.lower (Nat.le_trans hb0.size hb1.size), (hb0.trans hb1).trans hb2⟩
theorem implNearTo_any (m : Int) (g n c : Nat) (xs : List ArcD) (s : Int) (w : World) (hn : n ≤ 1048576) (hnx : xs.length = n) (hx : ArcsAt w (some ⟨g, 0, none⟩) xs) :
    Calls Try.prog 25 #[.agg #[.int .i64 m, .slice (some ⟨g, 0, none⟩) n c], .int .i64 s] w (Gives w (nearTI m xs s)) :=
  implNearTo_all m _ n c xs s w hn hnx hx (.inr ⟨_, _, rfl⟩)

end Go.Proofs.Ytokljfeoignbcaa
