/-
  The best way from a node to another one: spec.NearWalk, impl.NearWalk. No condition.
-/
import Derived.Test.YtokljfeoignbcaaWalkT
import Derived.Test.YtokljfeoignbcaaNTree
namespace Go.Proofs.Ytokljfeoignbcaa
open Go.RowKit

/-- The best way, of a net and two nodes that are there, and whether there is one. -/
def hereB2 (m : Int) (xs : List ArcD) (a b : Int) : Bool := hereB m xs a && inB b 0 (m - 1)
def nearWI (m : Int) (xs : List ArcD) (a b : Int) : List Int := if hereB2 m xs a b then wayM m.toNat xs a b else []
def nearWB (m : Int) (xs : List ArcD) (a b : Int) : Bool := hereB2 m xs a b && !(farB m.toNat xs b a)
theorem wayM_len {m : Nat} {xs : List ArcD} {a b : Int} (hx : ArcsIn m xs) (ha : 0 ≤ a ∧ a < m) (hb : 0 ≤ b ∧ b < m) (hm : m ≤ 8) : (wayM m xs a b).length ≤ 7 := by
  unfold wayM
  split
  · simp
  · rename_i h
    exact (treeL_of hx hb hm).way_few a ha.1 ha.2 (by simpa [farB] using h)
theorem hereB2_iff (m : Int) (xs : List ArcD) (a b : Int) : hereB2 m xs a b = true ↔ netB m xs = true ∧ (0 ≤ a ∧ a < m) ∧ 0 ≤ b ∧ b < m := by
  simp only [hereB2, Bool.and_eq_true, hereB_iff, inB_iff]
  constructor
  · rintro ⟨⟨h1, h2, h3⟩, h4, h5⟩; exact ⟨h1, ⟨h2, h3⟩, h4, by omega⟩
  · rintro ⟨h1, ⟨h2, h3⟩, h4, h5⟩; exact ⟨⟨h1, h2, h3⟩, h4, by omega⟩
theorem nearWI_len (m : Int) (xs : List ArcD) (a b : Int) : (nearWI m xs a b).length ≤ 1048576 := by
  unfold nearWI
  split
  · rename_i h
    obtain ⟨h1, h2, h3⟩ := (hereB2_iff _ _ _ _).1 h
    obtain ⟨M, e, _, h8⟩ := here_nat h1
    subst e
    have := wayM_len (arcsIn_net h1) h2 h3 h8
    simp only [Int.toNat_natCast]
    omega
  · simp

set_option maxRecDepth 100000 in
set_option maxHeartbeats 2000000 in
theorem specNearWalk_any (m : Int) (A : Option Addr) (n c : Nat) (xs : List ArcD) (a b : Int) (w : World) (hn : n ≤ 1048576) (hnx : xs.length = n) (hx : ArcsAt w A xs) :
    Calls Try.prog 26 #[.agg #[.int .i64 m, .slice A n c], .int .i64 a, .int .i64 b] w (GivesB w (nearWI m xs a b) (nearWB m xs a b)) := by
  have HX := Lib.hid hnx
  clear hnx
  have hb0 : Past w (w.alloc (.cells #[.int .i64 m, .slice A n c] 30)) := (Past.refl _).alloc _
  go_enter Try.func26, Try.ntmps26
  go_wp2_with fail
  refine (l1Ok_any m A n c xs _ hn HX.out (hx.below hb0)).mono ?_
  rintro e W ⟨rfl, hb1⟩
  have b0 := cell_in (p := ⟨w.heap.size, 0, none⟩) (v := .int .i64 m) hb1 (by go_simp)
  have b1 := cell_in (p := ⟨w.heap.size, 1, none⟩) (v := .slice A n c) hb1 (by go_simp)
  have hxW := (hx.below hb0).below hb1
  have hpW := hb0.trans hb1
  clear hb0 hb1
  cases hB : netB m xs with
  | false =>
    have HB := Lib.hid hB
    clear hB
    go_wp2
    refine bodyPost_ret (v := .tuple #[.slice none 0 0, .bool false]) (by simp [results, Try.results26, go_sem]) rfl ?_
    exact ⟨_, by rw [nearWB, hereB2, hereB, HB.out]; rfl, by rw [nearWI, hereB2, hereB, HB.out]; exact Res.nil _ _, hpW⟩
  | true =>
    obtain ⟨M, rfl, h1, h8⟩ := here_nat hB
    have h16 : n ≤ 16 := by rw [← HX.out]; exact ((netB_iff _ _).1 hB).2.1
    have HB := Lib.hid hB
    clear hB
    go_wp2_with fail
    refine (l1In_any _ _ _ _).mono ?_
    rintro e w2 ⟨rfl, rfl⟩
    cases hI : inB a 0 ((M : Int) - 1) with
    | false =>
      have HI := Lib.hid hI
      clear hI
      go_wp2
      refine bodyPost_ret (v := .tuple #[.slice none 0 0, .bool false]) (by simp [results, Try.results26, go_sem]) rfl ?_
      exact ⟨_, by rw [nearWB, hereB2, hereB, HB.out, HI.out]; rfl, by rw [nearWI, hereB2, hereB, HB.out, HI.out]; exact Res.nil _ _, hpW⟩
    | true =>
      have HI := Lib.hid hI
      have ha := (inB_iff _ _ _).1 hI
      clear hI
      go_wp2_with fail
      refine (l1In_any _ _ _ _).mono ?_
      rintro e w3 ⟨rfl, rfl⟩
      cases hJ : inB b 0 ((M : Int) - 1) with
      | false =>
        have HJ := Lib.hid hJ
        clear hJ
        go_wp2
        refine bodyPost_ret (v := .tuple #[.slice none 0 0, .bool false]) (by simp [results, Try.results26, go_sem]) rfl ?_
        exact ⟨_, by rw [nearWB, hereB2, hereB, HB.out, HI.out, HJ.out]; rfl, by rw [nearWI, hereB2, hereB, HB.out, HI.out, HJ.out]; exact Res.nil _ _, hpW⟩
      | true =>
        have HJ := Lib.hid hJ
        have hb := (inB_iff _ _ _).1 hJ
        clear hJ
        go_wp2_with fail
        refine (l3Walk_any M a b A n c xs _ h8 h1 HX.out h16 hxW (arcsIn_net HB.out) (by omega) (by omega)).mono ?_
        rintro e w6 ⟨v6, rfl, hv6, hb6⟩
        go_wp2
        refine bodyPost_ret (v := .tuple #[v6, .bool !farB M xs b a]) (by simp [results, Try.results26, go_sem]) rfl ?_
        exact ⟨_, by rw [nearWB, hereB2, hereB, HB.out, HI.out, HJ.out]; rfl, by rw [nearWI, hereB2, hereB, HB.out, HI.out, HJ.out]; exact hv6.lower hpW.size, hpW.trans hb6⟩

end Go.Proofs.Ytokljfeoignbcaa
