/-
  FnNearWalk answers true at every input: the best way can be gone, and costs the least. No condition.
-/
import Derived.Test.YtokljfeoignbcaaDrawNetOut
import Derived.Test.YtokljfeoignbcaaOpenW
import Derived.Test.YtokljfeoignbcaaDraw
import Derived.Test.YtokljfeoignbcaaNLen
import Derived.Test.YtokljfeoignbcaaNCosts
import Derived.Test.YtokljfeoignbcaaNear
import Derived.Test.YtokljfeoignbcaaBack4
import Derived.Test.YtokljfeoignbcaaFirst
import Derived.Test.YtokljfeoignbcaaPTree2
import Derived.Test.YtokljfeoignbcaaWalkT
import Derived.Test.YtokljfeoignbcaaOk
import Derived.Test.YtokljfeoignbcaaTo
import Derived.Test.YtokljfeoignbcaaResI
import Derived.Test.YtokljfeoignbcaaPWay
import Derived.Test.YtokljfeoignbcaaBack
import Derived.Test.YtokljfeoignbcaaQPast
import Derived.Test.YtokljfeoignbcaaIn
import Derived.Deep.RegionWith
namespace Go.Proofs.Ytokljfeoignbcaa
open Go.RowKit

/-- A net and two numbers were drawn. -/
def DrawNode2G (w : World) (e : Ending) (w' : World) : Prop :=
  ∃ (m : Int) (B : Option Addr) (k cap : Nat) (xs : List ArcD) (z1 z2 : Int), e = .returned (.tuple #[.agg #[.int .i64 m, .slice B k cap], .int .i64 z1, .int .i64 z2]) ∧ xs.length = k ∧ k ≤ 13 ∧ ArcsAt w' B xs ∧ ((∀ g, g < w.heap.size → blk B ≠ some g) ∧ ((B = none ∧ k = 0) ∨ ∃ g o, B = some ⟨g, o, none⟩)) ∧ Below w.heap.size w w'

set_option maxRecDepth 100000 in
set_option maxHeartbeats 4000000 in
theorem drawNearWalk_any (A : Option Addr) (n c : Nat) (w : World) (hn : n ≤ c) (hc : c ≤ maxLen) (hb : BytesAt w A n) :
    Calls Try.prog 34 #[.slice A n c] w (DrawNode2G w) := by
  have hpV : Past w (w.alloc (.cells #[.int .i64 0, .slice none 0 0] 30)) := (Past.refl w).alloc _
  go_enter Try.func34, Try.ntmps34
  go_wp2_with fail
  refine (open_any A n c _ hn hc (hb.below hpV)).mono ?_
  rintro e w1 ⟨R, n', c', rfl, hR, hrd, hb1⟩
  rw [World.size_alloc] at hR
  have hF : RdF w1 R _ A n' c' (26 + 83) := ⟨0, by omega, hrd⟩
  have r0 : RowN w1 w.heap.size 30 2 := by
    have r : RowN (w.alloc (.cells #[.int .i64 0, .slice none 0 0] 30)) w.heap.size 30 2 := ⟨_, heap_alloc_new w _, rfl⟩
    exact r.keep (hb1.block _ r.lt)
  have hp1 := hpV.trans hb1
  have hR1 := hF.at_
  clear hrd hb1 hpV
  go_wp2_with fail
  refine (l30AnyNet_any R _ A n' c' 26 w1 hF).mono ?_
  rintro e w2 ⟨m, B, k, cap, xs, rfl, hxk, hk, hxB, hoB, hr2, hg2⟩
  have hp2 : Past w w2 := Below.grown hp1 hg2 hp1.size (fun k e => by injection e with e; omega)
  have r2 := r0.young hg2 (by omega)
  have hBR : blk B ≠ some R := hoB.ne_blk hR1
  have hform := ownForm hoB
  have hfar : ∀ g, g < w.heap.size → blk B ≠ some g := fun g hg => hoB.ne_blk (Nat.lt_of_lt_of_le hg hp1.size)
  have hneB : blk B ≠ some w.heap.size := hoB.ne_blk (by omega)
  have s12 := hg2.size
  obtain ⟨W, hW⟩ : ∃ W, W = w2.alloc (.cells #[.int .i64 m, .slice B k cap] 30) := ⟨_, rfl⟩
  have hpW : Past w2 W := by rw [hW]; exact (Past.refl w2).alloc _
  have b0 : W.cell? ⟨w2.heap.size, 0, none⟩ = some (.int .i64 m) := by rw [hW]; go_simp
  have b1 : W.cell? ⟨w2.heap.size, 1, none⟩ = some (.slice B k cap) := by rw [hW]; go_simp
  have hxW := hxB.below hpW
  have hrW := hr2.below hpW
  have r3 := r2.keep (hpW.block _ r2.lt)
  have hp3 := hp2.trans hpW
  have hs2 : w.heap.size < w2.heap.size := r2.lt
  have hNR : w2.heap.size ≠ R := by omega
  have hxBs := hxB.below hpW
  go_upto_region 3 with (fail)
  rw [← hW]
  clear hW hoB hr2 hg2 hxB r0 hF
  go_wp2_with fail
  refine (l30Node_any R _ A B n' c' 24 k cap m _ hrW).mono ?_
  rintro e w4 ⟨zA, rfl, hr4, hg4⟩
  have b0 := cell_far hg4 b0 hNR
  have b1 := cell_far hg4 b1 hNR
  have r3 : RowN w4 w.heap.size 30 2 := RowN.young r3 hg4 (by omega)
  have hp3 : Past w w4 := Below.grown hp3 hg4 hp3.size (fun k e => by injection e with e; omega)
  have hxW := hxW.grown hg4 (fun b e => by injection e with e; rw [← e]; exact hBR)
  have hrW := hr4
  obtain ⟨W4, hW4⟩ : ∃ W4, W4 = w4 := ⟨_, rfl⟩
  subst hW4
  clear hg4 hr4 hxBs
  go_upto_region 4 with (fail)
  have hq0 : ∀ (u : World) (j : Nat) (x : Value), (u.setCell ⟨w.heap.size, j, none⟩ x).cell? ⟨w2.heap.size, 0, none⟩ = u.cell? ⟨w2.heap.size, 0, none⟩ := fun u j x => World.cell?_setCell_other _ _ _ _ (by intro e; injection e; omega)
  have hq1 : ∀ (u : World) (j : Nat) (x : Value), (u.setCell ⟨w.heap.size, j, none⟩ x).cell? ⟨w2.heap.size, 1, none⟩ = u.cell? ⟨w2.heap.size, 1, none⟩ := fun u j x => World.cell?_setCell_other _ _ _ _ (by intro e; injection e; omega)
  go_region_held3 (fun w' => w'.cell? ⟨w2.heap.size, 0, none⟩ = some (.int .i64 m) ∧ w'.cell? ⟨w2.heap.size, 1, none⟩ = some (.slice B k cap))
    (first | go_keep | (simp only [hq0, hq1]; assumption))
    (first
      | (go_at_call 63; refine (l30Node_any R _ A B n' c' 22 k cap m _ hrW.drew).mono ?_; rintro e w5 ⟨z, rfl, hr5, hg5⟩; have b0 := cell_far hg5 b0 hNR; have b1 := cell_far hg5 b1 hNR; have r5 : RowN w5 w.heap.size 30 2 := RowN.young (w := W4.drew) r3 hg5 (by omega); obtain ⟨y0, e0⟩ := r5.cell (i := 0) (by omega); obtain ⟨y1, e1⟩ := r5.cell (i := 1) (by omega); have z0 := r5.frozen 0; have z1 := r5.frozen 1))
  have hp5 : Past w w5 := Below.grown hp3.drew hg5 hp3.size (fun k e => by injection e with e; omega)
  have hx5 := ((hxW.drew.grown hg5 (fun b e => by injection e with e; rw [← e]; exact hBR)).far ⟨w.heap.size, 0, none⟩ (.int .i64 m) hneB).far ⟨w.heap.size, 1, none⟩ (.slice B k cap) hneB
  have hbel := Below.setCell (Below.setCell hp5 (p := ⟨w.heap.size, 0, none⟩) (by simp) (.int .i64 m)) (p := ⟨w.heap.size, 1, none⟩) (by simp) (.slice B k cap)
  clear hg5 hr5
  go_wp2
  exact bodyPost_ret (v := .tuple #[.agg #[.int .i64 m, .slice B k cap], .int .i64 zA, .int .i64 z]) (by simp [results, Try.results34, go_sem, e0, e1]) rfl ⟨m, B, k, cap, xs, zA, z, rfl, hxk, hk, hx5, ⟨hfar, hform⟩, hbel⟩

end Go.Proofs.Ytokljfeoignbcaa

namespace Go.Proofs.Ytokljfeoignbcaa
open Go.ChangeShapes Go.WideShapes Go.ChangeAt Go.RowKit Go.Deep Go.Joins

set_option maxRecDepth 100000 in
theorem open_bytes {H : Type} {enc : TypeId × Value → H} {W : World} {r : Reach} {b0 : Nat} {v : Value} {d : DataW H} {p : List MemPlace} (hv : Value.okWide Try.prog W r b0 40 v)
    (h : DataW.Trod enc Try.prog W 0 (fun _ => true) true 40 v d p) : ∃ (A : Option Addr) (n c : Nat), v = .slice A n c ∧ n ≤ c ∧ c ≤ maxLen ∧ BytesAt W A n := by
  obtain ⟨a0, len, cap, rfl⟩ := okWide_slice Try.underlying40 hv
  obtain ⟨fuel, hf⟩ := h
  rcases open_ints Try.underlying40 Try.underlying5 (by kernel_rfl) (show DataW.trod enc Try.prog W 0 (fun _ => true) true fuel 40 [.slice a0 len cap] = some _ by simpa [Value.cells] using hf) with ⟨hcs, _⟩ | ⟨a, len', cap', zs, hcs, _, hl, hm, hz, _, hcell, hwf⟩
  · injection hcs with hcs
    injection hcs with e1 e2 e3
    subst e1 e2 e3
    exact ⟨none, 0, 0, rfl, Nat.le_refl _, Nat.zero_le _, fun k hk => absurd hk (by omega)⟩
  · injection hcs with hcs
    injection hcs with e1 e2 e3
    subst e1 e2 e3
    simp only [if_true] at hz
    refine ⟨some a, _, _, rfl, hl, hm, fun k hk => ?_⟩
    have hc := hcell k (by omega)
    obtain ⟨g, o, rfl⟩ := spotless (hcell 0 (by omega))
    rw [addr_add] at hc
    have hw := hwf (zs.getD k 0) (by rw [List.getD_eq_getElem?_getD, List.getElem?_eq_getElem (by omega)]; simp)
    refine ⟨g, o, _, rfl, hc, ?_⟩
    simp only [Lit.wf, Bool.and_eq_true, decide_eq_true_eq] at hw
    rw [show IntKind.u8.min = 0 by decide, show IntKind.u8.max = 255 by decide] at hw
    exact hw

end Go.Proofs.Ytokljfeoignbcaa

namespace Go.Proofs.Ytokljfeoignbcaa
open Go.RowKit

theorem net_ne {m : Int} {xs : List ArcD} (h : netB m xs = true) : ∀ a ∈ xs, a.f ≠ a.t := fun a ha => by
  obtain ⟨_, _, h3⟩ := (netB_iff _ _).1 h
  have := h3 a ha
  simp only [arcB, Bool.and_eq_true, Bool.not_eq_true'] at this
  simpa using this.2.2.1

set_option maxRecDepth 100000 in
set_option maxHeartbeats 1000000 in
theorem implNearAll_any (m : Int) (A : Option Addr) (n c : Nat) (xs : List ArcD) (s : Int) (w : World) (hn : n ≤ 1048576) (hnx : xs.length = n) (hx : ArcsAt w A xs) :
    Calls Try.prog 18 #[.agg #[.int .i64 m, .slice A n c], .int .i64 s] w (Gives w (nearI m xs s)) := by
  have HX := Lib.hid hnx
  clear hnx
  go_enter Try.func18, Try.ntmps18
  have hb0 : Past w ((w.alloc (.cells #[.int .i64 m, .slice A n c] 30)).alloc (.cells #[.int .i64 s] 3)) := ((Past.refl _).alloc _).alloc _
  have hz : IntsAt ((w.alloc (.cells #[.int .i64 m, .slice A n c] 30)).alloc (.cells #[.int .i64 s] 3)) (some ⟨w.heap.size + 1, 0, none⟩) [s] := fun k y hk => by
    cases k with
    | zero => simp at hk; subst hk; exact ⟨_, _, rfl, by go_simp⟩
    | succ k => simp at hk
  go_wp2_with fail
  refine (netHas_any m A n c xs _ 1 1 [s] _ hn HX.out (hx.below hb0) (by omega) rfl hz).mono ?_
  rintro e w1 ⟨rfl, hb1⟩
  have b0 := cell_in (p := ⟨w.heap.size, 0, none⟩) (v := .int .i64 m) hb1 (by go_simp)
  have b1 := cell_in (p := ⟨w.heap.size, 1, none⟩) (v := .slice A n c) hb1 (by go_simp)
  have hx1 := (hx.below hb0).below hb1
  have hp1 := hb0.trans hb1
  have hH : (netB m xs && [s].all (fun z => inB z 0 (m - 1))) = hereB m xs s := by simp [hereB]
  rw [hH]
  clear hH hb0 hz hb1
  cases hB : hereB m xs s with
  | false =>
    have HB := Lib.hid hB
    clear hB
    go_wp2
    go_ret
    exact ⟨_, rfl, by rw [nearI, HB.out]; exact Res.nil _ _, hp1⟩
  | true =>
    obtain ⟨hN, h0, h1⟩ := (hereB_iff _ _ _).1 hB
    obtain ⟨M, rfl, h3, h8⟩ := here_nat hN
    obtain ⟨S, rfl⟩ : ∃ S : Nat, s = (S : Int) := ⟨s.toNat, by omega⟩
    have hS : S < M := by omega
    have h16 : n ≤ 16 := by rw [← HX.out]; exact ((netB_iff _ _).1 hN).2.1
    have HB := Lib.hid hB
    have HN := Lib.hid hN
    clear hB hN
    go_wp2_with fail
    refine (lengths_any M S A n c xs _ h16 HX.out hx1 (arcsIn_net HN.out) (net_ne HN.out) h3 h8 hS).mono ?_
    rintro e w2 ⟨g, L, rfl, hrow, hLl, hlabs, hopen, hb2⟩
    have HL := Lib.hid hlabs
    have HO := Lib.hid hopen
    clear hlabs hopen
    have HG := Lib.hid (fun j a (hj : L[j]? = some a) => hrow.get hLl hj)
    clear hrow
    go_wp2_with fail
    refine (costsOf_any g M M L _ (by omega) hLl HG.out).mono ?_
    rintro e w3 ⟨v3, rfl, hv3, hb3⟩
    go_wp2
    go_ret
    have hnear := HL.out.near (arcsIn_net HN.out) ⟨h0, h1⟩ h8 HO.out
    exact ⟨_, rfl, by rw [nearI, HB.out, if_pos rfl, Int.toNat_natCast, ← hnear]; exact hv3.lower (Nat.le_trans hp1.size hb2.size), (hp1.trans hb2).trans hb3⟩

end Go.Proofs.Ytokljfeoignbcaa

namespace Go.Proofs.Ytokljfeoignbcaa
open Go.RowKit

theorem flip_flip' (a : ArcD) : flip (flip a) = a := rfl
theorem arcB_flip' {m : Int} {a : ArcD} (h : arcB m a = true) : arcB m (flip a) = true := by
  unfold arcB at h ⊢
  unfold flip
  simp only [Bool.and_eq_true, Bool.not_eq_true', beq_eq_false_iff_ne] at h ⊢
  exact ⟨h.2.1, h.1, fun e => h.2.2.1 e.symm, h.2.2.2⟩
theorem netB_flip' {m : Int} {xs : List ArcD} (h : netB m xs = true) : netB m (xs.map flip) = true := by
  obtain ⟨h1, h2, h3⟩ := (netB_iff _ _).1 h
  refine (netB_iff _ _).2 ⟨h1, by rw [List.length_map]; exact h2, fun a ha => ?_⟩
  obtain ⟨b, hb, rfl⟩ := List.mem_map.1 ha
  exact arcB_flip' (h3 b hb)
/-- What it costs from each to a node. -/
def nearTI (m : Int) (xs : List ArcD) (s : Int) : List Int := if hereB m xs s then nearL m.toNat (xs.map flip) s else []
theorem nearTI_back (m : Int) (xs : List ArcD) (s : Int) : nearI (backN m xs) (backL m xs) s = nearTI m xs s := by
  unfold nearI nearTI backN backL hereB
  cases hB : netB m xs with
  | true => simp only [if_true, netB_flip' hB]
  | false =>
    have : netB 0 [] = false := by decide
    simp [this]
theorem nearTI_len (m : Int) (xs : List ArcD) (s : Int) : (nearTI m xs s).length ≤ 1048576 := by
  rw [← nearTI_back]
  exact nearI_len _ _ _

set_option maxHeartbeats 1000000 in
theorem specNearTo_any (m : Int) (A : Option Addr) (n c : Nat) (xs : List ArcD) (s : Int) (w : World) (hn : n ≤ 1048576) (hnx : xs.length = n) (hx : ArcsAt w A xs) :
    Calls Try.prog 24 #[.agg #[.int .i64 m, .slice A n c], .int .i64 s] w (Gives w (nearTI m xs s)) := by
  have HX := Lib.hid hnx
  clear hnx
  have hb0 : Past w (w.alloc (.cells #[.int .i64 m, .slice A n c] 30)) := (Past.refl _).alloc _
  go_enter Try.func24, Try.ntmps24
  go_wp2_with fail
  refine (l1Ok_any m A n c xs _ hn HX.out (hx.below hb0)).mono ?_
  rintro e w1 ⟨rfl, hb1⟩
  have b0 := cell_in (p := ⟨w.heap.size, 0, none⟩) (v := .int .i64 m) hb1 (by go_simp)
  have b1 := cell_in (p := ⟨w.heap.size, 1, none⟩) (v := .slice A n c) hb1 (by go_simp)
  have hx1 := (hx.below hb0).below hb1
  have hp1 := hb0.trans hb1
  cases hB : netB m xs with
  | false =>
    have HB := Lib.hid hB
    clear hB
    go_wp2
    go_ret
    exact ⟨_, rfl, by rw [nearTI, hereB, HB.out]; exact Res.nil _ _, hp1⟩
  | true =>
    obtain ⟨M, rfl, h1, h8⟩ := here_nat hB
    have h16 : n ≤ 16 := by rw [← HX.out]; exact ((netB_iff _ _).1 hB).2.1
    have HB := Lib.hid hB
    clear hB
    go_wp2_with fail
    refine (l1In_any _ _ _ _).mono ?_
    rintro e w2 ⟨rfl, rfl⟩
    cases hI : inB s 0 ((M : Int) - 1) with
    | false =>
      have HI := Lib.hid hI
      clear hI
      go_wp2
      go_ret
      exact ⟨_, rfl, by rw [nearTI, hereB, HB.out, HI.out]; exact Res.nil _ _, hp1⟩
    | true =>
      have hs := (inB_iff _ _ _).1 hI
      have HI := Lib.hid hI
      clear hI
      go_wp2_with fail
      refine (l1Back_any (M : Int) A n c xs _ h16 HX.out hx1).mono ?_
      rintro e w3 ⟨A3, c3, rfl, hx3, _, hb3⟩
      obtain ⟨N3, hN3⟩ : ∃ N3, (xs.map flip).length = N3 := ⟨_, rfl⟩
      have h3 : N3 ≤ 16 := by rw [← hN3, List.length_map, HX.out]; exact h16
      rw [hN3]
      have HN3 := Lib.hid hN3
      clear hN3
      go_wp2_with fail
      refine (l3All_any M s A3 N3 c3 (xs.map flip) _ h8 HN3.out (by omega) hx3 (arcsIn_net (netB_flip' HB.out)) (by omega)).mono ?_
      rintro e w4 ⟨v4, rfl, hv4, hb4⟩
      go_wp2
      go_ret
      exact ⟨_, rfl, by rw [nearTI, hereB, HB.out, HI.out]; exact hv4.lower (Nat.le_trans hp1.size hb3.size), (hp1.trans hb3).trans hb4⟩

set_option maxHeartbeats 1000000 in
theorem implNearTo_all (m : Int) (A : Option Addr) (n c : Nat) (xs : List ArcD) (s : Int) (w : World) (hn : n ≤ 1048576) (hnx : xs.length = n) (hx : ArcsAt w A xs) (ho : (A = none ∧ n = 0) ∨ ∃ g o, A = some ⟨g, o, none⟩) :
    Calls Try.prog 25 #[.agg #[.int .i64 m, .slice A n c], .int .i64 s] w (Gives w (nearTI m xs s)) := by
  have HX := Lib.hid hnx
  clear hnx
  go_enter Try.func25, Try.ntmps25
  go_wp2_with fail
  have hb0 : Past w (w.alloc (.cells #[.int .i64 m, .slice A n c] 30)) := (Past.refl _).alloc _
  refine (implNetBack_all m A n c xs _ hn HX.out (hx.below hb0) ho).mono ?_
  rintro e w1 ⟨A1, c1, rfl, hx1, _, hb1⟩
  obtain ⟨N1, hN1⟩ : ∃ N1, (backL m xs).length = N1 := ⟨_, rfl⟩
  have h1 : N1 ≤ 1048576 := by have := backL_len m xs; have := HX.out; omega
  rw [hN1]
  have HN1 := Lib.hid hN1
  clear hN1
  go_wp2_with fail
  refine (implNearAll_any (backN m xs) A1 N1 c1 (backL m xs) s _ h1 HN1.out hx1).mono ?_
  rintro e w2 ⟨v2, rfl, hv2, hb2⟩
  go_wp2
  go_ret
  rw [nearTI_back] at hv2
  exact ⟨_, rfl, hv2.lower (Nat.le_trans hb0.size hb1.size), (hb0.trans hb1).trans hb2⟩
theorem implNearTo_any (m : Int) (g n c : Nat) (xs : List ArcD) (s : Int) (w : World) (hn : n ≤ 1048576) (hnx : xs.length = n) (hx : ArcsAt w (some ⟨g, 0, none⟩) xs) :
    Calls Try.prog 25 #[.agg #[.int .i64 m, .slice (some ⟨g, 0, none⟩) n c], .int .i64 s] w (Gives w (nearTI m xs s)) :=
  implNearTo_all m _ n c xs s w hn hnx hx (.inr ⟨_, _, rfl⟩)

end Go.Proofs.Ytokljfeoignbcaa

namespace Go.Proofs.Ytokljfeoignbcaa
open Go.RowKit

/-- The tree, of a net and a node that are there. -/
def treeTI (m : Int) (xs : List ArcD) (s : Int) : List Int := if hereB m xs s then treeM m.toNat xs s else []
theorem treeTI_len (m : Int) (xs : List ArcD) (s : Int) : (treeTI m xs s).length ≤ 1048576 := by
  unfold treeTI
  split
  · rename_i h
    rw [treeM_length]
    obtain ⟨M, e, _, h8⟩ := here_nat ((hereB_iff _ _ _).1 h).1
    subst e
    simp
    omega
  · simp

set_option maxRecDepth 100000 in
set_option maxHeartbeats 2000000 in
theorem implNearTree_all (m : Int) (A : Option Addr) (n c : Nat) (xs : List ArcD) (s : Int) (w : World) (hn : n ≤ 1048576) (hnx : xs.length = n) (hx : ArcsAt w A xs) (ho : (A = none ∧ n = 0) ∨ ∃ g o, A = some ⟨g, o, none⟩) :
    Calls Try.prog 29 #[.agg #[.int .i64 m, .slice A n c], .int .i64 s] w (Gives w (treeTI m xs s)) := by
  have HX := Lib.hid hnx
  clear hnx
  go_enter Try.func29, Try.ntmps29
  have hb0 : Past w ((w.alloc (.cells #[.int .i64 m, .slice A n c] 30)).alloc (.cells #[.int .i64 s] 3)) := ((Past.refl _).alloc _).alloc _
  have hz : IntsAt ((w.alloc (.cells #[.int .i64 m, .slice A n c] 30)).alloc (.cells #[.int .i64 s] 3)) (some ⟨w.heap.size + 1, 0, none⟩) [s] := fun k y hk => by
    cases k with
    | zero => simp at hk; subst hk; exact ⟨_, _, rfl, by go_simp⟩
    | succ k => simp at hk
  go_wp2_with fail
  refine (netHas_any m A n c xs _ 1 1 [s] _ hn HX.out (hx.below hb0) (by omega) rfl hz).mono ?_
  rintro e w1 ⟨rfl, hb1⟩
  have b0 := cell_in (p := ⟨w.heap.size, 0, none⟩) (v := .int .i64 m) hb1 (by go_simp)
  have b1 := cell_in (p := ⟨w.heap.size, 1, none⟩) (v := .slice A n c) hb1 (by go_simp)
  have hx1 := (hx.below hb0).below hb1
  have hp1 := hb0.trans hb1
  have hH : (netB m xs && [s].all (fun z => inB z 0 (m - 1))) = hereB m xs s := by simp [hereB]
  rw [hH]
  clear hH hb0 hz hb1
  cases hB : hereB m xs s with
  | false =>
    have HB := Lib.hid hB
    clear hB
    go_wp2
    go_ret
    exact ⟨_, rfl, by rw [treeTI, HB.out]; exact Res.nil _ _, hp1⟩
  | true =>
    obtain ⟨hN, h0, h1⟩ := (hereB_iff _ _ _).1 hB
    obtain ⟨M, rfl, h3, h8⟩ := here_nat hN
    obtain ⟨S, rfl⟩ : ∃ S : Nat, s = (S : Int) := ⟨s.toNat, by omega⟩
    have hS : S < M := by omega
    have h16 : n ≤ 16 := by rw [← HX.out]; exact ((netB_iff _ _).1 hN).2.1
    have HB := Lib.hid hB
    have HN := Lib.hid hN
    clear hB hN
    go_wp2_with fail
    refine (implNetBack_all (M : Int) A n c xs _ hn HX.out hx1 ho).mono ?_
    rintro e w2 ⟨A2, c2, rfl, hx2, _, hb2⟩
    have hbN : backN (M : Int) xs = (M : Int) := by rw [backN, HN.out, if_pos rfl]
    have hbL : backL (M : Int) xs = xs.map flip := by rw [backL, HN.out, if_pos rfl]
    rw [hbN]
    rw [hbL] at hx2 ⊢
    obtain ⟨K2, hK2⟩ : ∃ K2, (xs.map flip).length = K2 := ⟨_, rfl⟩
    have hK3 : K2 ≤ 16 := by rw [← hK2, List.length_map, HX.out]; exact h16
    rw [hK2]
    have HK2 := Lib.hid hK2
    have b0 := cell_in hb2 b0
    have b1 := cell_in hb2 b1
    have hx2' := hx1.below hb2
    have hp2 := hp1.trans hb2
    clear hK2 hbN hbL hb2
    go_wp2_with fail
    refine (lengths_any M S A2 K2 c2 (xs.map flip) _ hK3 HK2.out hx2 (arcsIn_net (netB_flip' HN.out)) (net_ne (netB_flip' HN.out)) h3 h8 hS).mono ?_
    rintro e W ⟨g, L, rfl, hrow, hLl, hlabs, hopen, hb3⟩
    have hT : TreeL M xs (S : Int) L := ⟨hlabs, hopen, arcsIn_net HN.out, ⟨h0, h1⟩, h8⟩
    have hLe := hT.eq
    have HT := Lib.hid hT
    have HG := Lib.hid (fun j a (hj : L[j]? = some a) => hrow.get hLl hj)
    have HLE := Lib.hid hLe
    have b0 := cell_in hb3 b0
    have b1 := cell_in hb3 b1
    have hxW := hx2'.below hb3
    have hpW := hp2.trans hb3
    have hmk := makeInt M (by omega)
    clear hlabs hopen hrow hT hLe hb3 hx2 hx1 hx2'
    go_wp2
    go_loopw [22] (fun i wr => ∃ k : Nat, k ≤ M ∧ i = .int .i64 k ∧ Past W wr ∧ MadeI wr W.heap.size 3 M (treeM M xs (S : Int)) k) (fun i _ => M - (intOf i).toNat)
    case atStart => exact ⟨0, by omega, rfl, (Past.refl _).alloc _, MadeI.start W 3 M (treeM M xs (S : Int)) (madeCells #[.int .i64 0] M) (by simp [size_madeCells])⟩
    case round =>
      obtain ⟨k, hk, rfl, hb, hmd⟩ := hrel
      have b0' := cell_in hb b0
      have b1' := cell_in hb b1
      by_cases hlt : k < M
      · have HF : Hid ((treeM M xs (S : Int))[k]? = some (treeI xs L (k : Int))) := by rw [Hid, HLE.out]; exact treeM_get M xs (S : Int) hlt
        have k0 : (0 : Int) ≤ (k : Int) := by omega
        have k1 : (k : Int) < (M : Int) := by omega
        go_wp2_with fail
        refine (firstArc_any M k A n c xs g L _ h16 HX.out (hxW.below hb) (arcsIn_net HN.out) hlt hLl (fun j a hj => ⟨cell_in hb (HG.out j a hj).1, cell_in hb (HG.out j a hj).2⟩) (fun v h0 h1 => by have := HT.out.bound v h0 h1; unfold farI at this; omega)).mono ?_
        rintro e w6 ⟨rfl, hb6⟩
        have hmd6 := hmd.below hb6
        obtain ⟨v0, e0⟩ := hmd6.1.cell (i := k) hlt
        have z0 := hmd6.1.frozen k
        have hbb := hb.trans hb6
        go_wp2
        go_roundw
        case rel => exact ⟨k + 1, by omega, by go_num, Below.setCell hbb (by simp) _, hmd6.next HF.out hlt⟩
        case measure => simp [intOf]; omega
      · obtain rfl : M = k := by omega
        have hrow : RowI wr W.heap.size (treeM M xs (S : Int)) := hmd.row (treeM_length M xs (S : Int))
        go_wp2
        go_ret
        exact ⟨_, rfl, by rw [treeTI, HB.out, if_pos rfl, Int.toNat_natCast]; exact hrow.res (treeM_length M xs (S : Int)) hpW.size (by omega), hpW.trans hb⟩
theorem implNearTree_any (m : Int) (g n c : Nat) (xs : List ArcD) (s : Int) (w : World) (hn : n ≤ 1048576) (hnx : xs.length = n) (hx : ArcsAt w (some ⟨g, 0, none⟩) xs) :
    Calls Try.prog 29 #[.agg #[.int .i64 m, .slice (some ⟨g, 0, none⟩) n c], .int .i64 s] w (Gives w (treeTI m xs s)) :=
  implNearTree_all m _ n c xs s w hn hnx hx (.inr ⟨_, _, rfl⟩)

end Go.Proofs.Ytokljfeoignbcaa

namespace Go.Proofs.Ytokljfeoignbcaa
open Go.RowKit

/-- The best way, of a net and two nodes that are there, and whether there is one. -/
def hereB2 (m : Int) (xs : List ArcD) (a b : Int) : Bool := hereB m xs a && inB b 0 (m - 1)
def nearWI (m : Int) (xs : List ArcD) (a b : Int) : List Int := if hereB2 m xs a b then wayM m.toNat xs a b else []
def nearWB (m : Int) (xs : List ArcD) (a b : Int) : Bool := hereB2 m xs a b && !(farB m.toNat xs b a)
theorem wayM_len {m : Nat} {xs : List ArcD} {a b : Int} (hx : ArcsIn m xs) (ha : 0 ≤ a ∧ a < m) (hb : 0 ≤ b ∧ b < m) (hm : m ≤ 8) : (wayM m xs a b).length ≤ 7 := by
  unfold wayM
  split
  · simp
  · rename_i h
    exact (treeL_of hx hb hm).way_few a ha.1 ha.2 (by simpa [farB] using h)
theorem hereB2_iff (m : Int) (xs : List ArcD) (a b : Int) : hereB2 m xs a b = true ↔ netB m xs = true ∧ (0 ≤ a ∧ a < m) ∧ 0 ≤ b ∧ b < m := by
  simp only [hereB2, Bool.and_eq_true, hereB_iff, inB_iff]
  constructor
  · rintro ⟨⟨h1, h2, h3⟩, h4, h5⟩; exact ⟨h1, ⟨h2, h3⟩, h4, by omega⟩
  · rintro ⟨h1, ⟨h2, h3⟩, h4, h5⟩; exact ⟨⟨h1, h2, h3⟩, h4, by omega⟩
theorem nearWI_len (m : Int) (xs : List ArcD) (a b : Int) : (nearWI m xs a b).length ≤ 1048576 := by
  unfold nearWI
  split
  · rename_i h
    obtain ⟨h1, h2, h3⟩ := (hereB2_iff _ _ _ _).1 h
    obtain ⟨M, e, _, h8⟩ := here_nat h1
    subst e
    have := wayM_len (arcsIn_net h1) h2 h3 h8
    simp only [Int.toNat_natCast]
    omega
  · simp

set_option maxRecDepth 100000 in
set_option maxHeartbeats 2000000 in
theorem specNearWalk_any (m : Int) (A : Option Addr) (n c : Nat) (xs : List ArcD) (a b : Int) (w : World) (hn : n ≤ 1048576) (hnx : xs.length = n) (hx : ArcsAt w A xs) :
    Calls Try.prog 26 #[.agg #[.int .i64 m, .slice A n c], .int .i64 a, .int .i64 b] w (GivesB w (nearWI m xs a b) (nearWB m xs a b)) := by
  have HX := Lib.hid hnx
  clear hnx
  have hb0 : Past w (w.alloc (.cells #[.int .i64 m, .slice A n c] 30)) := (Past.refl _).alloc _
  go_enter Try.func26, Try.ntmps26
  go_wp2_with fail
  refine (l1Ok_any m A n c xs _ hn HX.out (hx.below hb0)).mono ?_
  rintro e W ⟨rfl, hb1⟩
  have b0 := cell_in (p := ⟨w.heap.size, 0, none⟩) (v := .int .i64 m) hb1 (by go_simp)
  have b1 := cell_in (p := ⟨w.heap.size, 1, none⟩) (v := .slice A n c) hb1 (by go_simp)
  have hxW := (hx.below hb0).below hb1
  have hpW := hb0.trans hb1
  clear hb0 hb1
  cases hB : netB m xs with
  | false =>
    have HB := Lib.hid hB
    clear hB
    go_wp2
    refine bodyPost_ret (v := .tuple #[.slice none 0 0, .bool false]) (by simp [results, Try.results26, go_sem]) rfl ?_
    exact ⟨_, by rw [nearWB, hereB2, hereB, HB.out]; rfl, by rw [nearWI, hereB2, hereB, HB.out]; exact Res.nil _ _, hpW⟩
  | true =>
    obtain ⟨M, rfl, h1, h8⟩ := here_nat hB
    have h16 : n ≤ 16 := by rw [← HX.out]; exact ((netB_iff _ _).1 hB).2.1
    have HB := Lib.hid hB
    clear hB
    go_wp2_with fail
    refine (l1In_any _ _ _ _).mono ?_
    rintro e w2 ⟨rfl, rfl⟩
    cases hI : inB a 0 ((M : Int) - 1) with
    | false =>
      have HI := Lib.hid hI
      clear hI
      go_wp2
      refine bodyPost_ret (v := .tuple #[.slice none 0 0, .bool false]) (by simp [results, Try.results26, go_sem]) rfl ?_
      exact ⟨_, by rw [nearWB, hereB2, hereB, HB.out, HI.out]; rfl, by rw [nearWI, hereB2, hereB, HB.out, HI.out]; exact Res.nil _ _, hpW⟩
    | true =>
      have HI := Lib.hid hI
      have ha := (inB_iff _ _ _).1 hI
      clear hI
      go_wp2_with fail
      refine (l1In_any _ _ _ _).mono ?_
      rintro e w3 ⟨rfl, rfl⟩
      cases hJ : inB b 0 ((M : Int) - 1) with
      | false =>
        have HJ := Lib.hid hJ
        clear hJ
        go_wp2
        refine bodyPost_ret (v := .tuple #[.slice none 0 0, .bool false]) (by simp [results, Try.results26, go_sem]) rfl ?_
        exact ⟨_, by rw [nearWB, hereB2, hereB, HB.out, HI.out, HJ.out]; rfl, by rw [nearWI, hereB2, hereB, HB.out, HI.out, HJ.out]; exact Res.nil _ _, hpW⟩
      | true =>
        have HJ := Lib.hid hJ
        have hb := (inB_iff _ _ _).1 hJ
        clear hJ
        go_wp2_with fail
        refine (l3Walk_any M a b A n c xs _ h8 h1 HX.out h16 hxW (arcsIn_net HB.out) (by omega) (by omega)).mono ?_
        rintro e w6 ⟨v6, rfl, hv6, hb6⟩
        go_wp2
        refine bodyPost_ret (v := .tuple #[v6, .bool !farB M xs b a]) (by simp [results, Try.results26, go_sem]) rfl ?_
        exact ⟨_, by rw [nearWB, hereB2, hereB, HB.out, HI.out, HJ.out]; rfl, by rw [nearWI, hereB2, hereB, HB.out, HI.out, HJ.out]; exact hv6.lower hpW.size, hpW.trans hb6⟩

end Go.Proofs.Ytokljfeoignbcaa

namespace Go.Proofs.Ytokljfeoignbcaa
open Go.RowKit

set_option maxRecDepth 100000 in
set_option maxHeartbeats 2000000 in
theorem implNearWalk_all (m : Int) (A : Option Addr) (n c : Nat) (xs : List ArcD) (a b : Int) (w : World) (hn : n ≤ 1048576) (hnx : xs.length = n) (hx : ArcsAt w A xs) (ho : (A = none ∧ n = 0) ∨ ∃ g o, A = some ⟨g, o, none⟩) :
    Calls Try.prog 27 #[.agg #[.int .i64 m, .slice A n c], .int .i64 a, .int .i64 b] w (GivesB w (nearWI m xs a b) (nearWB m xs a b)) := by
  have HX := Lib.hid hnx
  clear hnx
  obtain ⟨i0, hi, hz0, hz1, hz2⟩ := info_parts infoInt
  go_enter Try.func27, Try.ntmps27
  have hb0 : Past w ((w.alloc (.cells #[.int .i64 m, .slice A n c] 30)).alloc (.cells #[.int .i64 a, .int .i64 b] 3)) := ((Past.refl _).alloc _).alloc _
  have hz : IntsAt ((w.alloc (.cells #[.int .i64 m, .slice A n c] 30)).alloc (.cells #[.int .i64 a, .int .i64 b] 3)) (some ⟨w.heap.size + 1, 0, none⟩) [a, b] := fun k y hk => by
    match k, hk with
    | 0, hk => simp at hk; subst hk; exact ⟨_, _, rfl, by go_simp⟩
    | 1, hk => simp at hk; subst hk; exact ⟨_, _, rfl, by go_simp⟩
    | k + 2, hk => simp at hk
  go_wp2_with fail
  refine (netHas_any m A n c xs _ 2 2 [a, b] _ hn HX.out (hx.below hb0) (by omega) rfl hz).mono ?_
  rintro e w1 ⟨rfl, hb1⟩
  have b0 := cell_in (p := ⟨w.heap.size, 0, none⟩) (v := .int .i64 m) hb1 (by go_simp)
  have b1 := cell_in (p := ⟨w.heap.size, 1, none⟩) (v := .slice A n c) hb1 (by go_simp)
  have hx1 := (hx.below hb0).below hb1
  have hp1 := hb0.trans hb1
  have hH : (netB m xs && [a, b].all (fun z => inB z 0 (m - 1))) = hereB2 m xs a b := by simp [hereB2, hereB, Bool.and_assoc]
  rw [hH]
  clear hH hb0 hz hb1
  cases hB : hereB2 m xs a b with
  | false =>
    have HB := Lib.hid hB
    clear hB
    go_wp2
    refine bodyPost_ret (v := .tuple #[.slice none 0 0, .bool false]) (by simp [results, Try.results27, go_sem]) rfl ?_
    exact ⟨_, by rw [nearWB, HB.out]; rfl, by rw [nearWI, HB.out]; exact Res.nil _ _, hp1⟩
  | true =>
    obtain ⟨hN, ⟨ha0, ha1⟩, hbb0, hbb1⟩ := (hereB2_iff _ _ _ _).1 hB
    obtain ⟨M, rfl, h3, h8⟩ := here_nat hN
    have hbh : hereB (M : Int) xs b = true := (hereB_iff _ _ _).2 ⟨hN, hbb0, hbb1⟩
    have h16 : n ≤ 16 := by rw [← HX.out]; exact ((netB_iff _ _).1 hN).2.1
    have HBH := Lib.hid hbh
    have HB := Lib.hid hB
    have HN := Lib.hid hN
    have HT := Lib.hid (treeL_of (arcsIn_net hN) ⟨hbb0, hbb1⟩ h8)
    clear hB hN hbh
    go_wp2_with fail
    refine (implNearTree_all (M : Int) A n c xs b _ hn HX.out hx1 ho).mono ?_
    rintro e W ⟨v2, rfl, hv2, hb2⟩
    have b0 := cell_in hb2 b0
    have b1 := cell_in hb2 b1
    have hxW := hx1.below hb2
    have hpW := hp1.trans hb2
    obtain ⟨Z, cz, rfl, hz2', _⟩ := hv2.form
    have htr : treeTI (M : Int) xs b = treeM M xs b := by rw [treeTI, HBH.out, if_pos rfl, Int.toNat_natCast]
    rw [htr, treeM_length]
    rw [htr] at hz2'
    have hcell : ∀ v : Int, 0 ≤ v → v < M → ∃ g o, Z = some ⟨g, o, none⟩ ∧ W.cell? ⟨g, o + v.toNat, none⟩ = some (.int .i64 (treeI xs (labsOf M xs b) v)) := fun v h0 h1 => by
      obtain ⟨g, o, e, h⟩ := hz2' v.toNat _ (treeM_get M xs b (v := v.toNat) (by omega))
      refine ⟨g, o, e, ?_⟩
      rw [h, show ((v.toNat : Nat) : Int) = v by omega]
    obtain ⟨gZ, oZ, rfl, _⟩ := hcell b hbb0 hbb1
    have hcell2 : ∀ v : Int, 0 ≤ v → v < M → W.cell? ⟨gZ, oZ + v.toNat, none⟩ = some (.int .i64 (treeI xs (labsOf M xs b) v)) := fun v h0 h1 => by
      obtain ⟨g, o, e, h⟩ := hcell v h0 h1
      injection e with e
      injection e with e1 e2
      subst e1 e2
      exact h
    obtain ⟨L, hL⟩ : ∃ L, L = labsOf M xs b := ⟨_, rfl⟩
    have hfar : farB M xs b a = decide (lab L a = farL) := by rw [hL]; rfl
    have hway : wayM M xs a b = if farB M xs b a then [] else wayL xs L b a := by rw [hL]; rfl
    rw [← hL] at hcell2 HT
    have HC := Lib.hid hcell2
    have HWAY := Lib.hid hway
    have HFAR := Lib.hid hfar
    have hgW : gZ < W.heap.size := lt_of_cell (hcell2 b hbb0 hbb1)
    clear hcell hcell2 hz2' hv2 htr hL hway hfar hb2 hx1
    go_wp2
    go_loopw [9, 10] (fun v q wr => ∃ (at' : Int) (zs : List Int), q = .int .i64 at' ∧ 0 ≤ at' ∧ at' < M ∧ (lab L at' = farL ↔ lab L a = farL) ∧ Res wr W.heap.size v zs ∧ (lab L a ≠ farL → wayL xs L b a = zs ++ wayL xs L b at') ∧ zs.length + (lab L at').x1.toNat ≤ 7 ∧ Past W wr) (fun _ q _ => (lab L (intOf q)).x1.toNat)
    case atStart => exact ⟨a, [], rfl, ha0, ha1, Iff.rfl, Res.nil _ _, fun _ => rfl, by have := HT.out.bound a ha0 ha1; simp; omega, Past.refl _⟩
    case round =>
      obtain ⟨at', zs, rfl, t0, t1, hiff, hv, hzs, hzl, hbr⟩ := hrel
      by_cases hat : at' = b
      · subst hat
        have hne : (at' != at') = false := by simp
        have hfa : lab L a ≠ farL := fun e => by
          have := hiff.2 e
          rw [HT.out.lab_to] at this
          unfold farL farI at this
          simp at this
        have hB2 : farB M xs at' a = false := by rw [HFAR.out]; simpa using hfa
        have hzs := hzs hfa
        rw [HT.out.wayL_to, List.append_nil] at hzs
        have HZ := Lib.hid hzs
        have HB2 := Lib.hid hB2
        clear hzs hB2 hne
        go_wp2
        refine bodyPost_ret (v := .tuple #[u9, .bool true]) (by simp [results, Try.results27, go_sem]) rfl ?_
        refine ⟨_, by rw [nearWB, HB.out, Int.toNat_natCast, HB2.out]; rfl, ?_, hpW.trans hbr⟩
        rw [nearWI, HB.out, if_pos rfl, Int.toNat_natCast, HWAY.out, HB2.out, if_neg (by simp), HZ.out]
        exact hv.lower hpW.size
      · have hne : (at' != b) = true := by simpa using hat
        have cA := cell_in hbr (HC.out at' t0 t1)
        by_cases hf : lab L at' = farL
        · have hB2 : farB M xs b a = true := by rw [HFAR.out]; simpa using hiff.1 hf
          rw [HT.out.none at' (.inr hf)] at cA
          have HB2 := Lib.hid hB2
          clear hB2 hf hiff
          go_wp2
          refine bodyPost_ret (v := .tuple #[.slice none 0 0, .bool false]) (by simp [results, Try.results27, go_sem]) rfl ?_
          refine ⟨_, by rw [nearWB, HB.out, Int.toNat_natCast, HB2.out]; rfl, ?_, hpW.trans hbr⟩
          rw [nearWI, HB.out, if_pos rfl, Int.toNat_natCast, HWAY.out, HB2.out, if_pos rfl]
          exact Res.nil _ _
        · obtain ⟨j, ⟨f1, t1', c1, l1, d1⟩, e1, e2, e3, e4, e5, _, e7, e8⟩ := HT.out.some at' hat hf t0 t1
          have hstep := HT.out.wayL_step hat e1 e2 e5
          have hbt := arcsIn_net HN.out _ (List.mem_of_getElem? e2)
          simp only at e4 e5 hbt hstep
          rw [e1] at cA
          have hjn : j < n := by rw [← HX.out]; exact (List.getElem?_eq_some_iff.1 e2).1
          have hbT := HT.out.bound t1' (by omega) (by omega)
          have hjn0 : ¬ ((j : Int) < 0) := by omega
          have j0 : (0 : Int) ≤ (j : Int) := by omega
          have j1 : (j : Int) < (n : Int) := by omega
          obtain ⟨gx, ox, rfl, _, c1', _, _, _⟩ := (hxW.below hbr) j _ e2
          have hgx : gx < w.heap.size := by
            obtain ⟨g'', o'', e, hh⟩ := hx j _ e2
            injection e with e
            injection e with e1 e2
            subst e1
            exact hh.lt
          have b1' := cell_in hbr b1
          have hs1 := hpW.size
          have hs2 := hbr.size
          have hwW : w.heap.size < W.heap.size := lt_of_cell b1
          have hvA : (wr.alloc (.cells #[.int .i64 (j : Int)] 3)).ownsRow W.heap.size 3 1 u9 zs.length (ints zs) := World.ownsRow.alloc hv _
          have hpa5 : Past wr (wr.alloc (.cells #[.int .i64 (j : Int)] 3)) := (Past.refl wr).alloc _
          have hb1' : ∀ w3, (wr.alloc (.cells #[.int .i64 (j : Int)] 3)).grownBy w3 u9.ownBlock → w3.cell? ⟨w.heap.size, 1, none⟩ = some (.slice (some ⟨gx, ox, none⟩) n c) := fun w3 hg => hg.cell (cell_in hpa5 b1') (own_ne (g := w.heap.size) hvA (by omega))
          have hc1' : ∀ w3, (wr.alloc (.cells #[.int .i64 (j : Int)] 3)).grownBy w3 u9.ownBlock → w3.cell? ⟨gx, ox + j * 5 + 1, none⟩ = some (.int .i64 t1') := fun w3 hg => hg.cell (cell_in hpa5 c1') (own_ne (g := gx) hvA (by omega))
          have HB1 := Lib.hid hb1'
          have HC1 := Lib.hid hc1'
          have HSTEP := Lib.hid hstep
          have HZS := Lib.hid hzs
          have hfa : lab L a ≠ farL := fun e => hf (hiff.2 e)
          obtain ⟨D, hD⟩ : ∃ D, D = zs.length := ⟨_, rfl⟩
          rw [← hD] at hvA hzl
          have HDD := Lib.hid hD
          clear hb1' hc1' hstep hzs e1 e2 e3 e7 e8 hD c1' hiff
          go_wp2_with (first | (at_builtin; refine wpList_append_own _ rfl _ _ 26 rfl W.heap.size 3 i0 (.int .i64 0) 1 8 Try.underlying26 hi hz0 hz1 hz2 rfl (by decide) _ _ _ rfl hvA ⟨wr.heap.size, 0, none⟩ 1 1 [.int .i64 (j : Int)] rfl rfl (cell_one_new _ _ _) (one_cell _) (by unfold maxLen; omega) (by omega) (by simp; omega) ?_; intro v' w3 hown' hgrow3 hnil3; have b1 := HB1.out _ hgrow3; have c1 := HC1.out _ hgrow3))
          go_roundw
          case rel =>
            refine ⟨t1', zs ++ [(j : Int)], by go_num, by omega, by omega, ⟨fun e => absurd e e4, fun e => absurd e hfa⟩, Res.push (by rw [← HDD.out]; exact hown'), fun _ => ?_, ?_, Past.grown (hbr.alloc _) hvA hgrow3 (Nat.le_refl _)⟩
            · rw [HZS.out hfa, HSTEP.out, List.append_assoc]; rfl
            · rw [List.length_append, ← HDD.out]; simp; omega
          case measure => simp only [intOf]; omega
theorem implNearWalk_any (m : Int) (g n c : Nat) (xs : List ArcD) (a b : Int) (w : World) (hn : n ≤ 1048576) (hnx : xs.length = n) (hx : ArcsAt w (some ⟨g, 0, none⟩) xs) :
    Calls Try.prog 27 #[.agg #[.int .i64 m, .slice (some ⟨g, 0, none⟩) n c], .int .i64 a, .int .i64 b] w (GivesB w (nearWI m xs a b) (nearWB m xs a b)) :=
  implNearWalk_all m _ n c xs a b w hn hnx hx (.inr ⟨_, _, rfl⟩)

end Go.Proofs.Ytokljfeoignbcaa

namespace Go.Proofs.Ytokljfeoignbcaa
open Go.RowKit

/-- Number k of a list; arc number i of a list. -/
def numOf (ys : List Int) (k : Nat) : Int := ys.getD k 0
def arcOf (xs : List ArcD) (i : Int) : ArcD := xs.getD i.toNat default

/-- Arc k of a walk is there, and begins where the one ahead ends. -/
def stepB (xs : List ArcD) (ys : List Int) (k : Nat) : Bool :=
  inB (numOf ys k) 0 ((xs.length : Int) - 1) && (k == 0 || (arcOf xs (numOf ys k)).f == (arcOf xs (numOf ys (k - 1))).t)

def walkB (xs : List ArcD) (ys : List Int) : Bool := decide (ys.length ≤ 20) && (List.range ys.length).all (stepB xs ys)

theorem walkB_iff (xs : List ArcD) (ys : List Int) : walkB xs ys = true ↔ ys.length ≤ 20 ∧ ∀ k, k < ys.length → stepB xs ys k = true := by simp [walkB]

/-- The first k arcs are right. -/
def StepsTo (xs : List ArcD) (ys : List Int) (k : Nat) : Prop := ∀ j, j < k → stepB xs ys j = true
theorem StepsTo.next {xs : List ArcD} {ys : List Int} {k : Nat} (h : StepsTo xs ys k) (hk : stepB xs ys k = true) : StepsTo xs ys (k + 1) := fun j hj => by
  rcases Nat.lt_or_ge j k with hlt | hge
  · exact h j hlt
  · obtain rfl : j = k := by omega
    exact hk
theorem walkB_bad {xs : List ArcD} {ys : List Int} {k : Nat} (hk : k < ys.length) (h : stepB xs ys k = false) : walkB xs ys = false := by
  rw [Bool.eq_false_iff]
  intro hw
  rw [((walkB_iff _ _).1 hw).2 k hk] at h
  cases h
theorem walkB_long {xs : List ArcD} {ys : List Int} (h : 20 < ys.length) : walkB xs ys = false := by
  rw [Bool.eq_false_iff]
  intro hw
  have := ((walkB_iff _ _).1 hw).1
  omega

theorem stepB_out {xs : List ArcD} {ys : List Int} {k : Nat} {y : Int} (hy : ys[k]? = some y) (h : inB y 0 ((xs.length : Int) - 1) = false) : stepB xs ys k = false := by
  simp [stepB, numOf, List.getD_eq_getElem?_getD, hy, h]
theorem stepB_first {xs : List ArcD} {ys : List Int} {y : Int} (hy : ys[0]? = some y) (h : inB y 0 ((xs.length : Int) - 1) = true) : stepB xs ys 0 = true := by
  simp [stepB, numOf, List.getD_eq_getElem?_getD, hy, h]
theorem stepB_in {xs : List ArcD} {ys : List Int} {k : Nat} {j j' : Nat} {a a' : ArcD} (hk : k ≠ 0) (hy : ys[k]? = some (j : Int)) (hy' : ys[k - 1]? = some (j' : Int)) (ha : xs[j]? = some a) (ha' : xs[j']? = some a') : stepB xs ys k = (a.f == a'.t) := by
  have h1 : inB (j : Int) 0 ((xs.length : Int) - 1) = true := (inB_iff _ _ _).2 (by have := (List.getElem?_eq_some_iff.1 ha).1; omega)
  simp [stepB, numOf, arcOf, List.getD_eq_getElem?_getD, hy, hy', ha, ha', h1, hk]

/-- What a right step tells: its arc is there. -/
theorem stepB_arc {xs : List ArcD} {ys : List Int} {k : Nat} {y : Int} (h : stepB xs ys k = true) (hy : ys[k]? = some y) : ∃ (j : Nat) (a : ArcD), y = j ∧ xs[j]? = some a := by
  have h1 : inB y 0 ((xs.length : Int) - 1) = true := by
    have := h
    simp [stepB, numOf, List.getD_eq_getElem?_getD, hy] at this
    exact this.1
  have := (inB_iff _ _ _).1 h1
  exact ⟨y.toNat, _, by omega, List.getElem?_eq_getElem (by omega)⟩

theorem in_arc {xs : List ArcD} {y : Int} (h : inB y 0 ((xs.length : Int) - 1) = true) : ∃ (j : Nat) (a : ArcD), y = j ∧ xs[j]? = some a := by
  have := (inB_iff _ _ _).1 h
  exact ⟨y.toNat, _, by omega, List.getElem?_eq_getElem (by omega)⟩

set_option maxHeartbeats 1000000 in
theorem l2Ok_wide (m : Int) (A B : Option Addr) (n c l cb : Nat) (xs : List ArcD) (ys : List Int) (w : World) (hn : n ≤ 1048576) (hl : l ≤ 2097152) (hnx : xs.length = n) (hny : ys.length = l) (hx : ArcsAt w A xs) (hy : IntsAt w B ys) :
    Calls Try.prog 67 #[.agg #[.int .i64 m, .slice A n c], .slice B l cb] w fun e w' => e = .returned (.bool (walkB xs ys)) ∧ Below w.heap.size w w' := by
  have HX := Lib.hid hnx
  have HY := Lib.hid hny
  clear hnx hny
  have hb0 : Past w (w.alloc (.cells #[.int .i64 m, .slice A n c] 30)) := (Past.refl _).alloc _
  go_enter Try.func67, Try.ntmps67
  go_wp2
  go_loopw [5] (fun i wr => ∃ k : Nat, k ≤ l ∧ i = .int .i64 k ∧ Past (w.alloc (.cells #[.int .i64 m, .slice A n c] 30)) wr ∧ StepsTo xs ys k) (fun i _ => l - (intOf i).toNat)
  case atStart => exact ⟨0, by omega, rfl, Past.refl _, fun j h => absurd h (by omega)⟩
  case round =>
    obtain ⟨k, hk, rfl, hb, hok⟩ := hrel
    have hz := hb.lt
    have b0 := cell_in (p := ⟨w.heap.size, 0, none⟩) (v := .int .i64 m) hb (by go_simp)
    have b1 := cell_in (p := ⟨w.heap.size, 1, none⟩) (v := .slice A n c) hb (by go_simp)
    by_cases hlt : k < l
    · obtain ⟨y, ha⟩ : ∃ a, ys[k]? = some a := ⟨_, List.getElem?_eq_getElem (by have := HY.out; omega)⟩
      obtain ⟨g, o, rfl, c0⟩ := ((hy.below hb0).below hb) k _ ha
      have HA := Lib.hid ha
      clear ha
      have i0 : (0 : Int) ≤ (k : Int) := by omega
      have i1 : (k : Int) < (l : Int) := by omega
      have w1 : IntKind.i64.wrap ((n : Int) - 1) = (n : Int) - 1 := IntWalk.i64_in _ (by omega)
      cases hB : inB y 0 ((n : Int) - 1) with
      | false =>
        have HB := Lib.hid hB
        clear hB
        have e1 : (!inB y 0 ((n : Int) - 1)) = true := by simp [HB.out]
        go_wp2_with fail
        go_quiet ((go_at_call 49; exact Calls.quiet_of_same ((l1In_any _ _ _ _).mono fun _ _ h => ⟨h.1, h.2.symm⟩)))
        go_wp2
        go_ret
        exact ⟨ret_bool (walkB_bad (k := k) (by have := HY.out; omega) (stepB_out HA.out (by rw [HX.out]; exact HB.out))).symm, hb0.trans (hb.drewN _)⟩
      | true =>
        obtain ⟨j, ⟨f, t, c', l', d⟩, rfl, hj⟩ := in_arc (xs := xs) (y := y) (by rw [HX.out]; exact hB)
        obtain ⟨g', o', rfl, d0, d1, d2, d3, d4⟩ := ((hx.below hb0).below hb) j _ hj
        have hjn : j < n := by rw [← HX.out]; exact (List.getElem?_eq_some_iff.1 hj).1
        have HJ := Lib.hid hj
        have HB := Lib.hid hB
        clear hB hj
        have e1 : (!inB (j : Int) 0 ((n : Int) - 1)) = false := by simp [HB.out]
        have j0 : (0 : Int) ≤ (j : Int) := by omega
        have j1 : (j : Int) < (n : Int) := by omega
        by_cases hk0 : k = 0
        · have k1 : decide (0 < k) = false := by simp; omega
          have HK := Lib.hid hk0
          clear hk0
          go_wp2_with fail
          go_quiet ((go_at_call 49; exact Calls.quiet_of_same ((l1In_any _ _ _ _).mono fun _ _ h => ⟨h.1, h.2.symm⟩)))
          go_wp2
          go_roundw
          case rel => exact ⟨k + 1, by omega, by go_num, hb.drewN _, hok.next (by have e := HK.out; subst e; exact stepB_first HA.out (by rw [HX.out]; exact HB.out))⟩
          case measure => simp [intOf]; omega
        · have hp : stepB xs ys (k - 1) = true := hok (k - 1) (by omega)
          obtain ⟨y', ha'⟩ : ∃ a, ys[k - 1]? = some a := ⟨_, List.getElem?_eq_getElem (by have := HY.out; omega)⟩
          obtain ⟨j', ⟨f', t', c'', l'', d'⟩, rfl, hj'⟩ := stepB_arc hp ha'
          obtain ⟨g'', o'', eg, e0, e1', e2, e3, e4⟩ := ((hx.below hb0).below hb) j' _ hj'
          injection eg with eg
          injection eg with eg1 eg2
          subst eg1 eg2
          obtain ⟨g3, o3, eg, c1⟩ := ((hy.below hb0).below hb) (k - 1) _ ha'
          injection eg with eg
          injection eg with eg1 eg2
          subst eg1 eg2
          have hjn' : j' < n := by rw [← HX.out]; exact (List.getElem?_eq_some_iff.1 hj').1
          have HS := Lib.hid (stepB_in hk0 HA.out ha' HJ.out hj')
          clear ha' hj' hp
          have k1 : decide (0 < k) = true := by simp; omega
          have k2 : IntKind.i64.wrap ((k : Int) - 1) = (k : Int) - 1 := IntWalk.i64_in _ (by omega)
          have k3 : (0 : Int) ≤ (k : Int) - 1 := by omega
          have k4 : (k : Int) - 1 < (l : Int) := by omega
          have k5 : ((k : Int) - 1).toNat = k - 1 := by omega
          have j2 : (0 : Int) ≤ (j' : Int) := by omega
          have j3 : (j' : Int) < (n : Int) := by omega
          go_wp2_with fail
          go_quiet ((go_at_call 49; exact Calls.quiet_of_same ((l1In_any _ _ _ _).mono fun _ _ h => ⟨h.1, h.2.symm⟩)))
          go_wp2
          case roundEnd =>
            go_roundw
            case rel => exact ⟨k + 1, by omega, by go_num, hb.drewN _, hok.next (by rw [HS.out]; simp_all)⟩
            case measure => simp [intOf]; omega
          all_goals go_ret
          all_goals exact ⟨ret_bool (walkB_bad (k := k) (by have := HY.out; omega) (by rw [HS.out]; simp_all)).symm, hb0.trans (hb.drewN _)⟩
    · obtain rfl : l = k := by omega
      go_wp2
      go_ret
      refine ⟨ret_bool ?_, hb0.trans hb⟩
      have hy' := HY.out
      by_cases h20 : l ≤ 20
      · rw [(walkB_iff xs ys).2 ⟨by omega, by rw [hy']; exact hok⟩]; simp; omega
      · rw [walkB_long (by omega)]; simp; omega

/-- The net is ok and the arcs are a walk. -/
def okB (m : Int) (xs : List ArcD) (ys : List Int) : Bool := netB m xs && walkB xs ys

theorem l2Ok_any (m : Int) (A B : Option Addr) (n c l cb : Nat) (xs : List ArcD) (ys : List Int) (w : World) (hn : n ≤ 1048576) (hl : l ≤ 1048576) (hnx : xs.length = n) (hny : ys.length = l) (hx : ArcsAt w A xs) (hy : IntsAt w B ys) :
    Calls Try.prog 67 #[.agg #[.int .i64 m, .slice A n c], .slice B l cb] w fun e w' => e = .returned (.bool (walkB xs ys)) ∧ Below w.heap.size w w' :=
  l2Ok_wide m A B n c l cb xs ys w hn (by omega) hnx hny hx hy

end Go.Proofs.Ytokljfeoignbcaa

namespace Go.Proofs.Ytokljfeoignbcaa
open Go.RowKit

theorem flip_eq {a b : Int} (h : (a != b) = false) : (b == a) = true := by simp at h; simp [h]
theorem flip_ne {a b : Int} (h : (a != b) = true) : (b == a) = false := by simp at h; simp; exact fun e => h e.symm

set_option maxHeartbeats 1000000 in
theorem walkOk_any (m : Int) (A B : Option Addr) (n c l cb : Nat) (xs : List ArcD) (ys : List Int) (w : World) (hn : n ≤ 1048576) (hl : l ≤ 2097152) (hnx : xs.length = n) (hny : ys.length = l) (hx : ArcsAt w A xs) (hy : IntsAt w B ys) :
    Calls Try.prog 71 #[.agg #[.int .i64 m, .slice A n c, .slice B l cb]] w fun e w' => e = .returned (.bool (okB m xs ys)) ∧ Below w.heap.size w w' := by
  have HX := Lib.hid hnx
  have HY := Lib.hid hny
  clear hnx hny
  have hb0 : Past w (w.alloc (.cells #[.int .i64 m, .slice A n c, .slice B l cb] 75)) := (Past.refl _).alloc _
  go_enter Try.func71, Try.ntmps71
  go_wp2_with fail
  refine (implNetOk_any m A n c xs _ hn HX.out (hx.below hb0)).mono ?_
  rintro e w1 ⟨rfl, hb1⟩
  have b0 := cell_in (p := ⟨w.heap.size, 0, none⟩) (v := .int .i64 m) hb1 (by go_simp)
  have b1 := cell_in (p := ⟨w.heap.size, 1, none⟩) (v := .slice A n c) hb1 (by go_simp)
  have b2 := cell_in (p := ⟨w.heap.size, 2, none⟩) (v := .slice B l cb) hb1 (by go_simp)
  cases hB : netB m xs with
  | false =>
    have HB := Lib.hid hB
    clear hB
    go_wp2
    go_ret
    exact ⟨ret_bool (by simp [okB, HB.out]), hb0.trans hb1⟩
  | true =>
    have HB := Lib.hid hB
    clear hB
    by_cases h20 : 20 < l
    · have h20' : (20 : Int) < (l : Int) := by omega
      go_wp2
      go_ret
      exact ⟨ret_bool (by simp [okB, HB.out, walkB_long (xs := xs) (ys := ys) (by rw [HY.out]; exact h20)]), hb0.trans hb1⟩
    have h20' : ¬ (20 : Int) < (l : Int) := by omega
    have hx1 := (hx.below hb0).below hb1
    have hy1 := (hy.below hb0).below hb1
    have hb01 := hb0.trans hb1
    clear hb1 hb0 hx hy
    go_wp2
    go_loopw [18] (fun i wr => ∃ k : Nat, k ≤ l ∧ i = .int .i64 k ∧ Past w1 wr ∧ StepsTo xs ys k) (fun i _ => l - (intOf i).toNat)
    case atStart => exact ⟨0, by omega, rfl, Past.refl _, fun j h => absurd h (by omega)⟩
    case round =>
      obtain ⟨k, hk, rfl, hb, hok⟩ := hrel
      have b0 := cell_in hb b0
      have b1 := cell_in hb b1
      have b2 := cell_in hb b2
      by_cases hlt : k < l
      · obtain ⟨y, ha⟩ : ∃ a, ys[k]? = some a := ⟨_, List.getElem?_eq_getElem (by have := HY.out; omega)⟩
        obtain ⟨g, o, rfl, c0⟩ := (hy1.below hb) k _ ha
        have HA := Lib.hid ha
        clear ha
        have i0 : (0 : Int) ≤ (k : Int) := by omega
        have i1 : (k : Int) < (l : Int) := by omega
        cases hB : inB y 0 ((n : Int) - 1) with
        | false =>
          have HB' := Lib.hid hB
          clear hB
          go_wp2_with fail
          refine (within_any _ _ _).mono ?_
          rintro e w2 ⟨rfl, rfl⟩
          rw [HB'.out]
          go_wp2
          go_ret
          exact ⟨ret_bool (by simp [okB, walkB_bad (xs := xs) (k := k) (by have := HY.out; omega) (stepB_out HA.out (by rw [HX.out]; exact HB'.out))]), hb01.trans hb⟩
        | true =>
          obtain ⟨j, ⟨f, t, c', l', d⟩, rfl, hj⟩ := in_arc (xs := xs) (y := y) (by rw [HX.out]; exact hB)
          obtain ⟨g', o', rfl, d0, d1, d2, d3, d4⟩ := (hx1.below hb) j _ hj
          have hjn : j < n := by rw [← HX.out]; exact (List.getElem?_eq_some_iff.1 hj).1
          have HJ := Lib.hid hj
          have HB' := Lib.hid hB
          clear hB hj
          have j0 : (0 : Int) ≤ (j : Int) := by omega
          have j1 : (j : Int) < (n : Int) := by omega
          go_wp2_with fail
          refine (within_any _ _ _).mono ?_
          rintro e w2 ⟨rfl, rfl⟩
          rw [HB'.out]
          by_cases hk0 : k = 0
          · have k1 : decide (0 < k) = false := by simp; omega
            have HK := Lib.hid hk0
            clear hk0
            go_wp2_with fail
            go_quiet (fail)
            go_wp2
            go_roundw
            case rel => exact ⟨k + 1, by omega, by go_num, hb.drewN _, hok.next (by have e := HK.out; subst e; exact stepB_first HA.out (by rw [HX.out]; exact HB'.out))⟩
            case measure => simp [intOf]; omega
          · have hp : stepB xs ys (k - 1) = true := hok (k - 1) (by omega)
            obtain ⟨y', ha'⟩ : ∃ a, ys[k - 1]? = some a := ⟨_, List.getElem?_eq_getElem (by have := HY.out; omega)⟩
            obtain ⟨j', ⟨f', t', c'', l'', d'⟩, rfl, hj'⟩ := stepB_arc hp ha'
            obtain ⟨g'', o'', eg, e0, e1', e2, e3, e4⟩ := (hx1.below hb) j' _ hj'
            injection eg with eg
            injection eg with eg1 eg2
            subst eg1 eg2
            obtain ⟨g3, o3, eg, c1⟩ := (hy1.below hb) (k - 1) _ ha'
            injection eg with eg
            injection eg with eg1 eg2
            subst eg1 eg2
            have hjn' : j' < n := by rw [← HX.out]; exact (List.getElem?_eq_some_iff.1 hj').1
            have HS := Lib.hid (stepB_in hk0 HA.out ha' HJ.out hj')
            clear ha' hj' hp
            have k1 : decide (0 < k) = true := by simp; omega
            have k2 : IntKind.i64.wrap ((k : Int) - 1) = (k : Int) - 1 := IntWalk.i64_in _ (by omega)
            have k3 : (0 : Int) ≤ (k : Int) - 1 := by omega
            have k4 : (k : Int) - 1 < (l : Int) := by omega
            have k5 : ((k : Int) - 1).toNat = k - 1 := by omega
            have j2 : (0 : Int) ≤ (j' : Int) := by omega
            have j3 : (j' : Int) < (n : Int) := by omega
            go_wp2_with fail
            go_quiet (fail)
            go_wp2
            case roundEnd =>
              go_roundw
              case rel => exact ⟨k + 1, by omega, by go_num, hb.drewN _, hok.next (by rw [HS.out]; exact flip_eq (a := t') (b := f) (by assumption))⟩
              case measure => simp [intOf]; omega
            all_goals go_ret
            all_goals exact ⟨ret_bool (by rw [okB, walkB_bad (k := k) (by have := HY.out; omega) (by rw [HS.out]; exact flip_ne (a := t') (b := f) (by assumption))]; simp), hb01.trans (hb.drewN _)⟩
      · obtain rfl : l = k := by omega
        go_wp2
        go_ret
        refine ⟨ret_bool ?_, hb01.trans hb⟩
        have hy' := HY.out
        rw [okB, HB.out, (walkB_iff xs ys).2 ⟨by omega, by rw [hy']; exact hok⟩]
        rfl

set_option maxHeartbeats 400000 in
theorem implWalkOk_wide (m : Int) (A B : Option Addr) (n c l cb : Nat) (xs : List ArcD) (ys : List Int) (w : World) (hn : n ≤ 1048576) (hl : l ≤ 2097152) (hnx : xs.length = n) (hny : ys.length = l) (hx : ArcsAt w A xs) (hy : IntsAt w B ys) :
    Calls Try.prog 42 #[.agg #[.int .i64 m, .slice A n c], .slice B l cb] w fun e w' => e = .returned (.bool (okB m xs ys)) ∧ Below w.heap.size w w' := by
  have HX := Lib.hid hnx
  have HY := Lib.hid hny
  clear hnx hny
  have hb0 : Past w (w.alloc (.cells #[.int .i64 m, .slice A n c] 30)) := (Past.refl _).alloc _
  go_enter Try.func42, Try.ntmps42
  go_wp2_with fail
  refine (walkOk_any m A B n c l cb xs ys _ hn hl HX.out HY.out (hx.below hb0) (hy.below hb0)).mono ?_
  rintro e w1 ⟨rfl, hb1⟩
  go_wp2
  go_ret
  exact ⟨rfl, hb0.trans hb1⟩

theorem implWalkOk_any (m : Int) (A B : Option Addr) (n c l cb : Nat) (xs : List ArcD) (ys : List Int) (w : World) (hn : n ≤ 1048576) (hl : l ≤ 1048576) (hnx : xs.length = n) (hny : ys.length = l) (hx : ArcsAt w A xs) (hy : IntsAt w B ys) :
    Calls Try.prog 42 #[.agg #[.int .i64 m, .slice A n c], .slice B l cb] w fun e w' => e = .returned (.bool (okB m xs ys)) ∧ Below w.heap.size w w' :=
  implWalkOk_wide m A B n c l cb xs ys w hn (by omega) hnx hny hx hy

end Go.Proofs.Ytokljfeoignbcaa

namespace Go.Proofs.Ytokljfeoignbcaa
open Go.RowKit

/-- What the first k arcs cost. -/
def sumTo (xs : List ArcD) (ys : List Int) : Nat → Int
  | 0 => 0
  | k + 1 => sumTo xs ys k + (arcOf xs (numOf ys k)).c

/-- What arcs cost; -1: they are no walk. -/
def costI (m : Int) (xs : List ArcD) (ys : List Int) : Int := if okB m xs ys then sumTo xs ys ys.length else -1

theorem okB_iff (m : Int) (xs : List ArcD) (ys : List Int) : okB m xs ys = true ↔ netB m xs = true ∧ walkB xs ys = true := by simp [okB]

/-- An arc of a walk: it is there, and costs 0 to 99. -/
theorem ok_arc {m : Int} {xs : List ArcD} {ys : List Int} {k : Nat} {y : Int} (h : okB m xs ys = true) (hy : ys[k]? = some y) : ∃ (j : Nat) (a : ArcD), y = j ∧ xs[j]? = some a ∧ 0 ≤ a.c ∧ a.c ≤ 99 ∧ arcOf xs (numOf ys k) = a := by
  obtain ⟨h1, h2⟩ := (okB_iff _ _ _).1 h
  obtain ⟨j, a, rfl, ha⟩ := stepB_arc (((walkB_iff _ _).1 h2).2 k (List.getElem?_eq_some_iff.1 hy).1) hy
  have hb := ((netB_iff _ _).1 h1).2.2 a (List.mem_of_getElem? ha)
  have hc : 0 ≤ a.c ∧ a.c ≤ 99 := by
    simp [arcB, inB_iff] at hb
    exact hb.2.2.2.1
  exact ⟨j, a, rfl, ha, hc.1, hc.2, by simp [arcOf, numOf, List.getD_eq_getElem?_getD, hy, ha]⟩

theorem sumTo_bd {m : Int} {xs : List ArcD} {ys : List Int} (h : okB m xs ys = true) : ∀ k, k ≤ ys.length → 0 ≤ sumTo xs ys k ∧ sumTo xs ys k ≤ 99 * k
  | 0, _ => by simp [sumTo]
  | k + 1, hk => by
    have ih := sumTo_bd h k (by omega)
    obtain ⟨j, a, _, _, h0, h1, e⟩ := ok_arc h (List.getElem?_eq_getElem (show k < ys.length by omega))
    simp only [sumTo, e]
    omega

theorem ok_len {m : Int} {xs : List ArcD} {ys : List Int} (h : okB m xs ys = true) : ys.length ≤ 20 := ((walkB_iff _ _).1 ((okB_iff _ _ _).1 h).2).1
theorem ok_num {m : Int} {xs : List ArcD} {ys : List Int} (h : okB m xs ys = true) : xs.length ≤ 16 := ((netB_iff _ _).1 ((okB_iff _ _ _).1 h).1).2.1

set_option maxHeartbeats 1000000 in
theorem walkCost_any (m : Int) (A B : Option Addr) (n c l cb : Nat) (xs : List ArcD) (ys : List Int) (w : World) (hnx : xs.length = n) (hny : ys.length = l) (hx : ArcsAt w A xs) (hy : IntsAt w B ys) (ho : okB m xs ys = true) :
    Calls Try.prog 64 #[.agg #[.int .i64 m, .slice A n c, .slice B l cb]] w fun e w' => e = .returned (.int .i64 (sumTo xs ys l)) ∧ Below w.heap.size w w' := by
  have h20 := ok_len ho
  have h16 := ok_num ho
  rw [hny] at h20
  rw [hnx] at h16
  have HX := Lib.hid hnx
  have HY := Lib.hid hny
  have HO := Lib.hid ho
  clear hnx hny ho
  have hb0 : Past w (w.alloc (.cells #[.int .i64 m, .slice A n c, .slice B l cb] 75)) := (Past.refl _).alloc _
  go_enter Try.func64, Try.ntmps64
  go_wp2
  go_loopw [3, 9] (fun s i wr => ∃ k : Nat, k ≤ l ∧ i = .int .i64 k ∧ s = .int .i64 (sumTo xs ys k) ∧ Past (w.alloc (.cells #[.int .i64 m, .slice A n c, .slice B l cb] 75)) wr) (fun _ i _ => l - (intOf i).toNat)
  case atStart => exact ⟨0, by omega, rfl, rfl, Past.refl _⟩
  case round =>
    obtain ⟨k, hk, rfl, rfl, hb⟩ := hrel
    have hz := hb.lt
    have b0 := cell_in (p := ⟨w.heap.size, 0, none⟩) (v := .int .i64 m) hb (by go_simp)
    have b1 := cell_in (p := ⟨w.heap.size, 1, none⟩) (v := .slice A n c) hb (by go_simp)
    have b2 := cell_in (p := ⟨w.heap.size, 2, none⟩) (v := .slice B l cb) hb (by go_simp)
    have hs := sumTo_bd HO.out k (by rw [HY.out]; exact hk)
    by_cases hlt : k < l
    · obtain ⟨y, ha⟩ : ∃ a, ys[k]? = some a := ⟨_, List.getElem?_eq_getElem (by have := HY.out; omega)⟩
      obtain ⟨g, o, rfl, c0⟩ := ((hy.below hb0).below hb) k _ ha
      obtain ⟨j, ⟨f, t, c', l', d⟩, rfl, hj, q0, q1, he⟩ := ok_arc HO.out ha
      obtain ⟨g', o', rfl, d0, d1, d2, d3, d4⟩ := ((hx.below hb0).below hb) j _ hj
      have hjn : j < n := by rw [← HX.out]; exact (List.getElem?_eq_some_iff.1 hj).1
      have HE := Lib.hid he
      clear ha hj he
      simp only at q0 q1
      have i0 : (0 : Int) ≤ (k : Int) := by omega
      have i1 : (k : Int) < (l : Int) := by omega
      have j0 : (0 : Int) ≤ (j : Int) := by omega
      have j1 : (j : Int) < (n : Int) := by omega
      go_wp2
      go_roundw
      case rel => exact ⟨k + 1, by omega, by go_num, by simp only [sumTo, HE.out], hb⟩
      case measure => simp [intOf]; omega
    · obtain rfl : l = k := by omega
      go_wp2
      go_ret
      exact ⟨rfl, hb0.trans hb⟩

set_option maxHeartbeats 400000 in
theorem implWalkCost_any (m : Int) (A B : Option Addr) (n c l cb : Nat) (xs : List ArcD) (ys : List Int) (w : World) (hn : n ≤ 1048576) (hl : l ≤ 1048576) (hnx : xs.length = n) (hny : ys.length = l) (hx : ArcsAt w A xs) (hy : IntsAt w B ys) :
    Calls Try.prog 36 #[.agg #[.int .i64 m, .slice A n c], .slice B l cb] w fun e w' => e = .returned (.int .i64 (costI m xs ys)) ∧ Below w.heap.size w w' := by
  have HX := Lib.hid hnx
  have HY := Lib.hid hny
  clear hnx hny
  have hb0 : Past w (w.alloc (.cells #[.int .i64 m, .slice A n c] 30)) := (Past.refl _).alloc _
  go_enter Try.func36, Try.ntmps36
  go_wp2_with fail
  refine (implWalkOk_any m A B n c l cb xs ys _ hn hl HX.out HY.out (hx.below hb0) (hy.below hb0)).mono ?_
  rintro e w1 ⟨rfl, hb1⟩
  have b0 := cell_in (p := ⟨w.heap.size, 0, none⟩) (v := .int .i64 m) hb1 (by go_simp)
  have b1 := cell_in (p := ⟨w.heap.size, 1, none⟩) (v := .slice A n c) hb1 (by go_simp)
  cases hB : okB m xs ys with
  | false =>
    have HB := Lib.hid hB
    clear hB
    go_wp2
    go_ret
    exact ⟨ret_int (by simp [costI, HB.out]), hb0.trans hb1⟩
  | true =>
    have HB := Lib.hid hB
    clear hB
    go_wp2_with fail
    refine (walkCost_any m A B n c l cb xs ys _ HX.out HY.out ((hx.below hb0).below hb1) ((hy.below hb0).below hb1) HB.out).mono ?_
    rintro e w2 ⟨rfl, hb2⟩
    go_wp2
    go_ret
    exact ⟨ret_int (by rw [costI, if_pos HB.out, HY.out]), hb0.trans (Past.trans hb1 hb2)⟩

end Go.Proofs.Ytokljfeoignbcaa

namespace Go.Proofs.Ytokljfeoignbcaa
open Go.RowKit

theorem numOf_take {ys : List Int} {k j : Nat} (h : j < k) : numOf (ys.take k) j = numOf ys j := by simp only [numOf, List.getD_eq_getElem?_getD]; rw [List.getElem?_take_of_lt h]
theorem numOf_drop {ys : List Int} {k j : Nat} : numOf (ys.drop k) j = numOf ys (k + j) := by simp only [numOf, List.getD_eq_getElem?_getD]; rw [List.getElem?_drop]

theorem ok_take {m : Int} {xs : List ArcD} {ys : List Int} (h : okB m xs ys = true) (k : Nat) : okB m xs (ys.take k) = true := by
  obtain ⟨hn, hw⟩ := (okB_iff m xs ys).1 h
  obtain ⟨hl, hs⟩ := (walkB_iff xs ys).1 hw
  refine (okB_iff m xs _).2 ⟨hn, (walkB_iff xs _).2 ⟨by rw [List.length_take]; omega, fun j hj => ?_⟩⟩
  rw [List.length_take] at hj
  have := hs j (by omega)
  unfold stepB at this ⊢
  rw [numOf_take (by omega), numOf_take (by omega)]
  exact this

theorem ok_drop {m : Int} {xs : List ArcD} {ys : List Int} (h : okB m xs ys = true) (k : Nat) : okB m xs (ys.drop k) = true := by
  obtain ⟨hn, hw⟩ := (okB_iff m xs ys).1 h
  obtain ⟨hl, hs⟩ := (walkB_iff xs ys).1 hw
  refine (okB_iff m xs _).2 ⟨hn, (walkB_iff xs _).2 ⟨by rw [List.length_drop]; omega, fun j hj => ?_⟩⟩
  rw [List.length_drop] at hj
  have := hs (k + j) (by omega)
  unfold stepB at this ⊢
  rw [numOf_drop]
  by_cases h0 : j = 0
  · subst h0
    simp only [Bool.and_eq_true] at this ⊢
    exact ⟨this.1, rfl⟩
  · rw [numOf_drop, show k + (j - 1) = k + j - 1 by omega]
    simp only [Bool.and_eq_true, Bool.or_eq_true, beq_iff_eq] at this ⊢
    refine ⟨this.1, .inr ?_⟩
    rcases this.2 with h1 | h1
    · omega
    · exact h1

end Go.Proofs.Ytokljfeoignbcaa

namespace Go.Proofs.Ytokljfeoignbcaa
open Go.RowKit

theorem sumTo_take (xs : List ArcD) (ys : List Int) (K : Nat) : ∀ k, k ≤ K → sumTo xs (ys.take K) k = sumTo xs ys k
  | 0, _ => rfl
  | k + 1, hk => by rw [sumTo, sumTo, sumTo_take xs ys K k (by omega), numOf_take (by omega)]

theorem sumTo_drop (xs : List ArcD) (ys : List Int) (K : Nat) : ∀ k, sumTo xs ys K + sumTo xs (ys.drop K) k = sumTo xs ys (K + k)
  | 0 => by simp [sumTo]
  | k + 1 => by
    have := sumTo_drop xs ys K k
    rw [sumTo, numOf_drop, ← Int.add_assoc, this]
    rfl

theorem cost_cut {m : Int} {xs : List ArcD} {ys : List Int} (h : okB m xs ys = true) {K : Nat} (hK : K ≤ ys.length) : costI m xs (ys.take K) + costI m xs (ys.drop K) = costI m xs ys := by
  have ht : (ys.take K).length = K := by rw [List.length_take]; omega
  rw [costI, if_pos (ok_take h K), costI, if_pos (ok_drop h K), costI, if_pos h, ht, List.length_drop, sumTo_take _ _ _ _ (Nat.le_refl K), sumTo_drop, show K + (ys.length - K) = ys.length by omega]

theorem cost_bd {m : Int} {xs : List ArcD} {ys : List Int} (h : okB m xs ys = true) : 0 ≤ costI m xs ys ∧ costI m xs ys ≤ 1980 := by
  rw [costI, if_pos h]
  have := sumTo_bd h ys.length (Nat.le_refl _)
  have := ok_len h
  omega

end Go.Proofs.Ytokljfeoignbcaa

namespace Go.Proofs.Ytokljfeoignbcaa
open Go.RowKit

/-- Where a walk begins, and the ends of its first k arcs. -/
def nodesTo (xs : List ArcD) (ys : List Int) (from_ : Int) (k : Nat) : List Int := from_ :: (List.range k).map fun i => (arcOf xs (numOf ys i)).t
theorem nodesTo_length (xs : List ArcD) (ys : List Int) (f : Int) (k : Nat) : (nodesTo xs ys f k).length = k + 1 := by simp [nodesTo]
theorem nodesTo_next (xs : List ArcD) (ys : List Int) (f : Int) (k : Nat) : nodesTo xs ys f (k + 1) = nodesTo xs ys f k ++ [(arcOf xs (numOf ys k)).t] := by simp [nodesTo, List.range_succ]


end Go.Proofs.Ytokljfeoignbcaa

namespace Go.Proofs.Ytokljfeoignbcaa
open Go.RowKit

/-- The nodes of a walk that has an arc. -/
def nodesW (xs : List ArcD) (ys : List Int) : List Int := if ys.length = 0 then [] else nodesTo xs ys (arcOf xs (numOf ys 0)).f ys.length
def nodesI (m : Int) (xs : List ArcD) (ys : List Int) : List Int := if okB m xs ys then nodesW xs ys else []

theorem nodesI_len (m : Int) (xs : List ArcD) (ys : List Int) : (nodesI m xs ys).length ≤ 1048576 := by
  unfold nodesI
  split
  · rename_i h
    have := ok_len h
    unfold nodesW
    split
    · simp
    · rw [nodesTo_length]; omega
  · simp

set_option maxRecDepth 100000 in
set_option maxHeartbeats 1000000 in
theorem walkNodes_any (m : Int) (A B : Option Addr) (n c l cb : Nat) (xs : List ArcD) (ys : List Int) (w : World) (hnx : xs.length = n) (hny : ys.length = l) (hx : ArcsAt w A xs) (hy : IntsAt w B ys) (ho : okB m xs ys = true) :
    Calls Try.prog 87 #[.agg #[.int .i64 m, .slice A n c, .slice B l cb]] w (Gives w (nodesW xs ys)) := by
  have h20 := ok_len ho
  have h16 := ok_num ho
  rw [hny] at h20
  rw [hnx] at h16
  have HX := Lib.hid hnx
  have HY := Lib.hid hny
  have HO := Lib.hid ho
  clear hnx hny ho
  obtain ⟨i0, hi, hz0, hz1, hz2⟩ := info_parts infoInt
  have hb0 : Past w (w.alloc (.cells #[.int .i64 m, .slice A n c, .slice B l cb] 75)) := (Past.refl _).alloc _
  by_cases hl0 : l = 0
  · have HZ := Lib.hid hl0
    have hl0' : ((l : Int) == 0) = true := by simp; omega
    clear hl0
    go_enter Try.func87, Try.ntmps87
    go_wp2
    go_ret
    exact ⟨_, rfl, by rw [nodesW, if_pos (by rw [HY.out, HZ.out])]; exact Res.nil _ _, hb0⟩
  have hl0' : ((l : Int) == 0) = false := by simp; omega
  obtain ⟨y0, ha0⟩ : ∃ a, ys[0]? = some a := ⟨_, List.getElem?_eq_getElem (by have := HY.out; omega)⟩
  obtain ⟨g, o, rfl, c0⟩ := hy 0 _ ha0
  obtain ⟨j0, ⟨f0, t0, c0', l0', d0'⟩, rfl, hj0, _, _, he0⟩ := ok_arc HO.out ha0
  obtain ⟨g', o', rfl, d0, d1, d2, d3, d4⟩ := hx j0 _ hj0
  have hjn0 : j0 < n := by rw [← HX.out]; exact (List.getElem?_eq_some_iff.1 hj0).1
  have HE0 := Lib.hid he0
  have lg : g < w.heap.size := lt_of_cell c0
  have lg' : g' < w.heap.size := lt_of_cell d0
  simp only [Nat.add_zero] at c0
  clear ha0 hj0 he0 d1 d2 d3 d4
  have r0 : (0 : Int) < (l : Int) := by omega
  have r0n : 0 < l := by omega
  have r1 : (0 : Int) ≤ (j0 : Int) := by omega
  have r2 : (j0 : Int) < (n : Int) := by omega
  have HW : Hid (nodesW xs ys = nodesTo xs ys f0 l) := by rw [Hid, nodesW, if_neg (by rw [HY.out]; exact hl0), HE0.out, HY.out]
  go_enter Try.func87, Try.ntmps87
  obtain ⟨W, hW⟩ : ∃ W, W = w.alloc (.cells #[.int .i64 m, .slice (some ⟨g', o', none⟩) n c, .slice (some ⟨g, o, none⟩) l cb] 75) := ⟨_, rfl⟩
  go_wp2_with fail
  rw [← hW]
  rw [← hW] at hb0
  have hzW : w.heap.size + 1 ≤ W.heap.size := by rw [hW]; simp
  have hzL : w.heap.size < W.heap.size := hzW
  have hzE : W.heap.size ≤ w.heap.size + 1 := by rw [hW]; simp
  have b0 : W.cell? ⟨w.heap.size, 0, none⟩ = some (.int .i64 m) := by rw [hW]; go_simp
  have b1 : W.cell? ⟨w.heap.size, 1, none⟩ = some (.slice (some ⟨g', o', none⟩) n c) := by rw [hW]; go_simp
  have b2 : W.cell? ⟨w.heap.size, 2, none⟩ = some (.slice (some ⟨g, o, none⟩) l cb) := by rw [hW]; go_simp
  have c0 := cell_in hb0 c0
  have d0 := cell_in hb0 d0
  clear hW
  go_still_tail 10, (by kernel_rfl)
  change wpList _ _ _ _ _ W.drew
  clear c0 d0
  go_wp2
  go_loopw [3, 24] (fun v i wr => ∃ k : Nat, k ≤ l ∧ i = .int .i64 k ∧ Res wr (w.heap.size + 1) v (nodesTo xs ys f0 k) ∧ Past W wr) (fun _ i _ => l - (intOf i).toNat)
  case atStart => exact ⟨0, by omega, rfl, by have := (Res.one W (w.heap.size + 1) f0 hzW).drew; simpa [nodesTo] using this, ((Past.refl _).alloc _).drew⟩
  case round =>
    obtain ⟨k, hk, rfl, hv, hb⟩ := hrel
    have hz : w.heap.size < wr.heap.size := Nat.le_trans hzW hb.size
    have b0 := cell_in hb b0
    have b1 := cell_in hb b1
    have b2 := cell_in hb b2
    by_cases hlt : k < l
    · obtain ⟨y, ha⟩ : ∃ a, ys[k]? = some a := ⟨_, List.getElem?_eq_getElem (by have := HY.out; omega)⟩
      obtain ⟨g1, o1, eg, c0⟩ := ((hy.below hb0).below hb) k _ ha
      injection eg with eg
      injection eg with eg1 eg2
      subst eg1 eg2
      obtain ⟨j, ⟨f, t, c', l', d⟩, rfl, hj, q0, q1, he⟩ := ok_arc HO.out ha
      obtain ⟨g1, o1, eg, d0, d1, d2, d3, d4⟩ := ((hx.below hb0).below hb) j _ hj
      injection eg with eg
      injection eg with eg1 eg2
      subst eg1 eg2
      have hjn : j < n := by rw [← HX.out]; exact (List.getElem?_eq_some_iff.1 hj).1
      have HE := Lib.hid he
      clear ha hj he q0 q1
      have i0' : (0 : Int) ≤ (k : Int) := by omega
      have i1 : (k : Int) < (l : Int) := by omega
      have j0 : (0 : Int) ≤ (j : Int) := by omega
      have j1 : (j : Int) < (n : Int) := by omega
      have hkl := nodesTo_length xs ys f0 k
      unfold Res at hv
      rw [hkl] at hv
      clear hkl
      go_wp2_with (first | (at_builtin; refine wpList_append_own _ rfl _ _ 26 rfl (w.heap.size + 1) 3 i0 (.int .i64 0) 1 8 Try.underlying26 hi hz0 hz1 hz2 rfl (by decide) _ _ _ rfl (hv.alloc _) ⟨wr.heap.size, 0, none⟩ 1 1 [.int .i64 t] rfl rfl (cell_one_new _ _ _) (one_cell t) (by unfold maxLen; omega) (by omega) (by simp; omega) ?_; intro v' w3 hown' hgrow3 hnil3))
      go_roundw
      case rel => exact ⟨k + 1, by omega, by go_num, Res.step hown' (nodesTo_length ..) (by rw [nodesTo_next, HE.out]), Past.grown (hb.alloc _) (hv.alloc _) hgrow3 hzE⟩
      case measure => simp [intOf]; omega
    · obtain rfl : l = k := by omega
      go_wp2
      go_ret
      exact ⟨_, rfl, by rw [HW.out]; exact hv.lower (by omega), hb0.trans hb⟩


end Go.Proofs.Ytokljfeoignbcaa

namespace Go.Proofs.Ytokljfeoignbcaa
open Go.RowKit

/-- i is where x stands last in a list. -/
def IsLast (nd : List Int) (x : Int) (i : Nat) : Prop := nd[i]? = some x ∧ ∀ j, i < j → nd[j]? ≠ some x

/-- Where x stands last among the first k + 1. -/
def lastFrom (nd : List Int) (x : Int) : Nat → Nat
  | 0 => 0
  | k + 1 => if nd[k + 1]? = some x then k + 1 else lastFrom nd x k
def lastIx (nd : List Int) (x : Int) : Nat := lastFrom nd x nd.length

theorem lastFrom_eq {nd : List Int} {x : Int} {i : Nat} (h : IsLast nd x i) : ∀ k, i ≤ k → lastFrom nd x k = i
  | 0, hk => by simp [lastFrom]; omega
  | k + 1, hk => by
    unfold lastFrom
    split
    · rename_i h1
      rcases Nat.lt_or_ge i (k + 1) with hlt | hge
      · exact absurd h1 (h.2 _ hlt)
      · omega
    · rename_i h1
      have : i ≠ k + 1 := fun e => by subst e; exact h1 h.1
      exact lastFrom_eq h k (by omega)
theorem lastIx_eq {nd : List Int} {x : Int} {i : Nat} (h : IsLast nd x i) : lastIx nd x = i :=
  lastFrom_eq h _ (Nat.le_of_lt (List.getElem?_eq_some_iff.1 h.1).1)

theorem lastFrom_spec {nd : List Int} {x : Int} {s : Nat} (hs : nd[s]? = some x) : ∀ k, s ≤ k → (∀ j, k < j → nd[j]? ≠ some x) → IsLast nd x (lastFrom nd x k) ∧ s ≤ lastFrom nd x k
  | 0, hk, h => by
    obtain rfl : s = 0 := by omega
    exact ⟨⟨hs, h⟩, Nat.le_refl _⟩
  | k + 1, hk, h => by
    unfold lastFrom
    split
    · rename_i h1
      exact ⟨⟨h1, h⟩, hk⟩
    · rename_i h1
      have hne : s ≠ k + 1 := fun e => by subst e; exact h1 hs
      refine lastFrom_spec hs k (by omega) (fun j hj => ?_)
      rcases Nat.lt_or_ge (k + 1) j with hlt | hge
      · exact h j hlt
      · obtain rfl : j = k + 1 := by omega
        exact h1
theorem lastIx_spec {nd : List Int} {x : Int} {s : Nat} (hs : nd[s]? = some x) : IsLast nd x (lastIx nd x) ∧ s ≤ lastIx nd x :=
  lastFrom_spec hs _ (Nat.le_of_lt (List.getElem?_eq_some_iff.1 hs).1) (fun j hj => by rw [List.getElem?_eq_none (by omega)]; simp)

/-- What is left of a walk from node s on. -/
def plainFrom (nd ys : List Int) : Nat → Nat → List Int
  | 0, _ => []
  | fuel + 1, s => if lastIx nd (numOf nd s) < ys.length then numOf ys (lastIx nd (numOf nd s)) :: plainFrom nd ys fuel (lastIx nd (numOf nd s) + 1) else []

def plainW (xs : List ArcD) (ys : List Int) : List Int := plainFrom (nodesW xs ys) ys (ys.length + 1) 0
def plainI (m : Int) (xs : List ArcD) (ys : List Int) : List Int := if okB m xs ys then (if ys.length = 0 then [] else plainW xs ys) else []

set_option maxHeartbeats 400000 in
theorem lastIndex_any (A : Option Addr) (n c : Nat) (nd : List Int) (x : Int) (i : Nat) (w : World) (hn : n ≤ 1048576) (hl : nd.length = n) (hx : IntsAt w A nd) (hi : IsLast nd x i) :
    Calls Try.prog 88 #[.slice A n c, .int .i64 x] w fun e w' => e = .returned (.int .i64 i) ∧ w = w' := by
  have hlt : i < n := by rw [← hl]; exact (List.getElem?_eq_some_iff.1 hi.1).1
  have HL := Lib.hid hl
  clear hl
  go_enter Try.func88, Try.ntmps88
  go_wp2
  go_loop [5] (fun q => ∃ k : Nat, i ≤ k ∧ k < n ∧ q = .int .i64 k) (fun q => (intOf q).toNat)
  case atStart => exact ⟨n - 1, by omega, by omega, by congr 1; omega⟩
  case round =>
    obtain ⟨k, hik, hkn, rfl⟩ := hrel
    obtain ⟨y, ha⟩ : ∃ a, nd[k]? = some a := ⟨_, List.getElem?_eq_getElem (by have := HL.out; omega)⟩
    obtain ⟨g, o, rfl, c0⟩ := hx k _ ha
    by_cases he : i = k
    · have hyx : y = x := by
        have := hi.1
        rw [he, ha] at this
        injection this
      subst hyx
      have HE := Lib.hid he
      clear ha he
      go_wp2
      go_ret
      exact ⟨ret_int (by rw [HE.out]), rfl⟩
    · have hyx : (y == x) = false := by
        simp only [beq_eq_false_iff_ne, ne_eq]
        intro e
        subst e
        exact hi.2 k (by omega) ha
      clear ha
      go_wp2
      go_round
      case rel => exact ⟨k - 1, by omega, by omega, by congr 1; omega⟩
      case measure => simp [intOf]; omega

theorem nodesW_length {xs : List ArcD} {ys : List Int} (h : ys.length ≠ 0) : (nodesW xs ys).length = ys.length + 1 := by rw [nodesW, if_neg h, nodesTo_length]
theorem nodesW_to {xs : List ArcD} {ys : List Int} {k : Nat} (hk : k < ys.length) : (nodesW xs ys)[k + 1]? = some (arcOf xs (numOf ys k)).t := by
  rw [nodesW, if_neg (by omega)]
  simp [nodesTo, hk]
theorem nodesW_from {m : Int} {xs : List ArcD} {ys : List Int} {k : Nat} (ho : okB m xs ys = true) (hk : k < ys.length) : (nodesW xs ys)[k]? = some (arcOf xs (numOf ys k)).f := by
  cases k with
  | zero => rw [nodesW, if_neg (by omega)]; simp [nodesTo]
  | succ k =>
    rw [nodesW_to (by omega)]
    have h := ((walkB_iff _ _).1 ((okB_iff _ _ _).1 ho).2).2 (k + 1) hk
    simp [stepB] at h
    rw [h.2]

theorem numOf_at {zs : List Int} {k : Nat} {x : Int} (h : zs[k]? = some x) : numOf zs k = x := by simp [numOf, List.getD_eq_getElem?_getD, h]
theorem at_numOf {zs : List Int} {k : Nat} (h : k < zs.length) : zs[k]? = some (numOf zs k) := by simp [numOf, List.getD_eq_getElem?_getD, List.getElem?_eq_getElem h]

theorem plainFrom_len (nd ys : List Int) : ∀ fuel s, (plainFrom nd ys fuel s).length ≤ fuel
  | 0, _ => by simp [plainFrom]
  | fuel + 1, s => by
    unfold plainFrom
    split
    · simp only [List.length_cons]
      have := plainFrom_len nd ys fuel (lastIx nd (numOf nd s) + 1)
      omega
    · simp
theorem plainI_len (m : Int) (xs : List ArcD) (ys : List Int) : (plainI m xs ys).length ≤ 1048576 := by
  unfold plainI
  split
  · rename_i h
    have := ok_len h
    split
    · simp
    · have := plainFrom_len (nodesW xs ys) ys (ys.length + 1) 0
      unfold plainW
      omega
  · simp

/-- What was kept so far, and what is still to come from node s on, are the whole. -/
structure PlainAt (nd ys tot done : List Int) (s fuel : Nat) : Prop where
  whole : done ++ plainFrom nd ys fuel s = tot
  enough : ys.length + 1 ≤ fuel + s
  inside : s ≤ ys.length

theorem PlainAt.next {nd ys tot done : List Int} {s fuel i : Nat} (h : PlainAt nd ys tot done s fuel) (hi : IsLast nd (numOf nd s) i) (hs : s ≤ i) (hlt : i < ys.length) : ∃ fuel', PlainAt nd ys tot (done ++ [numOf ys i]) (i + 1) fuel' := by
  obtain ⟨h1, h2, h3⟩ := h
  cases fuel with
  | zero => omega
  | succ fuel =>
    refine ⟨fuel, ?_, by omega, by omega⟩
    rw [← h1]
    conv => rhs; unfold plainFrom
    rw [lastIx_eq hi, if_pos hlt]
    simp
theorem PlainAt.stop {nd ys tot done : List Int} {s fuel i : Nat} (h : PlainAt nd ys tot done s fuel) (hi : IsLast nd (numOf nd s) i) (hge : ys.length ≤ i) : done = tot := by
  obtain ⟨h1, h2, h3⟩ := h
  cases fuel with
  | zero => omega
  | succ fuel =>
    rw [← h1]
    unfold plainFrom
    rw [lastIx_eq hi, if_neg (by omega)]
    simp
theorem PlainAt.len {nd ys tot done : List Int} {s fuel : Nat} (h : PlainAt nd ys tot done s fuel) : done.length ≤ tot.length := by rw [← h.whole]; simp

set_option maxHeartbeats 1000000 in
theorem walkPlain_any (m : Int) (A B : Option Addr) (n c l cb : Nat) (xs : List ArcD) (ys : List Int) (w : World) (hnx : xs.length = n) (hny : ys.length = l) (hx : ArcsAt w A xs) (hy : IntsAt w B ys) (ho : okB m xs ys = true) :
    Calls Try.prog 65 #[.agg #[.int .i64 m, .slice A n c, .slice B l cb]] w (Gives w (plainI m xs ys)) := by
  have h20 := ok_len ho
  rw [hny] at h20
  have HX := Lib.hid hnx
  have HY := Lib.hid hny
  have HO := Lib.hid ho
  clear hnx hny ho
  obtain ⟨i0, hi, hz0, hz1, hz2⟩ := info_parts infoInt
  have hb0 : Past w (w.alloc (.cells #[.int .i64 m, .slice A n c, .slice B l cb] 75)) := (Past.refl _).alloc _
  by_cases hl0 : l = 0
  · have HZ := Lib.hid hl0
    have hl0' : ((l : Int) == 0) = true := by simp; omega
    clear hl0
    go_enter Try.func65, Try.ntmps65
    go_wp2
    go_ret
    exact ⟨_, rfl, by rw [plainI, if_pos HO.out, if_pos (by rw [HY.out, HZ.out])]; exact Res.nil _ _, hb0⟩
  have hl0' : ((l : Int) == 0) = false := by simp; omega
  have HT : Hid (plainI m xs ys = plainW xs ys) := by rw [Hid, plainI, if_pos HO.out, if_neg (by rw [HY.out]; exact hl0)]
  go_enter Try.func65, Try.ntmps65
  go_wp2_with fail
  refine (walkNodes_any m A B n c l cb xs ys _ HX.out HY.out (hx.below hb0) (hy.below hb0) HO.out).mono ?_
  rintro e w1 ⟨v1, rfl, hv1, hb1⟩
  have b2 := cell_in (p := ⟨w.heap.size, 2, none⟩) (v := .slice B l cb) hb1 (by go_simp)
  have hy1 := (hy.below hb0).below hb1
  have hb01 := hb0.trans hb1
  obtain ⟨Ad, cd, rfl, hd, _⟩ := hv1.form
  have hndl : (nodesW xs ys).length = l + 1 := by rw [nodesW_length (by rw [HY.out]; exact hl0), HY.out]
  obtain ⟨tot, htot⟩ : ∃ tot, tot = plainW xs ys := ⟨_, rfl⟩
  have hstart : PlainAt (nodesW xs ys) ys tot [] 0 (ys.length + 1) := ⟨by rw [htot]; rfl, by omega, by omega⟩
  have htl : tot.length ≤ l + 1 := by rw [htot, plainW, ← HY.out]; exact plainFrom_len _ _ _ _
  have HTT := Lib.hid htot
  clear htot hv1 hb1 hb0 hx hy
  obtain ⟨nd, hnd⟩ : ∃ nd, nd = nodesW xs ys := ⟨_, rfl⟩
  rw [← hnd] at hd hndl hstart ⊢
  rw [hndl]
  have HD := Lib.hid hnd
  have HDL := Lib.hid hndl
  clear hnd hndl
  obtain ⟨g0, o0, rfl, n0⟩ := hd 0 _ (at_numOf (by rw [HDL.out]; omega))
  simp only [Nat.add_zero] at n0
  have hz : 0 < l + 1 := by omega
  obtain ⟨hl1, hl2⟩ := lastIx_spec (at_numOf (zs := nd) (k := 0) (by rw [HDL.out]; omega))
  obtain ⟨i1, hi1⟩ : ∃ i1, i1 = lastIx nd (numOf nd 0) := ⟨_, rfl⟩
  rw [← hi1] at hl1 hl2
  have hi1l : i1 < l + 1 := by rw [← HDL.out]; exact (List.getElem?_eq_some_iff.1 hl1.1).1
  clear hi1
  obtain ⟨x0, hx0⟩ : ∃ x0, x0 = numOf nd 0 := ⟨_, rfl⟩
  rw [← hx0] at n0 hl1
  have HX0 := Lib.hid hx0
  clear hx0
  go_wp2_with fail
  refine (lastIndex_any (some ⟨g0, o0, none⟩) (l + 1) cd nd x0 i1 _ (by omega) HDL.out hd hl1).mono ?_
  rintro e w2 ⟨rfl, rfl⟩
  rw [HX0.out] at hl1
  clear n0 HX0
  go_wp2
  go_loopw [4, 5] (fun v q wr => ∃ (s i fuel : Nat) (done : List Int), i < l + 1 ∧ s ≤ i ∧ q = .int .i64 i ∧ IsLast nd (numOf nd s) i ∧ Res wr w1.heap.size v done ∧ PlainAt nd ys tot done s fuel ∧ Past w1 wr) (fun _ q _ => l + 1 - (intOf q).toNat)
  case atStart => exact ⟨0, i1, _, [], hi1l, by omega, rfl, hl1, Res.nil _ _, hstart, Past.refl _⟩
  case round =>
    obtain ⟨s, i, fuel, done, hil, hsi, rfl, hla, hv, hp, hb⟩ := hrel
    have b2 := cell_in hb b2
    have hzz : w.heap.size < wr.heap.size := lt_of_cell b2
    have hdl := hp.len
    by_cases hlt : i < l
    · obtain ⟨fuel', hp'⟩ := hp.next hla hsi (by rw [HY.out]; exact hlt)
      obtain ⟨g, o, rfl, c0⟩ := (hy1.below hb) i _ (at_numOf (by rw [HY.out]; exact hlt))
      obtain ⟨g1, o1, eg, n1'⟩ := hd (i + 1) _ (at_numOf (by rw [HDL.out]; omega))
      injection eg with eg
      injection eg with eg1 eg2
      subst eg1 eg2
      obtain ⟨hl3, hl4⟩ := lastIx_spec (at_numOf (zs := nd) (k := i + 1) (by rw [HDL.out]; omega))
      obtain ⟨i2, hi2⟩ : ∃ i2, i2 = lastIx nd (numOf nd (i + 1)) := ⟨_, rfl⟩
      rw [← hi2] at hl3 hl4
      have hi2l : i2 < l + 1 := by rw [← HDL.out]; exact (List.getElem?_eq_some_iff.1 hl3.1).1
      clear hi2
      obtain ⟨x1, hx1⟩ : ∃ x1, x1 = numOf nd (i + 1) := ⟨_, rfl⟩
      obtain ⟨y1, hy1'⟩ : ∃ y1, y1 = numOf ys i := ⟨_, rfl⟩
      rw [← hy1'] at c0 hp'
      rw [← hx1] at n1'
      have iw : i + 1 < l + 1 := by omega
      have HX1 := Lib.hid hx1
      have HL3 := Lib.hid hl3
      have HP' := Lib.hid hp'
      have hds : done.length ≤ l + 1 := by omega
      have i0' : (0 : Int) ≤ (i : Int) := by omega
      have i1' : (i : Int) < (l : Int) := by omega
      have hbs := hb.size
      unfold Res at hv
      obtain ⟨D, hD⟩ : ∃ D, D = done.length := ⟨_, rfl⟩
      rw [← hD] at hv hds
      have HDD := Lib.hid hD
      clear hx1 hy1' hl3 hp' hdl hp hla hD
      go_wp2_with (first | (at_builtin; refine wpList_append_own _ rfl _ _ 26 rfl w1.heap.size 3 i0 (.int .i64 0) 1 8 Try.underlying26 hi hz0 hz1 hz2 rfl (by decide) _ _ _ rfl (hv.alloc _) ⟨wr.heap.size, 0, none⟩ 1 1 [.int .i64 y1] rfl rfl (cell_one_new _ _ _) (one_cell y1) (by unfold maxLen; omega) (by omega) (by simp; omega) ?_; intro v' w3 hown' hgrow3 hnil3; have hg3 : Past w1 w3 := Past.grown (hb.alloc _) (hv.alloc _) hgrow3 (Nat.le_refl _); have n1 := cell_in hg3 n1'))
      refine (lastIndex_any (some ⟨g0, o0, none⟩) (l + 1) cd nd x1 i2 _ (by omega) HDL.out (hd.below hg3) (by rw [HX1.out]; exact HL3.out)).mono ?_
      rintro e w4 ⟨rfl, rfl⟩
      go_wp2
      go_roundw
      case rel => exact ⟨i + 1, i2, fuel', done ++ [y1], hi2l, by omega, rfl, HL3.out, Res.push (by rw [← HDD.out]; exact hown'), HP'.out, hg3⟩
      case measure => simp [intOf]; omega
    · have hdone := hp.stop hla (by rw [HY.out]; omega)
      subst hdone
      go_wp2
      go_ret
      exact ⟨_, rfl, by rw [HT.out, ← HTT.out]; exact hv.lower hb01.size, hb01.trans hb⟩

end Go.Proofs.Ytokljfeoignbcaa

namespace Go.Proofs.Ytokljfeoignbcaa
open Go.RowKit

def toOf (xs : List ArcD) (y : Int) : Int := (arcOf xs y).t
def inArc (xs : List ArcD) (y : Int) : Bool := inB y 0 ((xs.length : Int) - 1)

/-- Arcs one behind the other, the first from the node x. -/
def Chain (xs : List ArcD) : Int → List Int → Prop
  | _, [] => True
  | x, y :: ys => inArc xs y = true ∧ (arcOf xs y).f = x ∧ Chain xs (toOf xs y) ys

theorem numOf_zero (y : Int) (ys : List Int) : numOf (y :: ys) 0 = y := by simp [numOf]
theorem numOf_succ (y : Int) (ys : List Int) (k : Nat) : numOf (y :: ys) (k + 1) = numOf ys k := by simp [numOf]

theorem Chain.step {xs : List ArcD} : ∀ {ys : List Int} {x : Int}, Chain xs x ys → ∀ k, k < ys.length → stepB xs ys k = true
  | [], _, _, k, hk => by simp at hk
  | y :: ys, x, h, k, hk => by
    obtain ⟨h1, h2, h3⟩ := h
    unfold inArc at h1
    cases k with
    | zero => unfold stepB; rw [numOf_zero, h1]; simp
    | succ k =>
      have ih := Chain.step h3 k (by simpa using hk)
      cases k with
      | zero =>
        cases ys with
        | nil => simp at hk
        | cons z zs =>
          obtain ⟨g1, g2, g3⟩ := h3
          unfold inArc at g1
          unfold stepB
          rw [numOf_succ, numOf_zero, show (0 + 1 - 1) = 0 by omega, numOf_zero, g1, g2]
          simp [toOf]
      | succ k =>
        unfold stepB at ih ⊢
        rw [numOf_succ, show (k + 1 + 1 - 1) = k + 1 by omega, numOf_succ]
        simp at ih ⊢
        exact ih

theorem nodesW_map (xs : List ArcD) (ys : List Int) (h : ys.length ≠ 0) : nodesW xs ys = (arcOf xs (numOf ys 0)).f :: ys.map (toOf xs) := by
  rw [nodesW, if_neg h, nodesTo]
  congr 1
  apply List.ext_getElem?
  intro k
  by_cases hk : k < ys.length
  · simp [hk, numOf, toOf]
  · simp [hk]

def costL (xs : List ArcD) (ys : List Int) : Int := (ys.map fun y => (arcOf xs y).c).sum

theorem sumTo_costL (xs : List ArcD) : ∀ (ys : List Int) (k : Nat), sumTo xs ys k = costL xs (ys.take k) ∨ ys.length < k := by
  intro ys k
  induction k with
  | zero => left; simp [sumTo, costL]
  | succ k ih =>
    by_cases hk : k < ys.length
    · left
      rcases ih with ih | ih
      · rw [sumTo, ih, List.take_add_one, List.getElem?_eq_getElem hk, numOf_at (List.getElem?_eq_getElem hk)]
        simp only [costL, Option.toList_some, List.map_append, List.map_cons, List.map_nil, List.sum_append, List.sum_cons, List.sum_nil, Int.add_zero]
      · omega
    · right; omega

theorem sumTo_all (xs : List ArcD) (ys : List Int) : sumTo xs ys ys.length = costL xs ys := by
  rcases sumTo_costL xs ys ys.length with h | h
  · rw [h, List.take_length]
  · omega

theorem costL_sub {xs : List ArcD} {p ys : List Int} (h : p.Sublist ys) (hp : ∀ y ∈ ys, 0 ≤ (arcOf xs y).c) : costL xs p ≤ costL xs ys := by
  induction h with
  | slnil => exact Int.le_refl _
  | cons a _ ih =>
    have := ih (fun y hy => hp y (List.mem_cons_of_mem _ hy))
    have := hp a List.mem_cons_self
    simp only [costL, List.map_cons, List.sum_cons] at *
    omega
  | cons_cons a _ ih =>
    have := ih (fun y hy => hp y (List.mem_cons_of_mem _ hy))
    simp only [costL, List.map_cons, List.sum_cons] at *
    omega

/-- What plainFrom keeps. -/
structure Kept (xs : List ArcD) (nd ys p : List Int) (s : Nat) : Prop where
  chain : Chain xs (numOf nd s) p
  sub : p.Sublist (ys.drop s)
  late : ∀ z ∈ numOf nd s :: p.map (toOf xs), ∃ j, s ≤ j ∧ nd[j]? = some z
  nodup : (numOf nd s :: p.map (toOf xs)).Nodup
  last : (numOf nd s :: p.map (toOf xs)).getLast? = some (numOf nd ys.length)

theorem kept {m : Int} {xs : List ArcD} {ys : List Int} (ho : okB m xs ys = true) (h0 : ys.length ≠ 0) : ∀ fuel s, s ≤ ys.length → ys.length + 1 ≤ fuel + s → Kept xs (nodesW xs ys) ys (plainFrom (nodesW xs ys) ys fuel s) s
  | 0, s, h1, h2 => by omega
  | fuel + 1, s, h1, h2 => by
    have hlen := nodesW_length (xs := xs) h0
    have hs := at_numOf (zs := nodesW xs ys) (k := s) (by omega)
    obtain ⟨hl, hsi⟩ := lastIx_spec hs
    obtain ⟨i, hi⟩ : ∃ i, i = lastIx (nodesW xs ys) (numOf (nodesW xs ys) s) := ⟨_, rfl⟩
    rw [← hi] at hl hsi
    unfold plainFrom
    rw [← hi]
    have hiL : i < (nodesW xs ys).length := (List.getElem?_eq_some_iff.1 hl.1).1
    by_cases hlt : i < ys.length
    · rw [if_pos hlt]
      have ih := kept ho h0 fuel (i + 1) (by omega) (by omega)
      have hto : toOf xs (numOf ys i) = numOf (nodesW xs ys) (i + 1) := (numOf_at (nodesW_to hlt)).symm
      have hfr : (arcOf xs (numOf ys i)).f = numOf (nodesW xs ys) s := by
        have h1 := nodesW_from ho hlt
        rw [hl.1] at h1
        injection h1 with h1
        exact h1.symm
      have hin : inArc xs (numOf ys i) = true := by
        have h := ((walkB_iff _ _).1 ((okB_iff _ _ _).1 ho).2).2 i hlt
        unfold stepB at h
        simp only [Bool.and_eq_true] at h
        exact h.1
      have hne : ∀ z ∈ numOf (nodesW xs ys) (i + 1) :: (plainFrom (nodesW xs ys) ys fuel (i + 1)).map (toOf xs), z ≠ numOf (nodesW xs ys) s := by
        intro z hz e
        obtain ⟨j, hj, hjz⟩ := ih.late z hz
        exact hl.2 j (by omega) (by rw [hjz, e])
      refine ⟨⟨hin, hfr, by rw [hto]; exact ih.chain⟩, ?_, ?_, ?_, ?_⟩
      · have e : ys.drop i = numOf ys i :: ys.drop (i + 1) := by
          rw [List.drop_eq_getElem_cons hlt]
          congr 1
          simp [numOf, hlt]
        have h3 : (numOf ys i :: plainFrom (nodesW xs ys) ys fuel (i + 1)).Sublist (ys.drop i) := by rw [e]; exact ih.sub.cons_cons _
        refine h3.trans ?_
        rw [show i = s + (i - s) by omega, ← List.drop_drop]
        exact List.drop_sublist _ _
      · intro z hz
        rcases List.mem_cons.1 hz with rfl | hz
        · exact ⟨s, Nat.le_refl _, hs⟩
        · rw [List.map_cons, hto] at hz
          obtain ⟨j, hj, e⟩ := ih.late z hz
          exact ⟨j, by omega, e⟩
      · rw [List.map_cons, hto]
        exact List.nodup_cons.2 ⟨fun h => hne _ h rfl, ih.nodup⟩
      · rw [List.map_cons, hto, List.getLast?_cons_cons]
        exact ih.last
    · rw [if_neg hlt]
      obtain rfl : i = ys.length := by omega
      refine ⟨trivial, List.nil_sublist _, ?_, by simp, ?_⟩
      · intro z hz
        simp at hz
        subst hz
        exact ⟨s, Nat.le_refl _, hs⟩
      · simp
        exact (numOf_at hl.1).symm

theorem plainFrom_self {nd p : List Int} (hn : nd.Nodup) (hl : nd.length = p.length + 1) : ∀ fuel s, s ≤ p.length → p.length + 1 ≤ fuel + s → plainFrom nd p fuel s = p.drop s
  | 0, s, h1, h2 => by omega
  | fuel + 1, s, h1, h2 => by
    have hs := at_numOf (zs := nd) (k := s) (by omega)
    have hlast : IsLast nd (numOf nd s) s := ⟨hs, fun j hj e => by
      have := (List.getElem?_inj (i := s) (j := j) (by omega) hn).1 (hs.trans e.symm)
      omega⟩
    unfold plainFrom
    rw [lastIx_eq hlast]
    split
    · rename_i h
      rw [plainFrom_self hn hl fuel (s + 1) (by omega) (by omega), List.drop_eq_getElem_cons h]
      congr 1
      simp [numOf, h]
    · rw [List.drop_eq_nil_of_le (by omega)]

/-- What is said of a walk without its rings. -/
structure Plains (m : Int) (xs : List ArcD) (ys p : List Int) : Prop where
  ok : okB m xs p = true
  nodup : (nodesI m xs p).Nodup
  len : (nodesI m xs p).length = p.length + 1
  first : (nodesI m xs p)[0]? = (nodesI m xs ys)[0]?
  last : (nodesI m xs p)[p.length]? = (nodesI m xs ys)[ys.length]?
  cost : costI m xs p ≤ costI m xs ys
  self : plainI m xs p = p

theorem plains {m : Int} {xs : List ArcD} {ys : List Int} (ho : okB m xs ys = true) (hp : (plainI m xs ys).length ≠ 0) : ys.length ≠ 0 ∧ Plains m xs ys (plainI m xs ys) := by
  by_cases h0 : ys.length = 0
  · simp [plainI, ho, h0] at hp
  refine ⟨h0, ?_⟩
  have hk := kept ho h0 (ys.length + 1) 0 (by omega) (by omega)
  have hP : plainI m xs ys = plainFrom (nodesW xs ys) ys (ys.length + 1) 0 := by rw [plainI, if_pos ho, if_neg h0, plainW]
  rw [← hP] at hk
  generalize plainI m xs ys = p at *
  obtain ⟨hch, hsub, _, hnd, hla⟩ := hk
  rw [List.drop_zero] at hsub
  have h20 := ok_len ho
  have hokp : okB m xs p = true := (okB_iff _ _ _).2 ⟨((okB_iff _ _ _).1 ho).1, (walkB_iff _ _).2 ⟨by have := hsub.length_le; omega, hch.step⟩⟩
  have hfr : (arcOf xs (numOf p 0)).f = numOf (nodesW xs ys) 0 := by
    cases p with
    | nil => simp at hp
    | cons y q => rw [numOf_zero]; exact hch.2.1
  have hno : nodesI m xs p = numOf (nodesW xs ys) 0 :: p.map (toOf xs) := by rw [nodesI, if_pos hokp, nodesW_map xs p hp, hfr]
  have hny : nodesI m xs ys = nodesW xs ys := by rw [nodesI, if_pos ho]
  have hnl := nodesW_length (xs := xs) h0
  refine ⟨hokp, by rw [hno]; exact hnd, by rw [hno]; simp, ?_, ?_, ?_, ?_⟩
  · rw [hno, hny, at_numOf (zs := nodesW xs ys) (k := 0) (by omega)]; rfl
  · rw [hno, hny, at_numOf (zs := nodesW xs ys) (k := ys.length) (by omega), ← hla, List.getLast?_eq_getElem?]
    simp
  · rw [costI, if_pos hokp, costI, if_pos ho, sumTo_all, sumTo_all]
    refine costL_sub hsub fun y hy => ?_
    obtain ⟨k, hk, rfl⟩ := List.mem_iff_getElem.1 hy
    obtain ⟨j, a, hya, hja, q0, _, he⟩ := ok_arc ho (List.getElem?_eq_getElem hk)
    rw [numOf_at (List.getElem?_eq_getElem hk)] at he
    rw [he]; exact q0
  · have hnw : nodesW xs p = numOf (nodesW xs ys) 0 :: p.map (toOf xs) := by rw [nodesW_map xs p hp, hfr]
    rw [plainI, if_pos hokp, if_neg hp, plainW, plainFrom_self (by rw [hnw]; exact hnd) (nodesW_length hp) _ _ (by omega) (by omega), List.drop_zero]

theorem plain_none {m : Int} {xs : List ArcD} {ys : List Int} (ho : okB m xs ys = true) (hp : (plainI m xs ys).length = 0) (h0 : ys.length ≠ 0) : (arcOf xs (numOf ys 0)).f = (arcOf xs (numOf ys (ys.length - 1))).t := by
  have hk := kept ho h0 (ys.length + 1) 0 (by omega) (by omega)
  have hP : plainI m xs ys = plainFrom (nodesW xs ys) ys (ys.length + 1) 0 := by rw [plainI, if_pos ho, if_neg h0, plainW]
  rw [← hP, List.eq_nil_of_length_eq_zero hp] at hk
  have h1 := hk.last
  simp at h1
  have e1 := numOf_at (nodesW_from ho (show 0 < ys.length by omega))
  have e2 := nodesW_to (xs := xs) (show ys.length - 1 < ys.length by omega)
  rw [show ys.length - 1 + 1 = ys.length by omega] at e2
  rw [← e1, h1, numOf_at e2]

end Go.Proofs.Ytokljfeoignbcaa

namespace Go.Proofs.Ytokljfeoignbcaa

theorem Way.one {xs : List ArcD} {a : ArcD} (ha : a ∈ xs) : Way xs a.f a.t a.c [a.f] := by
  have := Way.snoc (.nil : Way xs a.f a.f 0 []) ha rfl
  rw [Int.zero_add] at this
  exact this
theorem Way.back {xs : List ArcD} {s v c : Int} {l : List Int} (h : Way xs s v c l) : ∃ l', Way (xs.map flip) v s c l' := by
  induction h with
  | nil => exact ⟨_, .nil⟩
  | @snoc u c l a _ ha e ih =>
    obtain ⟨l', h'⟩ := ih
    subst e
    have h1 : Way (xs.map flip) a.t a.f a.c [a.t] := Way.one (a := flip a) (List.mem_map.2 ⟨a, ha, rfl⟩)
    obtain ⟨l2, h2⟩ := h1.join h'
    exact ⟨l2, by rw [Int.add_comm]; exact h2⟩
theorem flips_id (xs : List ArcD) : (xs.map flip).map flip = xs := by rw [List.map_map]; exact (List.map_congr_left fun _ _ => rfl).trans (List.map_id _)
theorem arcsIn_back {m : Int} {xs : List ArcD} (h : ArcsIn m xs) : ArcsIn m (xs.map flip) := fun a ha => by
  obtain ⟨b, hb, rfl⟩ := List.mem_map.1 ha
  have := h b hb
  simp only [flip]
  omega
theorem near_back {m : Nat} {xs : List ArcD} {s v : Int} (hm : m ≤ 8) (hx : ArcsIn m xs) (hs : 0 ≤ s ∧ s < m) (hv : 0 ≤ v ∧ v < m) : at_ (nearL m xs s) v = at_ (nearL m (xs.map flip) v) s := by
  have hy := arcsIn_back hx
  obtain ⟨a1, a2⟩ := (nearL_sound hx hs).2 v hv.1 hv.2
  obtain ⟨b1, b2⟩ := (nearL_sound hy hv).2 s hs.1 hs.2
  rcases a2 with a2 | ⟨l, a2⟩
  · rcases b2 with b2 | ⟨l', b2⟩
    · omega
    · obtain ⟨l2, h2⟩ := b2.back
      rw [flips_id] at h2
      have := nearL_le hm hx hs h2
      omega
  · obtain ⟨l2, h2⟩ := a2.back
    have h3 := nearL_le hm hy hv h2
    rcases b2 with b2 | ⟨l', b2⟩
    · omega
    · obtain ⟨l4, h4⟩ := b2.back
      rw [flips_id] at h4
      have := nearL_le hm hx hs h4
      omega

end Go.Proofs.Ytokljfeoignbcaa

namespace Go.Proofs.Ytokljfeoignbcaa

/-- What is known of the best way from a node. -/
structure Gone (xs : List ArcD) (L : List LenD) (s v : Int) (k : Nat) (ys : List Int) : Prop where
  chain : Chain xs v ys
  cost : costL xs ys = (lab L v).x0
  nodup : (v :: ys.map (toOf xs)).Nodup
  less : ∀ u ∈ ys.map (toOf xs), (lab L u).x1 < k
  last : ys ≠ [] → (arcOf xs (numOf ys (ys.length - 1))).t = s
  none : ys = [] → v = s

theorem TreeL.gone {m : Nat} {xs : List ArcD} {s : Int} {L : List LenD} (h : TreeL m xs s L) : ∀ (k : Nat) (v : Int), 0 ≤ v → v < m → lab L v ≠ farL → (lab L v).x1 = k → Gone xs L s v k (wayL xs L s v) := by
  intro k
  induction k with
  | zero =>
    intro v h0 h1 hf hk
    have hv : v = s := by
      by_cases e : v = s
      · exact e
      · obtain ⟨j, a, _, e2, _, _, e5, _⟩ := h.some v e hf h0 h1
        have hb := h.arcs a (List.mem_of_getElem? e2)
        have := h.bound a.t (by omega) (by omega)
        omega
    subst hv
    rw [h.wayL_to]
    exact ⟨trivial, by rw [h.lab_to]; rfl, by simp, fun u hu => by simp at hu, fun e => absurd rfl e, fun _ => rfl⟩
  | succ k ih =>
    intro v h0 h1 hf hk
    have hv : v ≠ s := fun e => by rw [e, h.lab_to] at hk; simp at hk; omega
    obtain ⟨j, a, e1, e2, _, e4, e5, e6, e7, _⟩ := h.some v hv hf h0 h1
    have hb := h.arcs a (List.mem_of_getElem? e2)
    have hj : j < xs.length := (List.getElem?_eq_some_iff.1 e2).1
    have ha : arcOf xs (j : Int) = a := by unfold arcOf; rw [Int.toNat_natCast, List.getD_eq_getElem?_getD, e2]; rfl
    have ht : toOf xs (j : Int) = a.t := by unfold toOf; rw [ha]
    have g := ih a.t (by omega) (by omega) e4 (by omega)
    rw [h.wayL_step hv e1 e2 e5]
    have hle : ∀ u ∈ a.t :: (wayL xs L s a.t).map (toOf xs), (lab L u).x1 < ((k + 1 : Nat) : Int) := fun u hu => by
      rcases List.mem_cons.1 hu with rfl | hu
      · omega
      · have := g.less u hu; omega
    refine ⟨⟨by unfold inArc; rw [inB_iff]; omega, by rw [ha]; exact e7, by rw [ht]; exact g.chain⟩, ?_, ?_, ?_, fun _ => ?_, fun e => by cases e⟩
    · have hc := g.cost
      unfold costL at hc ⊢
      rw [List.map_cons, List.sum_cons, hc, ha, e6]
      omega
    · rw [List.map_cons, ht]
      refine List.nodup_cons.2 ⟨fun hm => ?_, g.nodup⟩
      have := hle v hm
      omega
    · rw [List.map_cons, ht]
      exact hle
    · cases hw : wayL xs L s a.t with
      | nil =>
        have := g.none hw
        simp [numOf, ha, this]
      | cons z zs =>
        have hl := g.last (by rw [hw]; simp)
        rw [hw] at hl
        rw [List.length_cons, show (z :: zs).length + 1 - 1 = ((z :: zs).length - 1) + 1 by simp, numOf_succ]
        exact hl

theorem plain_self {m : Int} {xs : List ArcD} {ys : List Int} (ho : okB m xs ys = true) (hn : ys ≠ [] → ((arcOf xs (numOf ys 0)).f :: ys.map (toOf xs)).Nodup) : plainI m xs ys = ys := by
  unfold plainI
  rw [if_pos ho]
  split
  · rename_i e
    exact (List.eq_nil_of_length_eq_zero e).symm
  · rename_i e
    unfold plainW
    rw [nodesW_map xs ys e]
    have := plainFrom_self (p := ys) (hn (fun e' => e (by rw [e']; rfl))) (by simp) (ys.length + 1) 0 (by omega) (by omega)
    simpa using this

/-- All that the law asks of a best way. -/
theorem near_gone {m : Int} {xs : List ArcD} {a b : Int} (h : nearWB m xs a b = true) : okB m xs (nearWI m xs a b) = true ∧ costI m xs (nearWI m xs a b) = at_ (nearI m xs a) b ∧ plainI m xs (nearWI m xs a b) = nearWI m xs a b ∧
    (nearWI m xs a b = [] → a = b) ∧ (nearWI m xs a b ≠ [] → (arcOf xs (numOf (nearWI m xs a b) 0)).f = a ∧ (arcOf xs (numOf (nearWI m xs a b) ((nearWI m xs a b).length - 1))).t = b) ∧ (nearWI m xs a b).length ≤ 20 ∧ (nearI m xs a).length = m.toNat ∧ 0 ≤ b ∧ b < m ∧ ∃ M : Nat, m = M := by
  rw [nearWB, Bool.and_eq_true] at h
  obtain ⟨hB, hF⟩ := h
  obtain ⟨hN, ha, hb⟩ := (hereB2_iff _ _ _ _).1 hB
  obtain ⟨M, rfl, h3, h8⟩ := here_nat hN
  rw [Int.toNat_natCast] at hF
  have hF : farB M xs b a = false := by simpa using hF
  have hT := treeL_of (arcsIn_net hN) hb h8
  have hf : lab (labsOf M xs b) a ≠ farL := by simpa [farB] using hF
  have hw : nearWI (M : Int) xs a b = wayL xs (labsOf M xs b) b a := by rw [nearWI, hB, if_pos rfl, Int.toNat_natCast, wayM, hF, if_neg (by simp)]
  have hbd := hT.bound a ha.1 ha.2
  have g := hT.gone (lab (labsOf M xs b) a).x1.toNat a ha.1 ha.2 hf (by omega)
  have hfew := hT.way_few a ha.1 ha.2 hf
  have hhere : hereB (M : Int) xs a = true := (hereB_iff _ _ _).2 ⟨hN, ha⟩
  have hnear : nearI (M : Int) xs a = nearL M xs a := by rw [nearI, hhere, if_pos rfl, Int.toNat_natCast]
  rw [hw, hnear]
  generalize hys : wayL xs (labsOf M xs b) b a = ys at g hfew ⊢
  have hfirst : ys ≠ [] → (arcOf xs (numOf ys 0)).f = a := fun e => by
    cases ys with
    | nil => exact absurd rfl e
    | cons y ys => rw [numOf_zero]; exact g.chain.2.1
  have ho : okB (M : Int) xs ys = true := by
    unfold okB
    rw [hN, Bool.true_and, walkB_iff]
    exact ⟨by omega, fun k hk => g.chain.step k hk⟩
  refine ⟨ho, ?_, ?_, g.none, fun e => ⟨hfirst e, g.last e⟩, by omega, by rw [nearL_length, Int.toNat_natCast], hb.1, hb.2, M, rfl⟩
  · unfold costI
    rw [if_pos ho, sumTo_all, g.cost, ← hT.near_at a ha.1 ha.2]
    exact (near_back h8 (arcsIn_net hN) ha hb).symm
  · exact plain_self ho (fun e => by rw [hfirst e]; exact g.nodup)

end Go.Proofs.Ytokljfeoignbcaa

namespace Go.Proofs.Ytokljfeoignbcaa
open Go.RowKit

set_option maxRecDepth 100000 in
set_option maxHeartbeats 4000000 in
theorem wkEnds_true (m : Int) (A B : Option Addr) (n c l cb : Nat) (xs : List ArcD) (ys : List Int) (fr tt : Int) (w : World) (hn : n ≤ 1048576) (hl : l ≤ 1048576) (hnx : xs.length = n) (hny : ys.length = l) (hx : ArcsAt w A xs) (hy : IntsAt w B ys)
    (ho : okB m xs ys = true) (h0 : ys = [] → fr = tt) (h1 : ys ≠ [] → (arcOf xs (numOf ys 0)).f = fr ∧ (arcOf xs (numOf ys (ys.length - 1))).t = tt) :
    Calls Try.prog 35 #[.agg #[.int .i64 m, .slice A n c], .slice B l cb, .int .i64 fr, .int .i64 tt] w fun e w' => e = .returned (.bool true) ∧ Below w.heap.size w w' := by
  have hb0 : Past w (w.alloc (.cells #[.int .i64 m, .slice A n c] 30)) := (Past.refl _).alloc _
  by_cases hl0 : l = 0
  · subst hl0
    obtain rfl := h0 (List.eq_nil_of_length_eq_zero hny)
    go_enter Try.func35, Try.ntmps35
    go_wp2
    go_ret
    exact ⟨ret_bool (by simp), hb0⟩
  · have hne : ys ≠ [] := fun e => hl0 (by rw [← hny, e]; rfl)
    obtain ⟨h1, h2⟩ := h1 hne
    have hst := ((walkB_iff xs ys).1 (by unfold okB at ho; simp at ho; exact ho.2)).2
    have arc_at : ∀ k, k < l → ∃ (j : Nat) (a : ArcD), numOf ys k = (j : Int) ∧ ys[k]? = some (j : Int) ∧ xs[j]? = some a ∧ arcOf xs (numOf ys k) = a ∧ j < n := fun k hk => by
      have hs := hst k (by omega)
      unfold stepB at hs
      simp only [Bool.and_eq_true, inB_iff] at hs
      obtain ⟨j, hj⟩ : ∃ j : Nat, numOf ys k = (j : Int) := ⟨(numOf ys k).toNat, by omega⟩
      have hjn : j < xs.length := by omega
      refine ⟨j, xs[j], hj, ?_, List.getElem?_eq_getElem hjn, ?_, by omega⟩
      · rw [← hj, numOf, List.getD_eq_getElem?_getD, List.getElem?_eq_getElem (by omega : k < ys.length)]; rfl
      · rw [hj, arcOf, Int.toNat_natCast, List.getD_eq_getElem?_getD, List.getElem?_eq_getElem hjn]; rfl
    obtain ⟨j, ⟨f1, t1, c1, l1, d1⟩, _, y1, x1, a1, j1⟩ := arc_at 0 (by omega)
    obtain ⟨k, ⟨f2, t2, c2, l2, d2⟩, _, y2, x2, a2, k1⟩ := arc_at (l - 1) (by omega)
    rw [a1] at h1
    rw [hny, a2] at h2
    simp only at h1 h2
    subst h1 h2
    obtain ⟨W, hW⟩ : ∃ W, W = w.alloc (.cells #[.int .i64 m, .slice A n c] 30) := ⟨_, rfl⟩
    have hpW : Past w W := by rw [hW]; exact hb0
    obtain ⟨gB, oB, rfl, z0⟩ := hy 0 _ y1
    rw [Nat.add_zero] at z0
    obtain ⟨_, _, e1, z1⟩ := hy (l - 1) _ y2
    injection e1 with e1
    injection e1 with e1 e2
    subst e1 e2
    obtain ⟨gA, oA, rfl, p0, _, _, _, _⟩ := hx j _ x1
    obtain ⟨_, _, e1, _, p1, _, _, _⟩ := hx k _ x2
    injection e1 with e1
    injection e1 with e1 e2
    subst e1 e2
    have b0 := past_cell (w := W) (p := ⟨w.heap.size, 0, none⟩) (v := .int .i64 m) (by rw [hW]; go_simp)
    have b1 := past_cell (w := W) (p := ⟨w.heap.size, 1, none⟩) (v := .slice (some ⟨gA, oA, none⟩) n c) (by rw [hW]; go_simp)
    have z0 := past_cell (cell_in hpW z0)
    have z1 := past_cell (cell_in hpW z1)
    have p0 := past_cell (cell_in hpW p0)
    have p1 := past_cell (cell_in hpW p1)
    have C1 : Hid (∀ q : PastOf W, Calls Try.prog 42 #[.agg #[.int .i64 m, .slice (some ⟨gA, oA, none⟩) n c], .slice (some ⟨gB, oB, none⟩) l cb] q.W fun e w' => e = .returned (.bool true) ∧ Below q.W.heap.size q.W w') := fun q => by
      have := implWalkOk_any m (some ⟨gA, oA, none⟩) (some ⟨gB, oB, none⟩) n c l cb xs ys q.W hn hl hnx hny ((hx.below hpW).below q.h) ((hy.below hpW).below q.h)
      rw [ho] at this
      exact this
    have hl1 : ¬ (l : Int) = 0 := by omega
    have hl2 : (0 : Int) < (l : Int) := by omega
    have hl3 : 0 < l := by omega
    have hw1 : IntKind.i64.wrap ((l : Int) - 1) = ((l - 1 : Nat) : Int) := by rw [IntWalk.i64_in _ (by omega)]; omega
    have i0 : (0 : Int) ≤ ((l - 1 : Nat) : Int) := by omega
    have i1 : ((l - 1 : Nat) : Int) < (l : Int) := by omega
    obtain ⟨L1, hL1⟩ : ∃ L1, L1 = l - 1 := ⟨_, rfl⟩
    rw [← hL1] at hw1 i0 i1 z1
    have j2 : (0 : Int) ≤ (j : Int) := by omega
    have j3 : (j : Int) < (n : Int) := by omega
    have k2 : (0 : Int) ≤ (k : Int) := by omega
    have k3 : (k : Int) < (n : Int) := by omega
    have HW := Lib.hid hW
    clear hW hx hy hst arc_at a1 a2 x1 x2 y1 y2 ho h0 hL1 hb0 hne
    go_enter Try.func35, Try.ntmps35
    go_wp2_with fail
    rw [← HW.out]
    refine wp_region_past (by kernel_rfl) (by kernel_rfl) ?_
    repeat (quiet_step (with_reducible exact rfl))
    quiet_step ((go_at_call 42; exact past_call (C1.out _)))
    repeat (quiet_step (with_reducible exact rfl))
    refine wpQuiet_nil ?_
    rintro W8 ⟨⟨_, hW8⟩, rfl⟩
    go_wp2
    go_ret
    exact ⟨rfl, hpW.trans hW8⟩

end Go.Proofs.Ytokljfeoignbcaa

namespace Go.Proofs.Ytokljfeoignbcaa
open Go.RowKit

set_option maxHeartbeats 400000 in
theorem implWalkPlain_any (m : Int) (A B : Option Addr) (n c l cb : Nat) (xs : List ArcD) (ys : List Int) (w : World) (hn : n ≤ 1048576) (hl : l ≤ 1048576) (hnx : xs.length = n) (hny : ys.length = l) (hx : ArcsAt w A xs) (hy : IntsAt w B ys) :
    Calls Try.prog 37 #[.agg #[.int .i64 m, .slice A n c], .slice B l cb] w (Gives w (plainI m xs ys)) := by
  have HX := Lib.hid hnx
  have HY := Lib.hid hny
  clear hnx hny
  have hb0 : Past w (w.alloc (.cells #[.int .i64 m, .slice A n c] 30)) := (Past.refl _).alloc _
  go_enter Try.func37, Try.ntmps37
  go_wp2_with fail
  refine (implWalkOk_any m A B n c l cb xs ys _ hn hl HX.out HY.out (hx.below hb0) (hy.below hb0)).mono ?_
  rintro e w1 ⟨rfl, hb1⟩
  have b0 := cell_in (p := ⟨w.heap.size, 0, none⟩) (v := .int .i64 m) hb1 (by go_simp)
  have b1 := cell_in (p := ⟨w.heap.size, 1, none⟩) (v := .slice A n c) hb1 (by go_simp)
  cases hB : okB m xs ys with
  | false =>
    have HB := Lib.hid hB
    clear hB
    go_wp2
    go_ret
    exact ⟨_, rfl, by simp only [plainI, HB.out, Bool.false_eq_true, if_false]; exact Res.nil _ _, hb0.trans hb1⟩
  | true =>
    have HB := Lib.hid hB
    clear hB
    go_wp2_with fail
    refine (walkPlain_any m A B n c l cb xs ys _ HX.out HY.out ((hx.below hb0).below hb1) ((hy.below hb0).below hb1) HB.out).mono ?_
    rintro e w2 ⟨v, rfl, hv, hb2⟩
    go_wp2
    go_ret
    exact ⟨_, rfl, hv.lower (hb0.trans hb1).size, hb0.trans (Past.trans hb1 hb2)⟩

/-- At the head of a round: what was kept, and where the walk stands. -/
def PlainHead (nd ys tot done : List Int) (l i : Nat) : Prop := (i ≤ l ∧ ∃ fuel, PlainAt nd ys tot done i fuel) ∨ (i = l + 1 ∧ done = tot)

/-- p is where x stands last among places i to k. -/
structure LastIn (nd : List Int) (x : Int) (i p k : Nat) : Prop where
  lo : i ≤ p
  hi : p ≤ k
  here : nd[p]? = some x
  none_ : ∀ j, p < j → j ≤ k → nd[j]? ≠ some x

theorem LastIn.miss {nd : List Int} {x : Int} {i p k : Nat} (h : LastIn nd x i p k) (hne : nd[k + 1]? ≠ some x) : LastIn nd x i p (k + 1) :=
  ⟨h.lo, by have := h.hi; omega, h.here, fun j h1 h2 => by
    rcases Nat.lt_or_ge k j with hlt | hge
    · obtain rfl : j = k + 1 := by omega
      exact hne
    · exact h.none_ j h1 hge⟩
theorem LastIn.hit {nd : List Int} {x : Int} {i p k : Nat} (h : LastIn nd x i p k) (he : nd[k + 1]? = some x) : LastIn nd x i (k + 1) (k + 1) :=
  ⟨by have := h.lo; have := h.hi; omega, Nat.le_refl _, he, fun j h1 h2 => by omega⟩
theorem LastIn.last {nd : List Int} {x : Int} {i p k : Nat} (h : LastIn nd x i p k) (hl : nd.length ≤ k + 1) : IsLast nd x p :=
  ⟨h.here, fun j hj => by
    rcases Nat.lt_or_ge k j with hlt | hge
    · rw [List.getElem?_eq_none (by omega)]; simp
    · exact h.none_ j hj hge⟩


end Go.Proofs.Ytokljfeoignbcaa

namespace Go.Proofs.Ytokljfeoignbcaa
open Go.RowKit

set_option maxRecDepth 100000 in
set_option maxHeartbeats 1000000 in
theorem wkInts_same (A B : Option Addr) (n c c' : Nat) (xs : List Int) (w : World) (hn : n ≤ 1048576) (hl : xs.length = n) (hx : IntsAt w A xs) (hy : IntsAt w B xs) :
    Calls Try.prog 31 #[.slice A n c, .slice B n c'] w fun e w' => e = .returned (.bool true) ∧ Below w.heap.size w w' := by
  go_enter Try.func31, Try.ntmps31
  go_wp2
  go_loopw [5] (fun i wr => ∃ k : Nat, k ≤ n ∧ i = .int .i64 k ∧ Past w wr) (fun i _ => n - (intOf i).toNat)
  case atStart => exact ⟨0, by omega, rfl, Past.refl _⟩
  case round =>
    obtain ⟨k, hk, rfl, hb⟩ := hrel
    by_cases hlt : k < n
    · obtain ⟨x0, ha⟩ : ∃ a, xs[k]? = some a := ⟨_, List.getElem?_eq_getElem (by omega)⟩
      obtain ⟨g, o, rfl, c0⟩ := (hx.below hb) k _ ha
      obtain ⟨g', o', rfl, d0⟩ := (hy.below hb) k _ ha
      have hi : (k : Int) < (n : Int) := by omega
      have h0 : (0 : Int) ≤ (k : Int) := by omega
      clear ha hl
      go_wp2_with fail
      go_quiet (fail)
      go_wp2
      go_roundw
      case rel => exact ⟨k + 1, by omega, by go_num, hb.drewN _⟩
      case measure => simp [intOf]; omega
    · go_wp2
      go_ret
      exact ⟨rfl, hb⟩

end Go.Proofs.Ytokljfeoignbcaa

namespace Go.Proofs.Ytokljfeoignbcaa
open Go.ChangeShapes Go.WideShapes Go.ChangeAt Go.RowKit

/-- What is read behind the way. -/
structure WayS (w0 W : World) (b : Nat) (m : Int) (B : Option Addr) (k cap : Nat) (xs : List ArcD) (X : Option Addr) (ps : List Int) : Prop where
  past : Past w0 W
  arcs : ArcsAt W B xs
  n0 : W.cell? ⟨b, 0, none⟩ = some (.int .i64 m)
  n1 : W.cell? ⟨b, 1, none⟩ = some (.slice B k cap)
  way : IntsAt W X ps
theorem WayS.below {w0 W W' : World} {b : Nat} {m : Int} {B : Option Addr} {k cap : Nat} {xs : List ArcD} {X : Option Addr} {ps : List Int} (h : WayS w0 W b m B k cap xs X ps) (hb : Past W W') : WayS w0 W' b m B k cap xs X ps :=
  ⟨h.past.trans hb, h.arcs.below hb, cell_in hb h.n0, cell_in hb h.n1, h.way.below hb⟩
theorem WayS.drew {w0 W : World} {b : Nat} {m : Int} {B : Option Addr} {k cap : Nat} {xs : List ArcD} {X : Option Addr} {ps : List Int} (h : WayS w0 W b m B k cap xs X ps) : WayS w0 W.drew b m B k cap xs X ps := h.below (Past.refl W).drew

set_option maxRecDepth 100000 in
set_option maxHeartbeats 2000000 in
theorem fnNearWalk_walk (A : Option Addr) (n c : Nat) (w : World) (hn : n ≤ c) (hc : c ≤ maxLen) (hb : BytesAt w A n) :
    Calls Try.prog 10 #[.slice A n c] w fun e w' => e = .returned (.bool true) ∧ Below w.heap.size w w' := by
  by_cases h1 : 1048576 < n
  · have h1' : (1048576 : Int) < (n : Int) := by omega
    go_enter Try.func10, Try.ntmps10
    go_wp2
    go_ret
    exact ⟨rfl, Below.refl _ _⟩
  have h1' : ¬ (1048576 : Int) < (n : Int) := by omega
  go_enter Try.func10, Try.ntmps10
  go_wp2_with fail
  refine (drawNearWalk_any A n c w hn hc hb).mono ?_
  rintro e w1 ⟨m, B, k, cap, xs, na, nb, rfl, hxk, hk, hx1, ⟨_, hform⟩, hb1⟩
  have HX := Lib.hid hxk
  clear hxk hb hn hc
  have hkk : k ≤ 1048576 := by omega
  have hpW : Past w1 (w1.alloc (.cells #[.int .i64 m, .slice B k cap] 30)) := (Past.refl w1).alloc _
  go_wp2_with fail
  refine (implNearWalk_all m B k cap xs na nb _ hkk HX.out (hx1.below hpW) hform).mono ?_
  rintro e w2 ⟨v2, rfl, hv2, hb2⟩
  have b0 := cell_in (p := ⟨w1.heap.size, 0, none⟩) (v := .int .i64 m) hb2 (by go_simp)
  have b1 := cell_in (p := ⟨w1.heap.size, 1, none⟩) (v := .slice B k cap) hb2 (by go_simp)
  have hx2 := (hx1.below hpW).below hb2
  have hp2 : Past w w2 := Past.trans hb1 (hpW.trans hb2)
  obtain ⟨X, cx, rfl, hs2, hoX⟩ := hv2.form
  obtain ⟨ps, hps⟩ : ∃ ps, ps = nearWI m xs na nb := ⟨_, rfl⟩
  obtain ⟨bb, hbb⟩ : ∃ bb, bb = nearWB m xs na nb := ⟨_, rfl⟩
  rw [← hps] at hs2 ⊢
  rw [← hbb]
  obtain ⟨R, hR⟩ : ∃ R, R = ps.length := ⟨_, rfl⟩
  have hR1 : R ≤ 1048576 := by rw [hR, hps]; exact nearWI_len m xs na nb
  rw [← hR]
  have HPS := Lib.hid hps
  have HBB := Lib.hid hbb
  have HR := Lib.hid hR.symm
  clear hps hR hv2 hx1 hb1 hb2 hpW hbb hoX
  go_wp2_with fail
  refine (specNearWalk_any m B k cap xs na nb _ hkk HX.out hx2).mono ?_
  rintro e w3 ⟨v3, rfl, hv3, hb3⟩
  obtain ⟨F, cf, rfl, hs3, _⟩ := hv3.form
  rw [← HPS.out] at hs3 ⊢
  rw [← HBB.out, HR.out]
  have b0 := cell_in hb3 b0
  have b1 := cell_in hb3 b1
  have hx3 := hx2.below hb3
  have hs23 := hs2.below hb3
  have hp3 := Past.trans hp2 hb3
  clear hv3 hx2 hs2 hb3 hp2
  have hbe : (bb != bb) = false := by cases bb <;> rfl
  have hbe' : (bb == bb) = true := by cases bb <;> rfl
  go_wp2_with fail
  refine (wkInts_same X F R cx cf ps _ hR1 HR.out hs23 hs3).mono ?_
  rintro e w4 ⟨rfl, hb4⟩
  have b0 := cell_in hb4 b0
  have b1 := cell_in hb4 b1
  have hx4 := hx3.below hb4
  have hs4 := hs23.below hb4
  have hs34 := hs3.below hb4
  have hp4 := Past.trans hp3 hb4
  clear hx3 hs23 hs3 hb4 hp3
  cases hC : bb with
  | false =>
    subst hC
    clear hbe hbe'
    go_wp2_with fail
    refine (wkInts_same X F R cx cf ps _ hR1 HR.out hs4 hs34).mono ?_
    rintro e w7 ⟨rfl, hb7⟩
    go_wp2
    go_ret
    exact ⟨rfl, Past.trans hp4 hb7⟩
  | true =>
    subst hC
    obtain ⟨g1, g2, g3, g4, g5, g6, g7, g8, g9, M, rfl⟩ := near_gone HBB.out.symm
    rw [← HPS.out] at g1 g2 g3 g4 g5 g6
    rw [Int.toNat_natCast] at g7
    obtain ⟨T, rfl⟩ : ∃ T : Nat, nb = (T : Int) := ⟨nb.toNat, by omega⟩
    have hTM : T < M := by omega
    have t0 : (0 : Int) ≤ (T : Int) := by omega
    have t1 : (T : Int) < (M : Int) := g9
    obtain ⟨z, hz⟩ : ∃ z, z = costI (M : Int) xs ps := ⟨_, rfl⟩
    have hat : at_ (nearI (M : Int) xs na) (T : Int) = z := by rw [hz]; exact g2.symm
    have HZ := Lib.hid hz.symm
    have HAT := Lib.hid hat
    have HLEN := Lib.hid g7
    have G1 := Lib.hid g1
    have G3 := Lib.hid g3
    have G4 := Lib.hid g4
    have G5 := Lib.hid g5
    have hS0 : WayS w w4 w1.heap.size (M : Int) B k cap xs X ps := ⟨hp4, hx4, b0, b1, hs4⟩
    clear hbe hbe' hs34 g1 g2 g3 g4 g5 g6 g7 hz hat hp4 hx4 hs4
    go_upto_region 8 with (fail)
    have hS := hS0.drew
    go_region_with (first
      | (go_at_call 35; refine (wkEnds_true (M : Int) B X k cap R cx xs ps na (T : Int) _ hkk hR1 HX.out HR.out hS.arcs hS.way G1.out G4.out G5.out).mono ?_; rintro e w9 ⟨rfl, hb9⟩; have hS := hS.below hb9; have b0 := hS.n0; have b1 := hS.n1; clear hb9)
      | (go_at_call 36; refine (implWalkCost_any (M : Int) B X k cap R cx xs ps _ hkk hR1 HX.out HR.out hS.arcs hS.way).mono ?_; rintro e w9 ⟨rfl, hb9⟩; rw [HZ.out]; have hS := hS.below hb9; have b0 := hS.n0; have b1 := hS.n1; clear hb9)
      | (go_at_call 18; refine (implNearAll_any (M : Int) B k cap xs na _ hkk HX.out hS.arcs).mono ?_; rintro e w9 ⟨v9, rfl, hv9, hb9⟩; obtain ⟨Y, cy, rfl, hy9, _⟩ := hv9.form; rw [HLEN.out]; obtain ⟨gy, oy, rfl, cT⟩ := hy9 T z (by rw [← HAT.out]; exact getElem_at _ T (by rw [HLEN.out]; exact hTM)); have hS := hS.below hb9; have b0 := hS.n0; have b1 := hS.n1; clear hb9 hv9 hy9)
      | (go_at_call 37; refine (implWalkPlain_any (M : Int) B X k cap R cx xs ps _ hkk hR1 HX.out HR.out hS.arcs hS.way).mono ?_; rintro e w9 ⟨v9, rfl, hv9, hb9⟩; rw [G3.out] at hv9; obtain ⟨Y2, cy2, rfl, hy2, _⟩ := hv9.form; rw [HR.out]; have hS := hS.below hb9; have b0 := hS.n0; have b1 := hS.n1; clear hb9 hv9)
      | (go_at_call 31; refine (wkInts_same Y2 X R cy2 cx ps _ hR1 HR.out hy2 hS.way).mono ?_; rintro e w9 ⟨rfl, hb9⟩; have hS := hS.below hb9; clear hb9))
    all_goals go_wp2
    all_goals go_ret
    all_goals exact ⟨rfl, hS.past⟩

set_option maxRecDepth 100000 in
theorem fnNearWalk_lifted (os : Os) (started : os.Started) (H : Type) (enc : TypeId × Value → H) :
    ReturnsInHanded {} Try.checked os 10 .any (Rows.fnNearWalkSpec.pre6 enc Try.prog Try.f10 Rows.fnNearWalkRow.domain false) (Rows.fnNearWalkSpec.post enc Try.prog Try.f10 false true false false) := by
  refine returnsInHanded_of_change (C := Try.checked) own started (by kernel_rfl) Try.func10
    (ChangeSpec.witness6 (enc := enc) (C := Try.checked) false ⟨#[], #[.slice none 0 0], []⟩ 8 (by kernel_rfl) (by kernel_rfl) (by kernel_rfl) (by kernel_rfl)) ?_
  intro W base args ds gs before hval0 hW hcnd _
  have hval : ∀ (j : Nat) t v, Try.f10.params[j]? = some t → args[j]? = some v → Value.okWide Try.prog W .any base t v := hval0
  have hW' := hW
  obtain ⟨p, q, hA0, hV, rfl, hfz, hnd⟩ := hW
  have hA : DataW.TrodAll enc Try.prog W 0 (fun _ => true) true Try.f10.params.toList args.toList ds p := hA0
  rw [Try.params10] at hA hval
  obtain ⟨v0, vs0, d0, ds0, p0, q0, hargs, rfl, rfl, h0, r0⟩ := trodAll_cons hA
  obtain ⟨rfl, rfl, rfl⟩ := trodAll_nil r0
  obtain rfl : args = #[v0] := by cases args; simp_all
  obtain ⟨rfl, rfl⟩ := trodVars_none hV
  have k0 := h0
  have lt0 := places_lt k0
  obtain ⟨A0, n0, c0, rfl, hn0, hc0, hb0⟩ := open_bytes (hval 0 40 v0 rfl rfl) h0
  clear hA0 hval0
  refine (fnNearWalk_walk A0 n0 c0 W hn0 hc0 hb0).mono fun e W' ⟨he, bel⟩ => ?_
  subst he
  exact ⟨_, rfl, _, _, _, [], _, [], hW', trodAll_mk1 (shut_bool Try.underlying4 _), (trodAll_cons_mk (Below.trod laidOut (by kernel_rfl) (of_decide_eq_true (by kernel_rfl)) k0 bel lt0) trodAll_mk0), rfl, bel.frame _, fun h => by cases h⟩

/-- The given statement. -/
theorem fnNearWalk_proved : Rows.FnNearWalkSaid :=
  OpenClaim.holds_of_wide 10 Try.f10 rfl rfl rfl rfl rfl rfl rfl ⟨rfl, rfl, rfl, rfl, rfl⟩ rfl rfl rfl rfl rfl (by kernel_rfl) Try.func10 (by kernel_rfl)
    (of_decide_eq_true (by kernel_rfl)) (by unfold Func.isWrapper; first | (rw [if_pos (by decide +kernel)]; kernel_rfl) | (rw [if_neg (by decide +kernel)]; exact ⟨rfl, rfl⟩))
    (fun os started H enc _ => fnNearWalk_lifted os started H enc)

end Go.Proofs.Ytokljfeoignbcaa
