/-
  FnNearTree answers true at every input: from each node one goes on along the best way. No condition.
-/
import Derived.Test.YtokljfeoignbcaaDrawNetOut
import Derived.Test.YtokljfeoignbcaaOpenW
import Derived.Test.YtokljfeoignbcaaDraw
import Derived.Test.YtokljfeoignbcaaNLen
import Derived.Test.YtokljfeoignbcaaNCosts
import Derived.Test.YtokljfeoignbcaaNear
import Derived.Test.YtokljfeoignbcaaBack4
import Derived.Test.YtokljfeoignbcaaFirst
import Derived.Test.YtokljfeoignbcaaPTree2
import Derived.Test.YtokljfeoignbcaaWalkT
import Derived.Test.YtokljfeoignbcaaIn
namespace Go.Proofs.Ytokljfeoignbcaa
open Go.RowKit

set_option maxRecDepth 100000 in
set_option maxHeartbeats 4000000 in
theorem drawNearTree_any (A : Option Addr) (n c : Nat) (w : World) (hn : n ≤ c) (hc : c ≤ maxLen) (hb : BytesAt w A n) :
    Calls Try.prog 38 #[.slice A n c] w (DrawNodeG w) := by
  have hpV : Past w (w.alloc (.cells #[.int .i64 0, .slice none 0 0] 30)) := (Past.refl w).alloc _
  go_enter Try.func38, Try.ntmps38
  go_wp2_with fail
  refine (drawNetOut_any A n c _ hn hc (hb.below hpV)).mono ?_
  rintro e w1 ⟨m, B, k, cap, xs, z, rfl, hxk, hk, hx1, ⟨hfar, hform⟩, hb1⟩
  have r0 : RowN w1 w.heap.size 30 2 := by
    have r : RowN (w.alloc (.cells #[.int .i64 0, .slice none 0 0] 30)) w.heap.size 30 2 := ⟨_, heap_alloc_new w _, rfl⟩
    exact r.keep (hb1.block _ r.lt)
  have hp1 : Past w w1 := hpV.trans hb1
  obtain ⟨y0, e0⟩ := r0.cell (i := 0) (by omega)
  obtain ⟨y1, e1⟩ := r0.cell (i := 1) (by omega)
  have z0 := r0.frozen 0
  have z1 := r0.frozen 1
  rw [World.size_alloc] at hfar
  have hneB := hfar w.heap.size (by omega)
  have hx5 := (hx1.far ⟨w.heap.size, 0, none⟩ (.int .i64 m) hneB).far ⟨w.heap.size, 1, none⟩ (.slice B k cap) hneB
  have hbel := Below.setCell (Below.setCell hp1 (p := ⟨w.heap.size, 0, none⟩) (by simp) (.int .i64 m)) (p := ⟨w.heap.size, 1, none⟩) (by simp) (.slice B k cap)
  have hfar' : ∀ g, g < w.heap.size → blk B ≠ some g := fun g hg => hfar g (by omega)
  clear hb1 hx1 hfar hpV r0 hp1
  go_wp2
  exact bodyPost_ret (v := .tuple #[.agg #[.int .i64 m, .slice B k cap], .int .i64 z]) (by simp [results, Try.results38, go_sem, e0, e1]) rfl ⟨m, B, k, cap, xs, z, rfl, hxk, hk, hx5, ⟨hfar', hform⟩, hbel⟩

end Go.Proofs.Ytokljfeoignbcaa

namespace Go.Proofs.Ytokljfeoignbcaa
open Go.ChangeShapes Go.WideShapes Go.ChangeAt Go.RowKit Go.Deep Go.Joins

set_option maxRecDepth 100000 in
theorem open_bytes {H : Type} {enc : TypeId × Value → H} {W : World} {r : Reach} {b0 : Nat} {v : Value} {d : DataW H} {p : List MemPlace} (hv : Value.okWide Try.prog W r b0 40 v)
    (h : DataW.Trod enc Try.prog W 0 (fun _ => true) true 40 v d p) : ∃ (A : Option Addr) (n c : Nat), v = .slice A n c ∧ n ≤ c ∧ c ≤ maxLen ∧ BytesAt W A n := by
  obtain ⟨a0, len, cap, rfl⟩ := okWide_slice Try.underlying40 hv
  obtain ⟨fuel, hf⟩ := h
  rcases open_ints Try.underlying40 Try.underlying5 (by kernel_rfl) (show DataW.trod enc Try.prog W 0 (fun _ => true) true fuel 40 [.slice a0 len cap] = some _ by simpa [Value.cells] using hf) with ⟨hcs, _⟩ | ⟨a, len', cap', zs, hcs, _, hl, hm, hz, _, hcell, hwf⟩
  · injection hcs with hcs
    injection hcs with e1 e2 e3
    subst e1 e2 e3
    exact ⟨none, 0, 0, rfl, Nat.le_refl _, Nat.zero_le _, fun k hk => absurd hk (by omega)⟩
  · injection hcs with hcs
    injection hcs with e1 e2 e3
    subst e1 e2 e3
    simp only [if_true] at hz
    refine ⟨some a, _, _, rfl, hl, hm, fun k hk => ?_⟩
    have hc := hcell k (by omega)
    obtain ⟨g, o, rfl⟩ := spotless (hcell 0 (by omega))
    rw [addr_add] at hc
    have hw := hwf (zs.getD k 0) (by rw [List.getD_eq_getElem?_getD, List.getElem?_eq_getElem (by omega)]; simp)
    refine ⟨g, o, _, rfl, hc, ?_⟩
    simp only [Lit.wf, Bool.and_eq_true, decide_eq_true_eq] at hw
    rw [show IntKind.u8.min = 0 by decide, show IntKind.u8.max = 255 by decide] at hw
    exact hw

end Go.Proofs.Ytokljfeoignbcaa

namespace Go.Proofs.Ytokljfeoignbcaa
open Go.RowKit

theorem net_ne {m : Int} {xs : List ArcD} (h : netB m xs = true) : ∀ a ∈ xs, a.f ≠ a.t := fun a ha => by
  obtain ⟨_, _, h3⟩ := (netB_iff _ _).1 h
  have := h3 a ha
  simp only [arcB, Bool.and_eq_true, Bool.not_eq_true'] at this
  simpa using this.2.2.1

set_option maxRecDepth 100000 in
set_option maxHeartbeats 1000000 in
theorem implNearAll_any (m : Int) (A : Option Addr) (n c : Nat) (xs : List ArcD) (s : Int) (w : World) (hn : n ≤ 1048576) (hnx : xs.length = n) (hx : ArcsAt w A xs) :
    Calls Try.prog 18 #[.agg #[.int .i64 m, .slice A n c], .int .i64 s] w (Gives w (nearI m xs s)) := by
  have HX := Lib.hid hnx
  clear hnx
  go_enter Try.func18, Try.ntmps18
  have hb0 : Past w ((w.alloc (.cells #[.int .i64 m, .slice A n c] 30)).alloc (.cells #[.int .i64 s] 3)) := ((Past.refl _).alloc _).alloc _
  have hz : IntsAt ((w.alloc (.cells #[.int .i64 m, .slice A n c] 30)).alloc (.cells #[.int .i64 s] 3)) (some ⟨w.heap.size + 1, 0, none⟩) [s] := fun k y hk => by
    cases k with
    | zero => simp at hk; subst hk; exact ⟨_, _, rfl, by go_simp⟩
    | succ k => simp at hk
  go_wp2_with fail
  refine (netHas_any m A n c xs _ 1 1 [s] _ hn HX.out (hx.below hb0) (by omega) rfl hz).mono ?_
  rintro e w1 ⟨rfl, hb1⟩
  have b0 := cell_in (p := ⟨w.heap.size, 0, none⟩) (v := .int .i64 m) hb1 (by go_simp)
  have b1 := cell_in (p := ⟨w.heap.size, 1, none⟩) (v := .slice A n c) hb1 (by go_simp)
  have hx1 := (hx.below hb0).below hb1
  have hp1 := hb0.trans hb1
  have hH : (netB m xs && [s].all (fun z => inB z 0 (m - 1))) = hereB m xs s := by simp [hereB]
  rw [hH]
  clear hH hb0 hz hb1
  cases hB : hereB m xs s with
  | false =>
    have HB := Lib.hid hB
    clear hB
    go_wp2
    go_ret
    exact ⟨_, rfl, by rw [nearI, HB.out]; exact Res.nil _ _, hp1⟩
  | true =>
    obtain ⟨hN, h0, h1⟩ := (hereB_iff _ _ _).1 hB
    obtain ⟨M, rfl, h3, h8⟩ := here_nat hN
    obtain ⟨S, rfl⟩ : ∃ S : Nat, s = (S : Int) := ⟨s.toNat, by omega⟩
    have hS : S < M := by omega
    have h16 : n ≤ 16 := by rw [← HX.out]; exact ((netB_iff _ _).1 hN).2.1
    have HB := Lib.hid hB
    have HN := Lib.hid hN
    clear hB hN
    go_wp2_with fail
    refine (lengths_any M S A n c xs _ h16 HX.out hx1 (arcsIn_net HN.out) (net_ne HN.out) h3 h8 hS).mono ?_
    rintro e w2 ⟨g, L, rfl, hrow, hLl, hlabs, hopen, hb2⟩
    have HL := Lib.hid hlabs
    have HO := Lib.hid hopen
    clear hlabs hopen
    have HG := Lib.hid (fun j a (hj : L[j]? = some a) => hrow.get hLl hj)
    clear hrow
    go_wp2_with fail
    refine (costsOf_any g M M L _ (by omega) hLl HG.out).mono ?_
    rintro e w3 ⟨v3, rfl, hv3, hb3⟩
    go_wp2
    go_ret
    have hnear := HL.out.near (arcsIn_net HN.out) ⟨h0, h1⟩ h8 HO.out
    exact ⟨_, rfl, by rw [nearI, HB.out, if_pos rfl, Int.toNat_natCast, ← hnear]; exact hv3.lower (Nat.le_trans hp1.size hb2.size), (hp1.trans hb2).trans hb3⟩

end Go.Proofs.Ytokljfeoignbcaa

namespace Go.Proofs.Ytokljfeoignbcaa
open Go.RowKit

theorem flip_flip' (a : ArcD) : flip (flip a) = a := rfl
theorem arcB_flip' {m : Int} {a : ArcD} (h : arcB m a = true) : arcB m (flip a) = true := by
  unfold arcB at h ⊢
  unfold flip
  simp only [Bool.and_eq_true, Bool.not_eq_true', beq_eq_false_iff_ne] at h ⊢
  exact ⟨h.2.1, h.1, fun e => h.2.2.1 e.symm, h.2.2.2⟩
theorem netB_flip' {m : Int} {xs : List ArcD} (h : netB m xs = true) : netB m (xs.map flip) = true := by
  obtain ⟨h1, h2, h3⟩ := (netB_iff _ _).1 h
  refine (netB_iff _ _).2 ⟨h1, by rw [List.length_map]; exact h2, fun a ha => ?_⟩
  obtain ⟨b, hb, rfl⟩ := List.mem_map.1 ha
  exact arcB_flip' (h3 b hb)
/-- What it costs from each to a node. -/
def nearTI (m : Int) (xs : List ArcD) (s : Int) : List Int := if hereB m xs s then nearL m.toNat (xs.map flip) s else []
theorem nearTI_back (m : Int) (xs : List ArcD) (s : Int) : nearI (backN m xs) (backL m xs) s = nearTI m xs s := by
  unfold nearI nearTI backN backL hereB
  cases hB : netB m xs with
  | true => simp only [if_true, netB_flip' hB]
  | false =>
    have : netB 0 [] = false := by decide
    simp [this]
theorem nearTI_len (m : Int) (xs : List ArcD) (s : Int) : (nearTI m xs s).length ≤ 1048576 := by
  rw [← nearTI_back]
  exact nearI_len _ _ _

set_option maxHeartbeats 1000000 in
theorem specNearTo_any (m : Int) (A : Option Addr) (n c : Nat) (xs : List ArcD) (s : Int) (w : World) (hn : n ≤ 1048576) (hnx : xs.length = n) (hx : ArcsAt w A xs) :
    Calls Try.prog 24 #[.agg #[.int .i64 m, .slice A n c], .int .i64 s] w (Gives w (nearTI m xs s)) := by
  have HX := Lib.hid hnx
  clear hnx
  have hb0 : Past w (w.alloc (.cells #[.int .i64 m, .slice A n c] 30)) := (Past.refl _).alloc _
  go_enter Try.func24, Try.ntmps24
  go_wp2_with fail
  refine (l1Ok_any m A n c xs _ hn HX.out (hx.below hb0)).mono ?_
  rintro e w1 ⟨rfl, hb1⟩
  have b0 := cell_in (p := ⟨w.heap.size, 0, none⟩) (v := .int .i64 m) hb1 (by go_simp)
  have b1 := cell_in (p := ⟨w.heap.size, 1, none⟩) (v := .slice A n c) hb1 (by go_simp)
  have hx1 := (hx.below hb0).below hb1
  have hp1 := hb0.trans hb1
  cases hB : netB m xs with
  | false =>
    have HB := Lib.hid hB
    clear hB
    go_wp2
    go_ret
    exact ⟨_, rfl, by rw [nearTI, hereB, HB.out]; exact Res.nil _ _, hp1⟩
  | true =>
    obtain ⟨M, rfl, h1, h8⟩ := here_nat hB
    have h16 : n ≤ 16 := by rw [← HX.out]; exact ((netB_iff _ _).1 hB).2.1
    have HB := Lib.hid hB
    clear hB
    go_wp2_with fail
    refine (l1In_any _ _ _ _).mono ?_
    rintro e w2 ⟨rfl, rfl⟩
    cases hI : inB s 0 ((M : Int) - 1) with
    | false =>
      have HI := Lib.hid hI
      clear hI
      go_wp2
      go_ret
      exact ⟨_, rfl, by rw [nearTI, hereB, HB.out, HI.out]; exact Res.nil _ _, hp1⟩
    | true =>
      have hs := (inB_iff _ _ _).1 hI
      have HI := Lib.hid hI
      clear hI
      go_wp2_with fail
      refine (l1Back_any (M : Int) A n c xs _ h16 HX.out hx1).mono ?_
      rintro e w3 ⟨A3, c3, rfl, hx3, _, hb3⟩
      obtain ⟨N3, hN3⟩ : ∃ N3, (xs.map flip).length = N3 := ⟨_, rfl⟩
      have h3 : N3 ≤ 16 := by rw [← hN3, List.length_map, HX.out]; exact h16
      rw [hN3]
      have HN3 := Lib.hid hN3
      clear hN3
      go_wp2_with fail
      refine (l3All_any M s A3 N3 c3 (xs.map flip) _ h8 HN3.out (by omega) hx3 (arcsIn_net (netB_flip' HB.out)) (by omega)).mono ?_
      rintro e w4 ⟨v4, rfl, hv4, hb4⟩
      go_wp2
      go_ret
      exact ⟨_, rfl, by rw [nearTI, hereB, HB.out, HI.out]; exact hv4.lower (Nat.le_trans hp1.size hb3.size), (hp1.trans hb3).trans hb4⟩

set_option maxHeartbeats 1000000 in
theorem implNearTo_all (m : Int) (A : Option Addr) (n c : Nat) (xs : List ArcD) (s : Int) (w : World) (hn : n ≤ 1048576) (hnx : xs.length = n) (hx : ArcsAt w A xs) (ho : (A = none ∧ n = 0) ∨ ∃ g o, A = some ⟨g, o, none⟩) :
    Calls Try.prog 25 #[.agg #[.int .i64 m, .slice A n c], .int .i64 s] w (Gives w (nearTI m xs s)) := by
  have HX := Lib.hid hnx
  clear hnx
  go_enter Try.func25, Try.ntmps25
  go_wp2_with fail
  have hb0 : Past w (w.alloc (.cells #[.int .i64 m, .slice A n c] 30)) := (Past.refl _).alloc _
  refine (implNetBack_all m A n c xs _ hn HX.out (hx.below hb0) ho).mono ?_
  rintro e w1 ⟨A1, c1, rfl, hx1, _, hb1⟩
  obtain ⟨N1, hN1⟩ : ∃ N1, (backL m xs).length = N1 := ⟨_, rfl⟩
  have h1 : N1 ≤ 1048576 := by have := backL_len m xs; have := HX.out; omega
  rw [hN1]
  have HN1 := Lib.hid hN1
  clear hN1
  go_wp2_with fail
  refine (implNearAll_any (backN m xs) A1 N1 c1 (backL m xs) s _ h1 HN1.out hx1).mono ?_
  rintro e w2 ⟨v2, rfl, hv2, hb2⟩
  go_wp2
  go_ret
  rw [nearTI_back] at hv2
  exact ⟨_, rfl, hv2.lower (Nat.le_trans hb0.size hb1.size), (hb0.trans hb1).trans hb2⟩
theorem implNearTo_any (m : Int) (g n c : Nat) (xs : List ArcD) (s : Int) (w : World) (hn : n ≤ 1048576) (hnx : xs.length = n) (hx : ArcsAt w (some ⟨g, 0, none⟩) xs) :
    Calls Try.prog 25 #[.agg #[.int .i64 m, .slice (some ⟨g, 0, none⟩) n c], .int .i64 s] w (Gives w (nearTI m xs s)) :=
  implNearTo_all m _ n c xs s w hn hnx hx (.inr ⟨_, _, rfl⟩)

end Go.Proofs.Ytokljfeoignbcaa

namespace Go.Proofs.Ytokljfeoignbcaa
open Go.RowKit

/-- The tree, of a net and a node that are there. -/
def treeTI (m : Int) (xs : List ArcD) (s : Int) : List Int := if hereB m xs s then treeM m.toNat xs s else []
theorem treeTI_len (m : Int) (xs : List ArcD) (s : Int) : (treeTI m xs s).length ≤ 1048576 := by
  unfold treeTI
  split
  · rename_i h
    rw [treeM_length]
    obtain ⟨M, e, _, h8⟩ := here_nat ((hereB_iff _ _ _).1 h).1
    subst e
    simp
    omega
  · simp

set_option maxRecDepth 100000 in
set_option maxHeartbeats 2000000 in
theorem implNearTree_all (m : Int) (A : Option Addr) (n c : Nat) (xs : List ArcD) (s : Int) (w : World) (hn : n ≤ 1048576) (hnx : xs.length = n) (hx : ArcsAt w A xs) (ho : (A = none ∧ n = 0) ∨ ∃ g o, A = some ⟨g, o, none⟩) :
    Calls Try.prog 29 #[.agg #[.int .i64 m, .slice A n c], .int .i64 s] w (Gives w (treeTI m xs s)) := by
  have HX := Lib.hid hnx
  clear hnx
  go_enter Try.func29, Try.ntmps29
  have hb0 : Past w ((w.alloc (.cells #[.int .i64 m, .slice A n c] 30)).alloc (.cells #[.int .i64 s] 3)) := ((Past.refl _).alloc _).alloc _
  have hz : IntsAt ((w.alloc (.cells #[.int .i64 m, .slice A n c] 30)).alloc (.cells #[.int .i64 s] 3)) (some ⟨w.heap.size + 1, 0, none⟩) [s] := fun k y hk => by
    cases k with
    | zero => simp at hk; subst hk; exact ⟨_, _, rfl, by go_simp⟩
    | succ k => simp at hk
  go_wp2_with fail
  refine (netHas_any m A n c xs _ 1 1 [s] _ hn HX.out (hx.below hb0) (by omega) rfl hz).mono ?_
  rintro e w1 ⟨rfl, hb1⟩
  have b0 := cell_in (p := ⟨w.heap.size, 0, none⟩) (v := .int .i64 m) hb1 (by go_simp)
  have b1 := cell_in (p := ⟨w.heap.size, 1, none⟩) (v := .slice A n c) hb1 (by go_simp)
  have hx1 := (hx.below hb0).below hb1
  have hp1 := hb0.trans hb1
  have hH : (netB m xs && [s].all (fun z => inB z 0 (m - 1))) = hereB m xs s := by simp [hereB]
  rw [hH]
  clear hH hb0 hz hb1
  cases hB : hereB m xs s with
  | false =>
    have HB := Lib.hid hB
    clear hB
    go_wp2
    go_ret
    exact ⟨_, rfl, by rw [treeTI, HB.out]; exact Res.nil _ _, hp1⟩
  | true =>
    obtain ⟨hN, h0, h1⟩ := (hereB_iff _ _ _).1 hB
    obtain ⟨M, rfl, h3, h8⟩ := here_nat hN
    obtain ⟨S, rfl⟩ : ∃ S : Nat, s = (S : Int) := ⟨s.toNat, by omega⟩
    have hS : S < M := by omega
    have h16 : n ≤ 16 := by rw [← HX.out]; exact ((netB_iff _ _).1 hN).2.1
    have HB := Lib.hid hB
    have HN := Lib.hid hN
    clear hB hN
    go_wp2_with fail
    refine (implNetBack_all (M : Int) A n c xs _ hn HX.out hx1 ho).mono ?_
    rintro e w2 ⟨A2, c2, rfl, hx2, _, hb2⟩
    have hbN : backN (M : Int) xs = (M : Int) := by rw [backN, HN.out, if_pos rfl]
    have hbL : backL (M : Int) xs = xs.map flip := by rw [backL, HN.out, if_pos rfl]
    rw [hbN]
    rw [hbL] at hx2 ⊢
    obtain ⟨K2, hK2⟩ : ∃ K2, (xs.map flip).length = K2 := ⟨_, rfl⟩
    have hK3 : K2 ≤ 16 := by rw [← hK2, List.length_map, HX.out]; exact h16
    rw [hK2]
    have HK2 := Lib.hid hK2
    have b0 := cell_in hb2 b0
    have b1 := cell_in hb2 b1
    have hx2' := hx1.below hb2
    have hp2 := hp1.trans hb2
    clear hK2 hbN hbL hb2
    go_wp2_with fail
    refine (lengths_any M S A2 K2 c2 (xs.map flip) _ hK3 HK2.out hx2 (arcsIn_net (netB_flip' HN.out)) (net_ne (netB_flip' HN.out)) h3 h8 hS).mono ?_
    rintro e W ⟨g, L, rfl, hrow, hLl, hlabs, hopen, hb3⟩
    have hT : TreeL M xs (S : Int) L := ⟨hlabs, hopen, arcsIn_net HN.out, ⟨h0, h1⟩, h8⟩
    have hLe := hT.eq
    have HT := Lib.hid hT
    have HG := Lib.hid (fun j a (hj : L[j]? = some a) => hrow.get hLl hj)
    have HLE := Lib.hid hLe
    have b0 := cell_in hb3 b0
    have b1 := cell_in hb3 b1
    have hxW := hx2'.below hb3
    have hpW := hp2.trans hb3
    have hmk := makeInt M (by omega)
    clear hlabs hopen hrow hT hLe hb3 hx2 hx1 hx2'
    go_wp2
    go_loopw [22] (fun i wr => ∃ k : Nat, k ≤ M ∧ i = .int .i64 k ∧ Past W wr ∧ MadeI wr W.heap.size 3 M (treeM M xs (S : Int)) k) (fun i _ => M - (intOf i).toNat)
    case atStart => exact ⟨0, by omega, rfl, (Past.refl _).alloc _, MadeI.start W 3 M (treeM M xs (S : Int)) (madeCells #[.int .i64 0] M) (by simp [size_madeCells])⟩
    case round =>
      obtain ⟨k, hk, rfl, hb, hmd⟩ := hrel
      have b0' := cell_in hb b0
      have b1' := cell_in hb b1
      by_cases hlt : k < M
      · have HF : Hid ((treeM M xs (S : Int))[k]? = some (treeI xs L (k : Int))) := by rw [Hid, HLE.out]; exact treeM_get M xs (S : Int) hlt
        have k0 : (0 : Int) ≤ (k : Int) := by omega
        have k1 : (k : Int) < (M : Int) := by omega
        go_wp2_with fail
        refine (firstArc_any M k A n c xs g L _ h16 HX.out (hxW.below hb) (arcsIn_net HN.out) hlt hLl (fun j a hj => ⟨cell_in hb (HG.out j a hj).1, cell_in hb (HG.out j a hj).2⟩) (fun v h0 h1 => by have := HT.out.bound v h0 h1; unfold farI at this; omega)).mono ?_
        rintro e w6 ⟨rfl, hb6⟩
        have hmd6 := hmd.below hb6
        obtain ⟨v0, e0⟩ := hmd6.1.cell (i := k) hlt
        have z0 := hmd6.1.frozen k
        have hbb := hb.trans hb6
        go_wp2
        go_roundw
        case rel => exact ⟨k + 1, by omega, by go_num, Below.setCell hbb (by simp) _, hmd6.next HF.out hlt⟩
        case measure => simp [intOf]; omega
      · obtain rfl : M = k := by omega
        have hrow : RowI wr W.heap.size (treeM M xs (S : Int)) := hmd.row (treeM_length M xs (S : Int))
        go_wp2
        go_ret
        exact ⟨_, rfl, by rw [treeTI, HB.out, if_pos rfl, Int.toNat_natCast]; exact hrow.res (treeM_length M xs (S : Int)) hpW.size (by omega), hpW.trans hb⟩
theorem implNearTree_any (m : Int) (g n c : Nat) (xs : List ArcD) (s : Int) (w : World) (hn : n ≤ 1048576) (hnx : xs.length = n) (hx : ArcsAt w (some ⟨g, 0, none⟩) xs) :
    Calls Try.prog 29 #[.agg #[.int .i64 m, .slice (some ⟨g, 0, none⟩) n c], .int .i64 s] w (Gives w (treeTI m xs s)) :=
  implNearTree_all m _ n c xs s w hn hnx hx (.inr ⟨_, _, rfl⟩)

end Go.Proofs.Ytokljfeoignbcaa

namespace Go.Proofs.Ytokljfeoignbcaa
open Go.RowKit

theorem take_snoc {α : Type} {l : List α} {k : Nat} {x : α} (h : l[k]? = some x) : l.take (k + 1) = l.take k ++ [x] := by rw [List.take_add_one, h]; rfl

set_option maxRecDepth 100000 in
set_option maxHeartbeats 2000000 in
theorem specNearTree_any (m : Int) (A : Option Addr) (n c : Nat) (xs : List ArcD) (s : Int) (w : World) (hn : n ≤ 1048576) (hnx : xs.length = n) (hx : ArcsAt w A xs) :
    Calls Try.prog 28 #[.agg #[.int .i64 m, .slice A n c], .int .i64 s] w (Gives w (treeTI m xs s)) := by
  have HX := Lib.hid hnx
  clear hnx
  obtain ⟨i0, hi, hz0, hz1, hz2⟩ := info_parts infoInt
  have hb0 : Past w (w.alloc (.cells #[.int .i64 m, .slice A n c] 30)) := (Past.refl _).alloc _
  go_enter Try.func28, Try.ntmps28
  go_wp2_with fail
  refine (l1Ok_any m A n c xs _ hn HX.out (hx.below hb0)).mono ?_
  rintro e W ⟨rfl, hb1⟩
  have b0 := cell_in (p := ⟨w.heap.size, 0, none⟩) (v := .int .i64 m) hb1 (by go_simp)
  have b1 := cell_in (p := ⟨w.heap.size, 1, none⟩) (v := .slice A n c) hb1 (by go_simp)
  have hxW := (hx.below hb0).below hb1
  have hpW := hb0.trans hb1
  clear hb0 hb1
  cases hB : netB m xs with
  | false =>
    have HB := Lib.hid hB
    clear hB
    go_wp2
    go_ret
    exact ⟨_, rfl, by rw [treeTI, hereB, HB.out]; exact Res.nil _ _, hpW⟩
  | true =>
    obtain ⟨M, rfl, h1, h8⟩ := here_nat hB
    have h16 : n ≤ 16 := by rw [← HX.out]; exact ((netB_iff _ _).1 hB).2.1
    have HB := Lib.hid hB
    clear hB
    go_wp2_with fail
    refine (l1In_any _ _ _ _).mono ?_
    rintro e w2 ⟨rfl, rfl⟩
    cases hI : inB s 0 ((M : Int) - 1) with
    | false =>
      have HI := Lib.hid hI
      clear hI
      go_wp2
      go_ret
      exact ⟨_, rfl, by rw [treeTI, hereB, HB.out, HI.out]; exact Res.nil _ _, hpW⟩
    | true =>
      have hs := (inB_iff _ _ _).1 hI
      have hsb : 0 ≤ s ∧ s < (M : Int) := by omega
      have HI := Lib.hid hI
      have HT := Lib.hid (treeL_of (arcsIn_net HB.out) hsb h8)
      clear hI hs
      have hres2 : Res (W.alloc (.cells #[] 3)) W.heap.size (.slice (some ⟨W.heap.size, 0, none⟩) 0 0) [] :=
        ⟨rfl, .inr ⟨W.heap.size, 0, #[], rfl, Nat.le_refl _, heap_alloc_new W _, Nat.le_refl _, by unfold maxLen; omega, rfl, rfl⟩⟩
      have hpa : Past W (W.alloc (.cells #[] 3)) := (Past.refl W).alloc _
      go_wp2
      go_loopw [5, 6] (fun v i wr => ∃ k : Nat, k ≤ M ∧ i = .int .i64 k ∧ Res wr W.heap.size v ((treeM M xs s).take k) ∧ Past W wr) (fun _ i _ => M - (intOf i).toNat)
      case atStart => exact ⟨0, by omega, rfl, hres2, hpa⟩
      case round =>
        obtain ⟨k, hk, rfl, hv, hbr⟩ := hrel
        clear hres2 hpa
        have b0' := cell_in hbr b0
        have b1' := cell_in hbr b1
        by_cases hlt : k < M
        · have k0 : (0 : Int) ≤ (k : Int) := by omega
          have k1 : (k : Int) < (M : Int) := by omega
          have hsn := take_snoc (treeM_get M xs s hlt)
          have hhd := HT.out.head (k : Int) k0 k1
          have hwm : wayM M xs (k : Int) s = if lab (labsOf M xs s) (k : Int) = farL then [] else wayL xs (labsOf M xs s) s (k : Int) := by
            unfold wayM farB
            by_cases e : lab (labsOf M xs s) (k : Int) = farL <;> simp [e]
          rw [← hwm] at hhd
          have HSN := Lib.hid hsn
          have HHD := Lib.hid hhd
          clear hsn hhd hwm
          go_wp2_with fail
          refine (l3Walk_any M (k : Int) s A n c xs _ h8 h1 HX.out h16 (hxW.below hbr) (arcsIn_net HB.out) ⟨k0, k1⟩ hsb).mono ?_
          rintro e w6 ⟨v6, rfl, hv6, hb6⟩
          have hv7 := hv.below hb6
          have hp6 := hbr.trans hb6
          have hsz : W.heap.size ≤ w6.heap.size := hp6.size
          obtain ⟨Z, cz, rfl, hz6, _⟩ := hv6.form
          obtain ⟨zs, hzs⟩ : ∃ zs, zs = wayM M xs (k : Int) s := ⟨_, rfl⟩
          rw [← hzs] at hz6 HHD ⊢
          obtain ⟨D, hD⟩ : ∃ D, D = ((treeM M xs s).take k).length := ⟨_, rfl⟩
          have hDk : D ≤ 8 := by rw [hD, List.length_take]; omega
          unfold Res at hv7
          rw [← hD] at hv7
          have HDD := Lib.hid hD
          clear hv6 hzs hD
          cases zs with
          | nil =>
            have ht : treeI xs (labsOf M xs s) (k : Int) = -1 := HHD.out
            have HTT := Lib.hid ht
            have hvA := hv7.alloc (.cells #[.int .i64 (-1)] 3)
            clear ht HHD
            simp only [List.length_nil]
            go_wp2_with (first | (at_builtin; refine wpList_append_own _ rfl _ _ 26 rfl W.heap.size 3 i0 (.int .i64 0) 1 8 Try.underlying26 hi hz0 hz1 hz2 rfl (by decide) _ _ _ rfl hvA ⟨w6.heap.size, 0, none⟩ 1 1 [.int .i64 (-1)] rfl rfl (cell_one_new _ _ _) (one_cell _) (by unfold maxLen; omega) (by omega) (by simp; omega) ?_; intro v' w3 hown' hgrow3 hnil3))
            go_roundw
            case rel => exact ⟨k + 1, by omega, by go_num, by rw [HSN.out, HTT.out]; exact Res.push (by rw [← HDD.out]; exact hown'), Past.grown (hp6.alloc _) hvA hgrow3 (Nat.le_refl _)⟩
            case measure => simp [intOf]; omega
          | cons z rest =>
            have ht : treeI xs (labsOf M xs s) (k : Int) = z := HHD.out
            have HTT := Lib.hid ht
            have hvA := hv7.alloc (.cells #[.int .i64 z] 3)
            obtain ⟨gz, oz, rfl, cz0⟩ := hz6 0 z rfl
            rw [Nat.add_zero] at cz0
            obtain ⟨Q, hQ⟩ : ∃ Q, Q = rest.length := ⟨_, rfl⟩
            have q0 : (0 : Int) < (Q : Int) + 1 := by omega
            have q0' : 0 < Q + 1 := by omega
            simp only [List.length_cons, ← hQ]
            clear ht HHD hQ
            go_wp2_with (first | (at_builtin; refine wpList_append_own _ rfl _ _ 26 rfl W.heap.size 3 i0 (.int .i64 0) 1 8 Try.underlying26 hi hz0 hz1 hz2 rfl (by decide) _ _ _ rfl hvA ⟨w6.heap.size, 0, none⟩ 1 1 [.int .i64 z] rfl rfl (cell_one_new _ _ _) (one_cell _) (by unfold maxLen; omega) (by omega) (by simp; omega) ?_; intro v' w3 hown' hgrow3 hnil3))
            go_roundw
            case rel => exact ⟨k + 1, by omega, by go_num, by rw [HSN.out, HTT.out]; exact Res.push (by rw [← HDD.out]; exact hown'), Past.grown (hp6.alloc _) hvA hgrow3 (Nat.le_refl _)⟩
            case measure => simp [intOf]; omega
        · obtain rfl : M = k := by omega
          have hfull : (treeM M xs s).take M = treeM M xs s := List.take_of_length_le (by rw [treeM_length]; exact Nat.le_refl _)
          rw [hfull] at hv
          clear hfull
          go_wp2
          go_ret
          exact ⟨_, rfl, by rw [treeTI, hereB, HB.out, HI.out]; exact hv.lower hpW.size, hpW.trans hbr⟩

end Go.Proofs.Ytokljfeoignbcaa

namespace Go.Proofs.Ytokljfeoignbcaa
open Go.RowKit

/-- The best way, of a net and two nodes that are there, and whether there is one. -/
def hereB2 (m : Int) (xs : List ArcD) (a b : Int) : Bool := hereB m xs a && inB b 0 (m - 1)
def nearWI (m : Int) (xs : List ArcD) (a b : Int) : List Int := if hereB2 m xs a b then wayM m.toNat xs a b else []
def nearWB (m : Int) (xs : List ArcD) (a b : Int) : Bool := hereB2 m xs a b && !(farB m.toNat xs b a)
theorem wayM_len {m : Nat} {xs : List ArcD} {a b : Int} (hx : ArcsIn m xs) (ha : 0 ≤ a ∧ a < m) (hb : 0 ≤ b ∧ b < m) (hm : m ≤ 8) : (wayM m xs a b).length ≤ 7 := by
  unfold wayM
  split
  · simp
  · rename_i h
    exact (treeL_of hx hb hm).way_few a ha.1 ha.2 (by simpa [farB] using h)
theorem hereB2_iff (m : Int) (xs : List ArcD) (a b : Int) : hereB2 m xs a b = true ↔ netB m xs = true ∧ (0 ≤ a ∧ a < m) ∧ 0 ≤ b ∧ b < m := by
  simp only [hereB2, Bool.and_eq_true, hereB_iff, inB_iff]
  constructor
  · rintro ⟨⟨h1, h2, h3⟩, h4, h5⟩; exact ⟨h1, ⟨h2, h3⟩, h4, by omega⟩
  · rintro ⟨h1, ⟨h2, h3⟩, h4, h5⟩; exact ⟨⟨h1, h2, h3⟩, h4, by omega⟩
theorem nearWI_len (m : Int) (xs : List ArcD) (a b : Int) : (nearWI m xs a b).length ≤ 1048576 := by
  unfold nearWI
  split
  · rename_i h
    obtain ⟨h1, h2, h3⟩ := (hereB2_iff _ _ _ _).1 h
    obtain ⟨M, e, _, h8⟩ := here_nat h1
    subst e
    have := wayM_len (arcsIn_net h1) h2 h3 h8
    simp only [Int.toNat_natCast]
    omega
  · simp

set_option maxRecDepth 100000 in
set_option maxHeartbeats 2000000 in
theorem specNearWalk_any (m : Int) (A : Option Addr) (n c : Nat) (xs : List ArcD) (a b : Int) (w : World) (hn : n ≤ 1048576) (hnx : xs.length = n) (hx : ArcsAt w A xs) :
    Calls Try.prog 26 #[.agg #[.int .i64 m, .slice A n c], .int .i64 a, .int .i64 b] w (GivesB w (nearWI m xs a b) (nearWB m xs a b)) := by
  have HX := Lib.hid hnx
  clear hnx
  have hb0 : Past w (w.alloc (.cells #[.int .i64 m, .slice A n c] 30)) := (Past.refl _).alloc _
  go_enter Try.func26, Try.ntmps26
  go_wp2_with fail
  refine (l1Ok_any m A n c xs _ hn HX.out (hx.below hb0)).mono ?_
  rintro e W ⟨rfl, hb1⟩
  have b0 := cell_in (p := ⟨w.heap.size, 0, none⟩) (v := .int .i64 m) hb1 (by go_simp)
  have b1 := cell_in (p := ⟨w.heap.size, 1, none⟩) (v := .slice A n c) hb1 (by go_simp)
  have hxW := (hx.below hb0).below hb1
  have hpW := hb0.trans hb1
  clear hb0 hb1
  cases hB : netB m xs with
  | false =>
    have HB := Lib.hid hB
    clear hB
    go_wp2
    refine bodyPost_ret (v := .tuple #[.slice none 0 0, .bool false]) (by simp [results, Try.results26, go_sem]) rfl ?_
    exact ⟨_, by rw [nearWB, hereB2, hereB, HB.out]; rfl, by rw [nearWI, hereB2, hereB, HB.out]; exact Res.nil _ _, hpW⟩
  | true =>
    obtain ⟨M, rfl, h1, h8⟩ := here_nat hB
    have h16 : n ≤ 16 := by rw [← HX.out]; exact ((netB_iff _ _).1 hB).2.1
    have HB := Lib.hid hB
    clear hB
    go_wp2_with fail
    refine (l1In_any _ _ _ _).mono ?_
    rintro e w2 ⟨rfl, rfl⟩
    cases hI : inB a 0 ((M : Int) - 1) with
    | false =>
      have HI := Lib.hid hI
      clear hI
      go_wp2
      refine bodyPost_ret (v := .tuple #[.slice none 0 0, .bool false]) (by simp [results, Try.results26, go_sem]) rfl ?_
      exact ⟨_, by rw [nearWB, hereB2, hereB, HB.out, HI.out]; rfl, by rw [nearWI, hereB2, hereB, HB.out, HI.out]; exact Res.nil _ _, hpW⟩
    | true =>
      have HI := Lib.hid hI
      have ha := (inB_iff _ _ _).1 hI
      clear hI
      go_wp2_with fail
      refine (l1In_any _ _ _ _).mono ?_
      rintro e w3 ⟨rfl, rfl⟩
      cases hJ : inB b 0 ((M : Int) - 1) with
      | false =>
        have HJ := Lib.hid hJ
        clear hJ
        go_wp2
        refine bodyPost_ret (v := .tuple #[.slice none 0 0, .bool false]) (by simp [results, Try.results26, go_sem]) rfl ?_
        exact ⟨_, by rw [nearWB, hereB2, hereB, HB.out, HI.out, HJ.out]; rfl, by rw [nearWI, hereB2, hereB, HB.out, HI.out, HJ.out]; exact Res.nil _ _, hpW⟩
      | true =>
        have HJ := Lib.hid hJ
        have hb := (inB_iff _ _ _).1 hJ
        clear hJ
        go_wp2_with fail
        refine (l3Walk_any M a b A n c xs _ h8 h1 HX.out h16 hxW (arcsIn_net HB.out) (by omega) (by omega)).mono ?_
        rintro e w6 ⟨v6, rfl, hv6, hb6⟩
        go_wp2
        refine bodyPost_ret (v := .tuple #[v6, .bool !farB M xs b a]) (by simp [results, Try.results26, go_sem]) rfl ?_
        exact ⟨_, by rw [nearWB, hereB2, hereB, HB.out, HI.out, HJ.out]; rfl, by rw [nearWI, hereB2, hereB, HB.out, HI.out, HJ.out]; exact hv6.lower hpW.size, hpW.trans hb6⟩

end Go.Proofs.Ytokljfeoignbcaa

namespace Go.Proofs.Ytokljfeoignbcaa
open Go.RowKit

set_option maxRecDepth 100000 in
set_option maxHeartbeats 2000000 in
theorem implNearWalk_all (m : Int) (A : Option Addr) (n c : Nat) (xs : List ArcD) (a b : Int) (w : World) (hn : n ≤ 1048576) (hnx : xs.length = n) (hx : ArcsAt w A xs) (ho : (A = none ∧ n = 0) ∨ ∃ g o, A = some ⟨g, o, none⟩) :
    Calls Try.prog 27 #[.agg #[.int .i64 m, .slice A n c], .int .i64 a, .int .i64 b] w (GivesB w (nearWI m xs a b) (nearWB m xs a b)) := by
  have HX := Lib.hid hnx
  clear hnx
  obtain ⟨i0, hi, hz0, hz1, hz2⟩ := info_parts infoInt
  go_enter Try.func27, Try.ntmps27
  have hb0 : Past w ((w.alloc (.cells #[.int .i64 m, .slice A n c] 30)).alloc (.cells #[.int .i64 a, .int .i64 b] 3)) := ((Past.refl _).alloc _).alloc _
  have hz : IntsAt ((w.alloc (.cells #[.int .i64 m, .slice A n c] 30)).alloc (.cells #[.int .i64 a, .int .i64 b] 3)) (some ⟨w.heap.size + 1, 0, none⟩) [a, b] := fun k y hk => by
    match k, hk with
    | 0, hk => simp at hk; subst hk; exact ⟨_, _, rfl, by go_simp⟩
    | 1, hk => simp at hk; subst hk; exact ⟨_, _, rfl, by go_simp⟩
    | k + 2, hk => simp at hk
  go_wp2_with fail
  refine (netHas_any m A n c xs _ 2 2 [a, b] _ hn HX.out (hx.below hb0) (by omega) rfl hz).mono ?_
  rintro e w1 ⟨rfl, hb1⟩
  have b0 := cell_in (p := ⟨w.heap.size, 0, none⟩) (v := .int .i64 m) hb1 (by go_simp)
  have b1 := cell_in (p := ⟨w.heap.size, 1, none⟩) (v := .slice A n c) hb1 (by go_simp)
  have hx1 := (hx.below hb0).below hb1
  have hp1 := hb0.trans hb1
  have hH : (netB m xs && [a, b].all (fun z => inB z 0 (m - 1))) = hereB2 m xs a b := by simp [hereB2, hereB, Bool.and_assoc]
  rw [hH]
  clear hH hb0 hz hb1
  cases hB : hereB2 m xs a b with
  | false =>
    have HB := Lib.hid hB
    clear hB
    go_wp2
    refine bodyPost_ret (v := .tuple #[.slice none 0 0, .bool false]) (by simp [results, Try.results27, go_sem]) rfl ?_
    exact ⟨_, by rw [nearWB, HB.out]; rfl, by rw [nearWI, HB.out]; exact Res.nil _ _, hp1⟩
  | true =>
    obtain ⟨hN, ⟨ha0, ha1⟩, hbb0, hbb1⟩ := (hereB2_iff _ _ _ _).1 hB
    obtain ⟨M, rfl, h3, h8⟩ := here_nat hN
    have hbh : hereB (M : Int) xs b = true := (hereB_iff _ _ _).2 ⟨hN, hbb0, hbb1⟩
    have h16 : n ≤ 16 := by rw [← HX.out]; exact ((netB_iff _ _).1 hN).2.1
    have HBH := Lib.hid hbh
    have HB := Lib.hid hB
    have HN := Lib.hid hN
    have HT := Lib.hid (treeL_of (arcsIn_net hN) ⟨hbb0, hbb1⟩ h8)
    clear hB hN hbh
    go_wp2_with fail
    refine (implNearTree_all (M : Int) A n c xs b _ hn HX.out hx1 ho).mono ?_
    rintro e W ⟨v2, rfl, hv2, hb2⟩
    have b0 := cell_in hb2 b0
    have b1 := cell_in hb2 b1
    have hxW := hx1.below hb2
    have hpW := hp1.trans hb2
    obtain ⟨Z, cz, rfl, hz2', _⟩ := hv2.form
    have htr : treeTI (M : Int) xs b = treeM M xs b := by rw [treeTI, HBH.out, if_pos rfl, Int.toNat_natCast]
    rw [htr, treeM_length]
    rw [htr] at hz2'
    have hcell : ∀ v : Int, 0 ≤ v → v < M → ∃ g o, Z = some ⟨g, o, none⟩ ∧ W.cell? ⟨g, o + v.toNat, none⟩ = some (.int .i64 (treeI xs (labsOf M xs b) v)) := fun v h0 h1 => by
      obtain ⟨g, o, e, h⟩ := hz2' v.toNat _ (treeM_get M xs b (v := v.toNat) (by omega))
      refine ⟨g, o, e, ?_⟩
      rw [h, show ((v.toNat : Nat) : Int) = v by omega]
    obtain ⟨gZ, oZ, rfl, _⟩ := hcell b hbb0 hbb1
    have hcell2 : ∀ v : Int, 0 ≤ v → v < M → W.cell? ⟨gZ, oZ + v.toNat, none⟩ = some (.int .i64 (treeI xs (labsOf M xs b) v)) := fun v h0 h1 => by
      obtain ⟨g, o, e, h⟩ := hcell v h0 h1
      injection e with e
      injection e with e1 e2
      subst e1 e2
      exact h
    obtain ⟨L, hL⟩ : ∃ L, L = labsOf M xs b := ⟨_, rfl⟩
    have hfar : farB M xs b a = decide (lab L a = farL) := by rw [hL]; rfl
    have hway : wayM M xs a b = if farB M xs b a then [] else wayL xs L b a := by rw [hL]; rfl
    rw [← hL] at hcell2 HT
    have HC := Lib.hid hcell2
    have HWAY := Lib.hid hway
    have HFAR := Lib.hid hfar
    have hgW : gZ < W.heap.size := lt_of_cell (hcell2 b hbb0 hbb1)
    clear hcell hcell2 hz2' hv2 htr hL hway hfar hb2 hx1
    go_wp2
    go_loopw [9, 10] (fun v q wr => ∃ (at' : Int) (zs : List Int), q = .int .i64 at' ∧ 0 ≤ at' ∧ at' < M ∧ (lab L at' = farL ↔ lab L a = farL) ∧ Res wr W.heap.size v zs ∧ (lab L a ≠ farL → wayL xs L b a = zs ++ wayL xs L b at') ∧ zs.length + (lab L at').x1.toNat ≤ 7 ∧ Past W wr) (fun _ q _ => (lab L (intOf q)).x1.toNat)
    case atStart => exact ⟨a, [], rfl, ha0, ha1, Iff.rfl, Res.nil _ _, fun _ => rfl, by have := HT.out.bound a ha0 ha1; simp; omega, Past.refl _⟩
    case round =>
      obtain ⟨at', zs, rfl, t0, t1, hiff, hv, hzs, hzl, hbr⟩ := hrel
      by_cases hat : at' = b
      · subst hat
        have hne : (at' != at') = false := by simp
        have hfa : lab L a ≠ farL := fun e => by
          have := hiff.2 e
          rw [HT.out.lab_to] at this
          unfold farL farI at this
          simp at this
        have hB2 : farB M xs at' a = false := by rw [HFAR.out]; simpa using hfa
        have hzs := hzs hfa
        rw [HT.out.wayL_to, List.append_nil] at hzs
        have HZ := Lib.hid hzs
        have HB2 := Lib.hid hB2
        clear hzs hB2 hne
        go_wp2
        refine bodyPost_ret (v := .tuple #[u9, .bool true]) (by simp [results, Try.results27, go_sem]) rfl ?_
        refine ⟨_, by rw [nearWB, HB.out, Int.toNat_natCast, HB2.out]; rfl, ?_, hpW.trans hbr⟩
        rw [nearWI, HB.out, if_pos rfl, Int.toNat_natCast, HWAY.out, HB2.out, if_neg (by simp), HZ.out]
        exact hv.lower hpW.size
      · have hne : (at' != b) = true := by simpa using hat
        have cA := cell_in hbr (HC.out at' t0 t1)
        by_cases hf : lab L at' = farL
        · have hB2 : farB M xs b a = true := by rw [HFAR.out]; simpa using hiff.1 hf
          rw [HT.out.none at' (.inr hf)] at cA
          have HB2 := Lib.hid hB2
          clear hB2 hf hiff
          go_wp2
          refine bodyPost_ret (v := .tuple #[.slice none 0 0, .bool false]) (by simp [results, Try.results27, go_sem]) rfl ?_
          refine ⟨_, by rw [nearWB, HB.out, Int.toNat_natCast, HB2.out]; rfl, ?_, hpW.trans hbr⟩
          rw [nearWI, HB.out, if_pos rfl, Int.toNat_natCast, HWAY.out, HB2.out, if_pos rfl]
          exact Res.nil _ _
        · obtain ⟨j, ⟨f1, t1', c1, l1, d1⟩, e1, e2, e3, e4, e5, _, e7, e8⟩ := HT.out.some at' hat hf t0 t1
          have hstep := HT.out.wayL_step hat e1 e2 e5
          have hbt := arcsIn_net HN.out _ (List.mem_of_getElem? e2)
          simp only at e4 e5 hbt hstep
          rw [e1] at cA
          have hjn : j < n := by rw [← HX.out]; exact (List.getElem?_eq_some_iff.1 e2).1
          have hbT := HT.out.bound t1' (by omega) (by omega)
          have hjn0 : ¬ ((j : Int) < 0) := by omega
          have j0 : (0 : Int) ≤ (j : Int) := by omega
          have j1 : (j : Int) < (n : Int) := by omega
          obtain ⟨gx, ox, rfl, _, c1', _, _, _⟩ := (hxW.below hbr) j _ e2
          have hgx : gx < w.heap.size := by
            obtain ⟨g'', o'', e, hh⟩ := hx j _ e2
            injection e with e
            injection e with e1 e2
            subst e1
            exact hh.lt
          have b1' := cell_in hbr b1
          have hs1 := hpW.size
          have hs2 := hbr.size
          have hwW : w.heap.size < W.heap.size := lt_of_cell b1
          have hvA : (wr.alloc (.cells #[.int .i64 (j : Int)] 3)).ownsRow W.heap.size 3 1 u9 zs.length (ints zs) := World.ownsRow.alloc hv _
          have hpa5 : Past wr (wr.alloc (.cells #[.int .i64 (j : Int)] 3)) := (Past.refl wr).alloc _
          have hb1' : ∀ w3, (wr.alloc (.cells #[.int .i64 (j : Int)] 3)).grownBy w3 u9.ownBlock → w3.cell? ⟨w.heap.size, 1, none⟩ = some (.slice (some ⟨gx, ox, none⟩) n c) := fun w3 hg => hg.cell (cell_in hpa5 b1') (own_ne (g := w.heap.size) hvA (by omega))
          have hc1' : ∀ w3, (wr.alloc (.cells #[.int .i64 (j : Int)] 3)).grownBy w3 u9.ownBlock → w3.cell? ⟨gx, ox + j * 5 + 1, none⟩ = some (.int .i64 t1') := fun w3 hg => hg.cell (cell_in hpa5 c1') (own_ne (g := gx) hvA (by omega))
          have HB1 := Lib.hid hb1'
          have HC1 := Lib.hid hc1'
          have HSTEP := Lib.hid hstep
          have HZS := Lib.hid hzs
          have hfa : lab L a ≠ farL := fun e => hf (hiff.2 e)
          obtain ⟨D, hD⟩ : ∃ D, D = zs.length := ⟨_, rfl⟩
          rw [← hD] at hvA hzl
          have HDD := Lib.hid hD
          clear hb1' hc1' hstep hzs e1 e2 e3 e7 e8 hD c1' hiff
          go_wp2_with (first | (at_builtin; refine wpList_append_own _ rfl _ _ 26 rfl W.heap.size 3 i0 (.int .i64 0) 1 8 Try.underlying26 hi hz0 hz1 hz2 rfl (by decide) _ _ _ rfl hvA ⟨wr.heap.size, 0, none⟩ 1 1 [.int .i64 (j : Int)] rfl rfl (cell_one_new _ _ _) (one_cell _) (by unfold maxLen; omega) (by omega) (by simp; omega) ?_; intro v' w3 hown' hgrow3 hnil3; have b1 := HB1.out _ hgrow3; have c1 := HC1.out _ hgrow3))
          go_roundw
          case rel =>
            refine ⟨t1', zs ++ [(j : Int)], by go_num, by omega, by omega, ⟨fun e => absurd e e4, fun e => absurd e hfa⟩, Res.push (by rw [← HDD.out]; exact hown'), fun _ => ?_, ?_, Past.grown (hbr.alloc _) hvA hgrow3 (Nat.le_refl _)⟩
            · rw [HZS.out hfa, HSTEP.out, List.append_assoc]; rfl
            · rw [List.length_append, ← HDD.out]; simp; omega
          case measure => simp only [intOf]; omega
theorem implNearWalk_any (m : Int) (g n c : Nat) (xs : List ArcD) (a b : Int) (w : World) (hn : n ≤ 1048576) (hnx : xs.length = n) (hx : ArcsAt w (some ⟨g, 0, none⟩) xs) :
    Calls Try.prog 27 #[.agg #[.int .i64 m, .slice (some ⟨g, 0, none⟩) n c], .int .i64 a, .int .i64 b] w (GivesB w (nearWI m xs a b) (nearWB m xs a b)) :=
  implNearWalk_all m _ n c xs a b w hn hnx hx (.inr ⟨_, _, rfl⟩)

end Go.Proofs.Ytokljfeoignbcaa

namespace Go.Proofs.Ytokljfeoignbcaa
open Go.RowKit

set_option maxRecDepth 100000 in
set_option maxHeartbeats 1000000 in
theorem wkInts_same (A B : Option Addr) (n c c' : Nat) (xs : List Int) (w : World) (hn : n ≤ 1048576) (hl : xs.length = n) (hx : IntsAt w A xs) (hy : IntsAt w B xs) :
    Calls Try.prog 31 #[.slice A n c, .slice B n c'] w fun e w' => e = .returned (.bool true) ∧ Below w.heap.size w w' := by
  go_enter Try.func31, Try.ntmps31
  go_wp2
  go_loopw [5] (fun i wr => ∃ k : Nat, k ≤ n ∧ i = .int .i64 k ∧ Past w wr) (fun i _ => n - (intOf i).toNat)
  case atStart => exact ⟨0, by omega, rfl, Past.refl _⟩
  case round =>
    obtain ⟨k, hk, rfl, hb⟩ := hrel
    by_cases hlt : k < n
    · obtain ⟨x0, ha⟩ : ∃ a, xs[k]? = some a := ⟨_, List.getElem?_eq_getElem (by omega)⟩
      obtain ⟨g, o, rfl, c0⟩ := (hx.below hb) k _ ha
      obtain ⟨g', o', rfl, d0⟩ := (hy.below hb) k _ ha
      have hi : (k : Int) < (n : Int) := by omega
      have h0 : (0 : Int) ≤ (k : Int) := by omega
      clear ha hl
      go_wp2_with fail
      go_quiet (fail)
      go_wp2
      go_roundw
      case rel => exact ⟨k + 1, by omega, by go_num, hb.drewN _⟩
      case measure => simp [intOf]; omega
    · go_wp2
      go_ret
      exact ⟨rfl, hb⟩

end Go.Proofs.Ytokljfeoignbcaa

namespace Go.Proofs.Ytokljfeoignbcaa
open Go.ChangeShapes Go.WideShapes Go.ChangeAt Go.RowKit

theorem TreeL.short {m : Nat} {xs : List ArcD} {s : Int} {L : List LenD} (h : TreeL m xs s L) (v : Int) (h0 : 0 ≤ v) (h1 : v < m) : (lab L v).x1.toNat ≤ m := by
  rcases h.labs.each v h0 h1 with e | ⟨l, q1, q2, q3⟩
  · rw [e]; simp [farL]
  · have := q1.way.few h.back h.node q3
    omega

set_option maxRecDepth 100000 in
set_option maxHeartbeats 2000000 in
theorem fnNearTree_walk (A : Option Addr) (n c : Nat) (w : World) (hn : n ≤ c) (hc : c ≤ maxLen) (hb : BytesAt w A n) :
    Calls Try.prog 12 #[.slice A n c] w fun e w' => e = .returned (.bool true) ∧ Below w.heap.size w w' := by
  by_cases h1 : 1048576 < n
  · have h1' : (1048576 : Int) < (n : Int) := by omega
    go_enter Try.func12, Try.ntmps12
    go_wp2
    go_ret
    exact ⟨rfl, Below.refl _ _⟩
  have h1' : ¬ (1048576 : Int) < (n : Int) := by omega
  obtain ⟨i0, hi, hz0, hz1, hz2⟩ := info_parts infoInt
  go_enter Try.func12, Try.ntmps12
  go_wp2_with fail
  refine (drawNearTree_any A n c w hn hc hb).mono ?_
  rintro e w1 ⟨m, B, k, cap, xs, nd, rfl, hxk, hk, hx1, ⟨_, hform⟩, hb1⟩
  have HX := Lib.hid hxk
  clear hxk hb hn hc
  have hkk : k ≤ 1048576 := by omega
  have hpW : Past w1 (w1.alloc (.cells #[.int .i64 m, .slice B k cap] 30)) := (Past.refl w1).alloc _
  go_wp2_with fail
  refine (implNearTree_all m B k cap xs nd _ hkk HX.out (hx1.below hpW) hform).mono ?_
  rintro e w2 ⟨v2, rfl, hv2, hb2⟩
  have b0 := cell_in (p := ⟨w1.heap.size, 0, none⟩) (v := .int .i64 m) hb2 (by go_simp)
  have b1 := cell_in (p := ⟨w1.heap.size, 1, none⟩) (v := .slice B k cap) hb2 (by go_simp)
  have hx2 := (hx1.below hpW).below hb2
  have hp2 : Past w w2 := Past.trans hb1 (hpW.trans hb2)
  obtain ⟨X, cx, rfl, hs2, _⟩ := hv2.form
  obtain ⟨ps, hps⟩ : ∃ ps, ps = treeTI m xs nd := ⟨_, rfl⟩
  rw [← hps] at hs2 ⊢
  obtain ⟨R, hR⟩ : ∃ R, R = ps.length := ⟨_, rfl⟩
  have hR1 : R ≤ 1048576 := by rw [hR, hps]; exact treeTI_len m xs nd
  rw [← hR]
  have HPS := Lib.hid hps
  have HR := Lib.hid hR.symm
  clear hps hR hv2 hx1 hb1 hb2 hpW
  go_wp2_with fail
  refine (specNearTree_any m B k cap xs nd _ hkk HX.out hx2).mono ?_
  rintro e w3 ⟨v3, rfl, hv3, hb3⟩
  obtain ⟨F, cf, rfl, hs3, _⟩ := hv3.form
  rw [← HPS.out] at hs3 ⊢
  rw [HR.out]
  have b0 := cell_in hb3 b0
  have b1 := cell_in hb3 b1
  have hx3 := hx2.below hb3
  have hs23 := hs2.below hb3
  have hp3 := Past.trans hp2 hb3
  clear hv3 hx2 hs2 hb3 hp2
  go_wp2_with fail
  refine (wkInts_same X F R cx cf ps _ hR1 HR.out hs23 hs3).mono ?_
  rintro e w4 ⟨rfl, hb4⟩
  have b0 := cell_in hb4 b0
  have b1 := cell_in hb4 b1
  have hx4 := hx3.below hb4
  have hs4 := hs23.below hb4
  have hp4 := Past.trans hp3 hb4
  clear hx3 hs23 hs3 hb4 hp3
  cases hO : hereB m xs nd with
  | false =>
    obtain rfl : R = 0 := by rw [← HR.out, HPS.out, treeTI, hO]; rfl
    clear hO
    go_wp2_with fail
    refine (specNearTree_any m B k cap xs nd _ hkk HX.out hx4).mono ?_
    rintro e w6 ⟨v6, rfl, hv6, hb6⟩
    obtain ⟨F, cf, rfl, hs6, _⟩ := hv6.form
    rw [← HPS.out] at hs6 ⊢
    rw [HR.out]
    go_wp2_with fail
    refine (wkInts_same X F 0 cx cf ps _ hR1 HR.out (hs4.below hb6) hs6).mono ?_
    rintro e w7 ⟨rfl, hb7⟩
    go_wp2
    go_ret
    exact ⟨rfl, (Past.trans hp4 hb6).trans hb7⟩
  | true =>
    obtain ⟨hN, hn0, hn1⟩ := (hereB_iff _ _ _).1 hO
    obtain ⟨M, rfl, hM1, hM8⟩ := here_nat hN
    have HN := Lib.hid hN
    have hps : ps = treeM M xs nd := by rw [HPS.out, treeTI, hO, if_pos rfl, Int.toNat_natCast]
    obtain rfl : M = R := by rw [← HR.out, hps, treeM_length]
    have hT := treeL_of (arcsIn_net hN) ⟨hn0, hn1⟩ hM8
    obtain ⟨L, hL⟩ : ∃ L, L = labsOf M xs nd := ⟨_, rfl⟩
    rw [← hL] at hT
    have hcell : ∀ v : Int, 0 ≤ v → v < M → ∃ g o, X = some ⟨g, o, none⟩ ∧ w4.cell? ⟨g, o + v.toNat, none⟩ = some (.int .i64 (treeI xs L v)) := fun v h0 h1 => by
      obtain ⟨g, o, e, h⟩ := hs4 v.toNat _ (by rw [hps]; exact treeM_get M xs nd (v := v.toNat) (by omega))
      refine ⟨g, o, e, ?_⟩
      rw [h, show ((v.toNat : Nat) : Int) = v by omega, hL]
    obtain ⟨gZ, oZ, rfl, _⟩ := hcell nd hn0 hn1
    have hcell2 : ∀ v : Int, 0 ≤ v → v < M → w4.cell? ⟨gZ, oZ + v.toNat, none⟩ = some (.int .i64 (treeI xs L v)) := fun v h0 h1 => by
      obtain ⟨g, o, e, h⟩ := hcell v h0 h1
      injection e with e
      injection e with e1 e2
      subst e1 e2
      exact h
    have cT := hcell2 nd hn0 hn1
    rw [hT.none nd (.inl rfl)] at cT
    have HC := Lib.hid hcell2
    have HT := Lib.hid hT
    have HL := Lib.hid hL
    have hM0 : ¬ (M : Int) = 0 := by omega
    have hM0' : ¬ M = 0 := by omega
    have hMb : ((M : Int) == 0) = false := by simpa using hM0
    have h16 : k ≤ 16 := by omega
    clear hO hN hps hcell hcell2 hT hL hs4
    go_wp2
    go_loopw [6] (fun i wr => ∃ j : Nat, j ≤ M ∧ i = .int .i64 j ∧ Past w4 wr) (fun i _ => M - (intOf i).toNat)
    case atStart => exact ⟨0, by omega, rfl, Past.refl _⟩
    case round =>
      obtain ⟨v, hj, rfl, hbr⟩ := hrel
      by_cases hlt : v < M
      · have b0o := cell_in hbr b0
        have v0 : (0 : Int) ≤ (v : Int) := by omega
        have v1 : (v : Int) < (M : Int) := by omega
        obtain ⟨wo, hwo⟩ : ∃ wo, wo = wr := ⟨_, rfl⟩
        subst hwo
        have hres2 : Res (wo.alloc (.cells #[] 3)) wo.heap.size (.slice (some ⟨wo.heap.size, 0, none⟩) 0 0) [] :=
          ⟨rfl, .inr ⟨wo.heap.size, 0, #[], rfl, Nat.le_refl _, heap_alloc_new wo _, Nat.le_refl _, by unfold maxLen; omega, rfl, rfl⟩⟩
        have hpa : Past wo (wo.alloc (.cells #[] 3)) := (Past.refl wo).alloc _
        have hv2 : hereB2 (M : Int) xs (v : Int) nd = true := (hereB2_iff _ _ _ _).2 ⟨HN.out, ⟨v0, v1⟩, hn0, hn1⟩
        have hnB : nearWB (M : Int) xs (v : Int) nd = !decide (lab L (v : Int) = farL) := by rw [nearWB, hv2, Int.toNat_natCast, farB, HL.out]; rfl
        have hnI : nearWI (M : Int) xs (v : Int) nd = if lab L (v : Int) = farL then [] else wayL xs L nd (v : Int) := by
          rw [nearWI, hv2, if_pos rfl, Int.toNat_natCast, wayM, farB, HL.out]
          by_cases e : lab (labsOf M xs nd) (v : Int) = farL <;> simp [e]
        have HNB := Lib.hid hnB
        have HNI := Lib.hid hnI
        clear hv2 hnB hnI
        go_wp2
        go_loopw [7, 8] (fun z q wr => ∃ (at' : Int) (zs : List Int), q = .int .i64 at' ∧ 0 ≤ at' ∧ at' < M ∧ (lab L at' = farL ↔ lab L (v : Int) = farL) ∧ Res wr wo.heap.size z zs ∧ (lab L (v : Int) ≠ farL → wayL xs L nd (v : Int) = zs ++ wayL xs L nd at') ∧ zs.length + (lab L at').x1.toNat ≤ M ∧ Past wo wr) (fun _ q _ => (lab L (intOf q)).x1.toNat)
        case atStart => exact ⟨(v : Int), [], rfl, v0, v1, Iff.rfl, hres2, fun _ => rfl, by have := HT.out.short (v : Int) v0 v1; simp; omega, hpa⟩
        case round =>
          obtain ⟨at', zs, rfl, t0, t1, hiff, hv, hzs, hzl, hbz⟩ := hrel
          have hbq := hbr.trans hbz
          have b0' := cell_in hbq b0
          have b1' := cell_in hbq b1
          have hxr := hx4.below hbq
          clear hres2 hpa
          obtain ⟨Z, cz, rfl, hzi, _⟩ := hv.form
          obtain ⟨D, hD⟩ : ∃ D, D = zs.length := ⟨_, rfl⟩
          rw [← hD] at hzl ⊢
          have HDD := Lib.hid hD
          have hD1 : (D : Int) ≤ (M : Int) := by omega
          by_cases hat : at' = nd
          · subst hat
            have hfa : lab L (v : Int) ≠ farL := fun e => by
              have := hiff.2 e
              rw [HT.out.lab_to] at this
              unfold farL farI at this
              simp at this
            have hzs := hzs hfa
            rw [HT.out.wayL_to, List.append_nil] at hzs
            have hB2 : nearWB (M : Int) xs (v : Int) at' = true := by rw [HNB.out]; simpa using hfa
            have hI2 : nearWI (M : Int) xs (v : Int) at' = zs := by rw [HNI.out, if_neg hfa]; exact hzs
            have HB2 := Lib.hid hB2
            have HI2 := Lib.hid hI2
            clear hD hzs hB2 hI2 hiff
            go_wp2_with fail
            refine (implNearWalk_all (M : Int) B k cap xs (v : Int) at' _ hkk HX.out hxr hform).mono ?_
            rintro e w9 ⟨v9, rfl, hv9, hb9⟩
            obtain ⟨Y, cy, rfl, hy9, _⟩ := hv9.form
            rw [HI2.out] at hy9 ⊢
            rw [HB2.out, ← HDD.out]
            have hz9 := hzi.below hb9
            have hp9 := hbq.trans hb9
            clear hv9 hb9 hv hzi
            go_wp2_with fail
            refine (wkInts_same Y Z D cy cz zs _ (by omega) HDD.out.symm hy9 hz9).mono ?_
            rintro e w7 ⟨rfl, hb7⟩
            go_wp2
            go_roundw
            case rel => exact ⟨v + 1, by omega, by go_num, hp9.trans hb7⟩
            case measure => simp [intOf]; omega
          · have hne : (at' != nd) = true := by simpa using hat
            have hnee : (at' == nd) = false := by simpa using hat
            have cA := cell_in hbq (HC.out at' t0 t1)
            by_cases hf : lab L at' = farL
            · have hB2 : nearWB (M : Int) xs (v : Int) nd = false := by rw [HNB.out]; simpa using hiff.1 hf
              have HB2 := Lib.hid hB2
              rw [HT.out.none at' (.inr hf)] at cA
              clear hD hzs hB2 hiff hf
              go_wp2_with fail
              refine (implNearWalk_all (M : Int) B k cap xs (v : Int) nd _ hkk HX.out hxr hform).mono ?_
              rintro e w9 ⟨v9, rfl, hv9, hb9⟩
              rw [HB2.out]
              have hp9 := hbq.trans hb9
              go_wp2
              go_roundw
              case rel => exact ⟨v + 1, by omega, by go_num, hp9⟩
              case measure => simp [intOf]; omega
            · obtain ⟨j, ⟨f1, t1', c1, l1, d1⟩, e1, e2, e3, e4, e5, _, e7, e8⟩ := HT.out.some at' hat hf t0 t1
              have hstep := HT.out.wayL_step hat e1 e2 e5
              have hbt := arcsIn_net HN.out _ (List.mem_of_getElem? e2)
              simp only at e4 e5 hbt hstep
              rw [e1] at cA
              have hjn : j < k := by rw [← HX.out]; exact (List.getElem?_eq_some_iff.1 e2).1
              have hbT := HT.out.bound t1' (by omega) (by omega)
              have j0 : (0 : Int) ≤ (j : Int) := by omega
              have j1 : (j : Int) < (k : Int) := by omega
              obtain ⟨gx, ox, rfl, _, c1', _, _, _⟩ := hxr j _ e2
              have hgx : gx < w4.heap.size := by
                obtain ⟨g'', o'', e, hh⟩ := hx4 j _ e2
                injection e with e
                injection e with e1 e2
                subst e1
                exact hh.lt
              have hgZ : gZ < w4.heap.size := lt_of_cell cT
              have hw1 : w1.heap.size < w4.heap.size := lt_of_cell b1
              have hs2 := hbr.size
              have hs3 := hbz.size
              have hvA : (wr.alloc (.cells #[.int .i64 (j : Int)] 3)).ownsRow wo.heap.size 3 1 (.slice Z D cz) D (ints zs) := by
                have h := World.ownsRow.alloc hv (.cells #[.int .i64 (j : Int)] 3)
                rw [← HDD.out] at h
                exact h
              have hpa5 : Past wr (wr.alloc (.cells #[.int .i64 (j : Int)] 3)) := (Past.refl wr).alloc _
              have hb1' : ∀ w3, (wr.alloc (.cells #[.int .i64 (j : Int)] 3)).grownBy w3 (Value.slice Z D cz).ownBlock → w3.cell? ⟨w1.heap.size, 1, none⟩ = some (.slice (some ⟨gx, ox, none⟩) k cap) := fun w3 hg => hg.cell (cell_in hpa5 b1') (own_ne (g := w1.heap.size) hvA (by omega))
              have hc1' : ∀ w3, (wr.alloc (.cells #[.int .i64 (j : Int)] 3)).grownBy w3 (Value.slice Z D cz).ownBlock → w3.cell? ⟨gx, ox + j * 5 + 1, none⟩ = some (.int .i64 t1') := fun w3 hg => hg.cell (cell_in hpa5 c1') (own_ne (g := gx) hvA (by omega))
              have hcA' : ∀ w3, (wr.alloc (.cells #[.int .i64 (j : Int)] 3)).grownBy w3 (Value.slice Z D cz).ownBlock → w3.cell? ⟨gZ, oZ + at'.toNat, none⟩ = some (.int .i64 (j : Int)) := fun w3 hg => hg.cell (cell_in hpa5 cA) (own_ne (g := gZ) hvA (by omega))
              have HB1 := Lib.hid hb1'
              have HC1 := Lib.hid hc1'
              have HCA := Lib.hid hcA'
              have HSTEP := Lib.hid hstep
              have HZS := Lib.hid hzs
              have hfa : lab L (v : Int) ≠ farL := fun e => hf (hiff.2 e)
              have hzm : D + 1 + (lab L t1').x1.toNat ≤ M := by omega
              have ht0 : 0 ≤ t1' := by omega
              have ht1 : t1' < (M : Int) := by omega
              have hms : (lab L t1').x1.toNat < (lab L at').x1.toNat := by omega
              clear hb1' hc1' hcA' hstep hzs e1 e2 e3 e7 e8 c1' hiff hD hv hzi hbt
              go_wp2_with (first | (at_builtin; refine wpList_append_own _ rfl _ _ 26 rfl wo.heap.size 3 i0 (.int .i64 0) 1 8 Try.underlying26 hi hz0 hz1 hz2 rfl (by decide) _ _ _ rfl hvA ⟨wr.heap.size, 0, none⟩ 1 1 [.int .i64 (j : Int)] rfl rfl (cell_one_new _ _ _) (one_cell _) (by unfold maxLen; omega) (by omega) (by simp; omega) ?_; intro v' w3 hown' hgrow3 hnil3; have b1 := HB1.out _ hgrow3; have c1 := HC1.out _ hgrow3; have cA := HCA.out _ hgrow3))
              go_quiet (fail)
              go_wp2
              go_roundw
              case rel =>
                refine ⟨t1', zs ++ [(j : Int)], by go_num, ht0, ht1, ⟨fun e => absurd e e4, fun e => absurd e hfa⟩, Res.drewN (Res.push (by rw [← HDD.out]; exact hown')) _, fun _ => ?_, ?_, (Past.grown (hbz.alloc _) hvA hgrow3 (Nat.le_refl _)).drewN _⟩
                · rw [HZS.out hfa, HSTEP.out, List.append_assoc]; rfl
                · rw [List.length_append, ← HDD.out]; exact hzm
              case measure => simp only [intOf]; exact hms
      · obtain rfl : M = v := by omega
        have cT' := cell_in hbr cT
        have b0' := cell_in hbr b0
        go_wp2
        go_ret
        exact ⟨rfl, hp4.trans hbr⟩

set_option maxRecDepth 100000 in
theorem fnNearTree_lifted (os : Os) (started : os.Started) (H : Type) (enc : TypeId × Value → H) :
    ReturnsInHanded {} Try.checked os 12 .any (Rows.fnNearTreeSpec.pre6 enc Try.prog Try.f12 Rows.fnNearTreeRow.domain false) (Rows.fnNearTreeSpec.post enc Try.prog Try.f12 false true false false) := by
  refine returnsInHanded_of_change (C := Try.checked) own started (by kernel_rfl) Try.func12
    (ChangeSpec.witness6 (enc := enc) (C := Try.checked) false ⟨#[], #[.slice none 0 0], []⟩ 8 (by kernel_rfl) (by kernel_rfl) (by kernel_rfl) (by kernel_rfl)) ?_
  intro W base args ds gs before hval0 hW hcnd _
  have hval : ∀ (j : Nat) t v, Try.f12.params[j]? = some t → args[j]? = some v → Value.okWide Try.prog W .any base t v := hval0
  have hW' := hW
  obtain ⟨p, q, hA0, hV, rfl, hfz, hnd⟩ := hW
  have hA : DataW.TrodAll enc Try.prog W 0 (fun _ => true) true Try.f12.params.toList args.toList ds p := hA0
  rw [Try.params12] at hA hval
  obtain ⟨v0, vs0, d0, ds0, p0, q0, hargs, rfl, rfl, h0, r0⟩ := trodAll_cons hA
  obtain ⟨rfl, rfl, rfl⟩ := trodAll_nil r0
  obtain rfl : args = #[v0] := by cases args; simp_all
  obtain ⟨rfl, rfl⟩ := trodVars_none hV
  have k0 := h0
  have lt0 := places_lt k0
  obtain ⟨A0, n0, c0, rfl, hn0, hc0, hb0⟩ := open_bytes (hval 0 40 v0 rfl rfl) h0
  clear hA0 hval0
  refine (fnNearTree_walk A0 n0 c0 W hn0 hc0 hb0).mono fun e W' ⟨he, bel⟩ => ?_
  subst he
  exact ⟨_, rfl, _, _, _, [], _, [], hW', trodAll_mk1 (shut_bool Try.underlying4 _), (trodAll_cons_mk (Below.trod laidOut (by kernel_rfl) (of_decide_eq_true (by kernel_rfl)) k0 bel lt0) trodAll_mk0), rfl, bel.frame _, fun h => by cases h⟩

/-- The given statement. -/
theorem fnNearTree_proved : Rows.FnNearTreeSaid :=
  OpenClaim.holds_of_wide 12 Try.f12 rfl rfl rfl rfl rfl rfl rfl ⟨rfl, rfl, rfl, rfl, rfl⟩ rfl rfl rfl rfl rfl (by kernel_rfl) Try.func12 (by kernel_rfl)
    (of_decide_eq_true (by kernel_rfl)) (by unfold Func.isWrapper; first | (rw [if_pos (by decide +kernel)]; kernel_rfl) | (rw [if_neg (by decide +kernel)]; exact ⟨rfl, rfl⟩))
    (fun os started H enc _ => fnNearTree_lifted os started H enc)

end Go.Proofs.Ytokljfeoignbcaa
