/-
  What it costs at least from a node to each, as the program goes: impl.NearAll. No condition.
-/
import Derived.Test.YtaojognjkiifmacNLen
import Derived.Test.YtaojognjkiifmacNCosts
import Derived.Test.YtaojognjkiifmacNear
namespace Go.Proofs.Ytaojognjkiifmac
open Go.RowKit

theorem net_ne {m : Int} {xs : List ArcD} (h : netB m xs = true) : ∀ a ∈ xs, a.f ≠ a.t := fun a ha => by
  obtain ⟨_, _, h3⟩ := (netB_iff _ _).1 h
  have := h3 a ha
  simp only [arcB, Bool.and_eq_true, Bool.not_eq_true'] at this
  simpa using this.2.2.1

set_option maxRecDepth 100000 in
set_option maxHeartbeats 1000000 in
theorem implNearAll_any (m : Int) (A : Option Addr) (n c : Nat) (xs : List ArcD) (s : Int) (w : World) (hn : n ≤ 1048576) (hnx : xs.length = n) (hx : ArcsAt w A xs) :
    Calls Try.prog 23 #[.agg #[.int .i64 m, .slice A n c], .int .i64 s] w (Gives w (nearI m xs s)) := by
  have HX := Lib.hid hnx
  clear hnx
  go_enter Try.func23, Try.ntmps23
  have hb0 : Past w ((w.alloc (.cells #[.int .i64 m, .slice A n c] 30)).alloc (.cells #[.int .i64 s] 3)) := ((Past.refl _).alloc _).alloc _
  have hz : IntsAt ((w.alloc (.cells #[.int .i64 m, .slice A n c] 30)).alloc (.cells #[.int .i64 s] 3)) (some ⟨w.heap.size + 1, 0, none⟩) [s] := fun k y hk => by
    cases k with
    | zero => simp at hk; subst hk; exact ⟨_, _, rfl, by go_simp⟩
    | succ k => simp at hk
  go_wp2_with fail
  refine (netHas_any m A n c xs _ 1 1 [s] _ hn HX.out (hx.below hb0) (by omega) rfl hz).mono ?_
  rintro e w1 ⟨rfl, hb1⟩
  have b0 := cell_in (p := ⟨w.heap.size, 0, none⟩) (v := .int .i64 m) hb1 (by go_simp)
  have b1 := cell_in (p := ⟨w.heap.size, 1, none⟩) (v := .slice A n c) hb1 (by go_simp)
  have hx1 := (hx.below hb0).below hb1
  have hp1 := hb0.trans hb1
  have hH : (netB m xs && [s].all (fun z => inB z 0 (m - 1))) = hereB m xs s := by simp [hereB]
  rw [hH]
  clear hH hb0 hz hb1
  cases hB : hereB m xs s with
  | false =>
    have HB := Lib.hid hB
    clear hB
    go_wp2
    go_ret
    exact ⟨_, rfl, by rw [nearI, HB.out]; exact Res.nil _ _, hp1⟩
  | true =>
    obtain ⟨hN, h0, h1⟩ := (hereB_iff _ _ _).1 hB
    obtain ⟨M, rfl, h3, h8⟩ := here_nat hN
    obtain ⟨S, rfl⟩ : ∃ S : Nat, s = (S : Int) := ⟨s.toNat, by omega⟩
    have hS : S < M := by omega
    have h16 : n ≤ 16 := by rw [← HX.out]; exact ((netB_iff _ _).1 hN).2.1
    have HB := Lib.hid hB
    have HN := Lib.hid hN
    clear hB hN
    go_wp2_with fail
    refine (lengths_any M S A n c xs _ (by omega) HX.out hx1 (arcsIn_net HN.out) (net_ne HN.out) h3 (by omega) hS).mono ?_
    rintro e w2 ⟨g, L, rfl, hrow, hLl, hlabs, hopen, hb2⟩
    have HL := Lib.hid hlabs
    have HO := Lib.hid hopen
    clear hlabs hopen
    have HG := Lib.hid (fun j a (hj : L[j]? = some a) => hrow.get hLl hj)
    clear hrow
    go_wp2_with fail
    refine (costsOf_any g M M L _ (by omega) hLl HG.out).mono ?_
    rintro e w3 ⟨v3, rfl, hv3, hb3⟩
    go_wp2
    go_ret
    have hnear := HL.out.near (arcsIn_net HN.out) ⟨h0, h1⟩ (by omega) HO.out
    exact ⟨_, rfl, by rw [nearI, HB.out, if_pos rfl, Int.toNat_natCast, ← hnear]; exact hv3.lower (Nat.le_trans hp1.size hb2.size), (hp1.trans hb2).trans hb3⟩

end Go.Proofs.Ytaojognjkiifmac
