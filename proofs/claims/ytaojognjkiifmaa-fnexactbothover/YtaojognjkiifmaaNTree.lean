/-
  The tree of first arcs: impl.NearTree, spec.NearTree. No condition.
-/
import Derived.Test.YtaojognjkiifmaaFirst
import Derived.Test.YtaojognjkiifmaaPTree2
import Derived.Test.YtaojognjkiifmaaNLen
import Derived.Test.YtaojognjkiifmaaNTo
namespace Go.Proofs.Ytaojognjkiifmaa
open Go.RowKit

/-- The tree, of a net and a node that are there. -/
def treeTI (m : Int) (xs : List ArcD) (s : Int) : List Int := if hereB m xs s then treeM m.toNat xs s else []
theorem treeTI_len (m : Int) (xs : List ArcD) (s : Int) : (treeTI m xs s).length ≤ 1048576 := by
  unfold treeTI
  split
  · rename_i h
    rw [treeM_length]
    obtain ⟨M, e, _, h8⟩ := here_nat ((hereB_iff _ _ _).1 h).1
    subst e
    simp
    omega
  · simp

set_option maxRecDepth 100000 in
set_option maxHeartbeats 2000000 in
theorem implNearTree_all (m : Int) (A : Option Addr) (n c : Nat) (xs : List ArcD) (s : Int) (w : World) (hn : n ≤ 1048576) (hnx : xs.length = n) (hx : ArcsAt w A xs) (ho : (A = none ∧ n = 0) ∨ ∃ g o, A = some ⟨g, o, none⟩) :
    Calls Try.prog 85 #[.agg #[.int .i64 m, .slice A n c], .int .i64 s] w (Gives w (treeTI m xs s)) := by
  have HX := Lib.hid hnx
  clear hnx
  go_enter Try.func85, Try.ntmps85
  have hb0 : Past w ((w.alloc (.cells #[.int .i64 m, .slice A n c] 32)).alloc (.cells #[.int .i64 s] 3)) := ((Past.refl _).alloc _).alloc _
  have hz : IntsAt ((w.alloc (.cells #[.int .i64 m, .slice A n c] 32)).alloc (.cells #[.int .i64 s] 3)) (some ⟨w.heap.size + 1, 0, none⟩) [s] := fun k y hk => by
    cases k with
    | zero => simp at hk; subst hk; exact ⟨_, _, rfl, by go_simp⟩
    | succ k => simp at hk
  go_wp2_with fail
  refine (netHas_any m A n c xs _ 1 1 [s] _ hn HX.out (hx.below hb0) (by omega) rfl hz).mono ?_
  rintro e w1 ⟨rfl, hb1⟩
  have b0 := cell_in (p := ⟨w.heap.size, 0, none⟩) (v := .int .i64 m) hb1 (by go_simp)
  have b1 := cell_in (p := ⟨w.heap.size, 1, none⟩) (v := .slice A n c) hb1 (by go_simp)
  have hx1 := (hx.below hb0).below hb1
  have hp1 := hb0.trans hb1
  have hH : (netB m xs && [s].all (fun z => inB z 0 (m - 1))) = hereB m xs s := by simp [hereB]
  rw [hH]
  clear hH hb0 hz hb1
  cases hB : hereB m xs s with
  | false =>
    have HB := Lib.hid hB
    clear hB
    go_wp2
    go_ret
    exact ⟨_, rfl, by rw [treeTI, HB.out]; exact Res.nil _ _, hp1⟩
  | true =>
    obtain ⟨hN, h0, h1⟩ := (hereB_iff _ _ _).1 hB
    obtain ⟨M, rfl, h3, h8⟩ := here_nat hN
    obtain ⟨S, rfl⟩ : ∃ S : Nat, s = (S : Int) := ⟨s.toNat, by omega⟩
    have hS : S < M := by omega
    have h16 : n ≤ 16 := by rw [← HX.out]; exact ((netB_iff _ _).1 hN).2.1
    have HB := Lib.hid hB
    have HN := Lib.hid hN
    clear hB hN
    go_wp2_with fail
    refine (implNetBack_all (M : Int) A n c xs _ hn HX.out hx1 ho).mono ?_
    rintro e w2 ⟨A2, c2, rfl, hx2, _, hb2⟩
    have hbN : backN (M : Int) xs = (M : Int) := by rw [backN, HN.out, if_pos rfl]
    have hbL : backL (M : Int) xs = xs.map flip := by rw [backL, HN.out, if_pos rfl]
    rw [hbN]
    rw [hbL] at hx2 ⊢
    obtain ⟨K2, hK2⟩ : ∃ K2, (xs.map flip).length = K2 := ⟨_, rfl⟩
    have hK3 : K2 ≤ 16 := by rw [← hK2, List.length_map, HX.out]; exact h16
    rw [hK2]
    have HK2 := Lib.hid hK2
    have b0 := cell_in hb2 b0
    have b1 := cell_in hb2 b1
    have hx2' := hx1.below hb2
    have hp2 := hp1.trans hb2
    clear hK2 hbN hbL hb2
    go_wp2_with fail
    refine (lengths_any M S A2 K2 c2 (xs.map flip) _ (by omega) HK2.out hx2 (arcsIn_net (netB_flip' HN.out)) (net_ne (netB_flip' HN.out)) h3 (by omega) hS).mono ?_
    rintro e W ⟨g, L, rfl, hrow, hLl, hlabs, hopen, hb3⟩
    have hT : TreeL M xs (S : Int) L := ⟨hlabs, hopen, arcsIn_net HN.out, ⟨h0, h1⟩, h8⟩
    have hLe := hT.eq
    have HT := Lib.hid hT
    have HG := Lib.hid (fun j a (hj : L[j]? = some a) => hrow.get hLl hj)
    have HLE := Lib.hid hLe
    have b0 := cell_in hb3 b0
    have b1 := cell_in hb3 b1
    have hxW := hx2'.below hb3
    have hpW := hp2.trans hb3
    have hmk := makeInt M (by omega)
    clear hlabs hopen hrow hT hLe hb3 hx2 hx1 hx2'
    go_wp2
    go_loopw [22] (fun i wr => ∃ k : Nat, k ≤ M ∧ i = .int .i64 k ∧ Past W wr ∧ MadeI wr W.heap.size 3 M (treeM M xs (S : Int)) k) (fun i _ => M - (intOf i).toNat)
    case atStart => exact ⟨0, by omega, rfl, (Past.refl _).alloc _, MadeI.start W 3 M (treeM M xs (S : Int)) (madeCells #[.int .i64 0] M) (by simp [size_madeCells])⟩
    case round =>
      obtain ⟨k, hk, rfl, hb, hmd⟩ := hrel
      have b0' := cell_in hb b0
      have b1' := cell_in hb b1
      by_cases hlt : k < M
      · have HF : Hid ((treeM M xs (S : Int))[k]? = some (treeI xs L (k : Int))) := by rw [Hid, HLE.out]; exact treeM_get M xs (S : Int) hlt
        have k0 : (0 : Int) ≤ (k : Int) := by omega
        have k1 : (k : Int) < (M : Int) := by omega
        go_wp2_with fail
        refine (firstArc_any M k A n c xs g L _ h16 HX.out (hxW.below hb) (arcsIn_net HN.out) hlt hLl (fun j a hj => ⟨cell_in hb (HG.out j a hj).1, cell_in hb (HG.out j a hj).2⟩) (fun v h0 h1 => by have := HT.out.bound v h0 h1; unfold farI at this; omega)).mono ?_
        rintro e w6 ⟨rfl, hb6⟩
        have hmd6 := hmd.below hb6
        obtain ⟨v0, e0⟩ := hmd6.1.cell (i := k) hlt
        have z0 := hmd6.1.frozen k
        have hbb := hb.trans hb6
        go_wp2
        go_roundw
        case rel => exact ⟨k + 1, by omega, by go_num, Below.setCell hbb (by simp) _, hmd6.next HF.out hlt⟩
        case measure => simp [intOf]; omega
      · obtain rfl : M = k := by omega
        have hrow : RowI wr W.heap.size (treeM M xs (S : Int)) := hmd.row (treeM_length M xs (S : Int))
        go_wp2
        go_ret
        exact ⟨_, rfl, by rw [treeTI, HB.out, if_pos rfl, Int.toNat_natCast]; exact hrow.res (treeM_length M xs (S : Int)) hpW.size (by omega), hpW.trans hb⟩
theorem implNearTree_any (m : Int) (g n c : Nat) (xs : List ArcD) (s : Int) (w : World) (hn : n ≤ 1048576) (hnx : xs.length = n) (hx : ArcsAt w (some ⟨g, 0, none⟩) xs) :
    Calls Try.prog 85 #[.agg #[.int .i64 m, .slice (some ⟨g, 0, none⟩) n c], .int .i64 s] w (Gives w (treeTI m xs s)) :=
  implNearTree_all m _ n c xs s w hn hnx hx (.inr ⟨_, _, rfl⟩)

end Go.Proofs.Ytaojognjkiifmaa
