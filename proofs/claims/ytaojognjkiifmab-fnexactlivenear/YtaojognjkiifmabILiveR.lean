/-
  What it costs at least now, as the program goes: impl.LiveNear. No condition.
-/
import Derived.Test.YtaojognjkiifmabSLiveR
import Derived.Test.YtaojognjkiifmabILiveN
import Derived.Test.YtaojognjkiifmabNAll
namespace Go.Proofs.Ytaojognjkiifmab
open Go.RowKit

theorem live_here (m : Int) (xs : List ArcD) (ns : List NewsD) (f t : Int) : (netB (lnowN m xs ns) (lnowL m xs ns) && [f, t].all (fun z => inB z 0 (lnowN m xs ns - 1))) = lnearB m xs ns f t := by
  cases h : liveB m xs ns with
  | false =>
    obtain ⟨h1, h2⟩ := lnow_no h
    have : netB 0 [] = false := by decide
    rw [h1, h2, this, lnearB, h]
    rfl
  | true =>
    obtain ⟨h1, h2⟩ := lnow_yes h
    rw [h1, h2, now_net h, lnearB, h]
    simp

set_option maxRecDepth 100000 in
set_option maxHeartbeats 2000000 in
theorem implLiveNear_any (m : Int) (A : Option Addr) (n c : Nat) (xs : List ArcD) (B : Option Addr) (l cb : Nat) (ns : List NewsD) (f t : Int) (w : World) (hn : n ≤ 1048576) (hnx : xs.length = n) (hx : ArcsAt w A xs) (hl : l ≤ 1048576) (hly : ns.length = l) (hy : NewssAt w B ns) :
    Calls Try.prog 39 #[.agg #[.int .i64 m, .slice A n c, .slice B l cb], .int .i64 f, .int .i64 t] w fun e w' => e = .returned (.int .i64 (lnearI m xs ns f t)) ∧ Below w.heap.size w w' := by
  have HX := Lib.hid hnx
  have HY := Lib.hid hly
  clear hnx hly
  have hb0 : Past w (w.alloc (.cells #[.int .i64 m, .slice A n c, .slice B l cb] 52)) := (Past.refl _).alloc _
  go_enter Try.func39, Try.ntmps39
  go_wp2_with fail
  refine (implLiveNow_any m A n c xs B l cb ns _ hn HX.out (hx.below hb0) hl HY.out (hy.below hb0)).mono ?_
  rintro e w1 ⟨A1, c1, rfl, hx1, ho1, hb1⟩
  have hp1 := hb0.trans hb1
  have hlen := lnowL_len m xs ns
  obtain ⟨L, hL⟩ : ∃ L, L = lnowL m xs ns := ⟨_, rfl⟩
  obtain ⟨q, hq⟩ : ∃ q, q = lnowN m xs ns := ⟨_, rfl⟩
  obtain ⟨N, hN⟩ : ∃ N, N = L.length := ⟨_, rfl⟩
  rw [← hL] at hx1 hlen
  rw [← hL, ← hq, ← hN]
  rw [← hN] at hlen
  have HLL := Lib.hid hL
  have HQ := Lib.hid hq
  have HN := Lib.hid hN
  clear hL hq hN ho1 hb0 hb1
  obtain ⟨V, hV⟩ : ∃ V, V = (w1.alloc (.cells #[.int .i64 q, .slice A1 N c1] 25)).alloc (.cells #[.int .i64 f, .int .i64 t] 3) := ⟨_, rfl⟩
  have hpV : Past w1 V := by rw [hV]; exact ((Past.refl _).alloc _).alloc _
  have b0 : V.cell? ⟨w1.heap.size, 0, none⟩ = some (.int .i64 q) := by rw [hV]; go_simp
  have b1 : V.cell? ⟨w1.heap.size, 1, none⟩ = some (.slice A1 N c1) := by rw [hV]; go_simp
  have hz : IntsAt V (some ⟨w1.heap.size + 1, 0, none⟩) [f, t] := fun k y hk => by
    rw [hV]
    match k, hk with
    | 0, hk => simp at hk; subst hk; exact ⟨_, _, rfl, by go_simp⟩
    | 1, hk => simp at hk; subst hk; exact ⟨_, _, rfl, by go_simp⟩
    | k + 2, hk => simp at hk
  have HV := Lib.hid hV
  clear hV
  go_wp2_with fail
  rw [← HV.out]
  clear HV
  refine (netHas_any q A1 N c1 L _ 2 2 [f, t] _ (by omega) HN.out.symm (hx1.below hpV) (by omega) rfl hz).mono ?_
  rintro e w2 ⟨rfl, hb2⟩
  have hH : (netB q L && [f, t].all (fun z => inB z 0 (q - 1))) = lnearB m xs ns f t := by rw [HLL.out, HQ.out]; exact live_here m xs ns f t
  rw [hH]
  have b0 := cell_in hb2 b0
  have b1 := cell_in hb2 b1
  have hx2 := (hx1.below hpV).below hb2
  have hp2 := (hp1.trans hpV).trans hb2
  clear hH hz hb2 hpV
  cases hB : lnearB m xs ns f t with
  | false =>
    have HV := Lib.hid (lnearI_no hB)
    clear hB
    go_wp2
    go_ret
    exact ⟨ret_int HV.out.symm, hp2⟩
  | true =>
  have hpl := hB
  rw [lnearB, Bool.and_eq_true, Bool.and_eq_true, inB_iff, inB_iff] at hpl
  obtain ⟨hLB, hf, ht⟩ := hpl
  obtain ⟨M, hM, h1, h8⟩ := here_nat ((liveB_iff _ _ _).1 hLB).1
  obtain ⟨e1, e2⟩ := lnow_yes hLB
  have HV : Hid (lnearI m xs ns f t = at_ (nearL m.toNat L f) t) := by rw [Hid, lnearI, hB, HLL.out, e2]; rfl
  have HI : Hid (nearI q L f = nearL m.toNat L f) := by
    rw [Hid, HQ.out, HLL.out, e1, e2, nearI, hereB, now_net hLB, (inB_iff _ _ _).2 hf]; rfl
  have hMt : m.toNat = M := by omega
  rw [hMt] at HV HI
  clear hB hLB e1 e2
  go_wp2_with fail
  refine (implNearAll_any q A1 N c1 L f _ (by omega) HN.out.symm hx2).mono ?_
  rintro e w4 ⟨v4, rfl, hv4, hb4⟩
  rw [HI.out] at hv4
  obtain ⟨Y, cy, rfl, hy4, _⟩ := hv4.form
  have hlen2 := nearL_length M L f
  obtain ⟨Z, hZ⟩ : ∃ Z, Z = nearL M L f := ⟨_, rfl⟩
  rw [← hZ] at hy4 hlen2 HV
  rw [← hZ, hlen2]
  obtain ⟨z, hz⟩ : ∃ z, Z[t.toNat]? = some z := ⟨_, List.getElem?_eq_getElem (by omega)⟩
  obtain ⟨gy, oy, rfl, cT⟩ := hy4 _ _ hz
  have HV2 : Hid (lnearI m xs ns f t = z) := by rw [Hid, HV.out, at_, List.getD_eq_getElem?_getD, hz]; rfl
  have t0 := ht.1
  have t1 : t < (M : Int) := by omega
  clear hz hlen2 hZ HV hv4 HI
  go_wp2
  go_ret
  exact ⟨ret_int HV2.out.symm, hp2.trans hb4⟩

end Go.Proofs.Ytaojognjkiifmab
