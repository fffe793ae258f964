/-
  What it costs at least now, as the specification goes: spec.LiveNear. No condition.
-/
import Derived.Test.YtaojognjkiifmabSLiveN
import Derived.Test.YtaojognjkiifmabNear
namespace Go.Proofs.Ytaojognjkiifmab
open Go.RowKit

theorem now_net {m : Int} {xs : List ArcD} {ns : List NewsD} (h : liveB m xs ns = true) : netB m (nowL xs ns) = true := by
  obtain ⟨h1, h2, h3⟩ := (liveB_iff _ _ _).1 h
  obtain ⟨n1, n2, n3⟩ := (netB_iff _ _).1 h1
  refine (netB_iff _ _).2 ⟨n1, Nat.le_trans (nowTo_len _ _ _) n2, fun b hb => ?_⟩
  obtain ⟨i, a, ha, rfl⟩ := mem_nowTo _ b hb
  have hA := n3 a (List.mem_of_getElem? ha)
  have hm := moreTo_bd h3 (i : Int) ns.length
  simp only [arcB, Bool.and_eq_true, inB_iff] at hA ⊢
  exact ⟨hA.1, hA.2.1, hA.2.2.1, by omega, hA.2.2.2.2⟩
def lnearB (m : Int) (xs : List ArcD) (ns : List NewsD) (f t : Int) : Bool := liveB m xs ns && (inB f 0 (m - 1) && inB t 0 (m - 1))
def lnearI (m : Int) (xs : List ArcD) (ns : List NewsD) (f t : Int) : Int := if lnearB m xs ns f t then at_ (nearL m.toNat (nowL xs ns) f) t else -1
theorem lnearI_no {m : Int} {xs : List ArcD} {ns : List NewsD} {f t : Int} (h : lnearB m xs ns f t = false) : lnearI m xs ns f t = -1 := by rw [lnearI, h]; rfl

set_option maxRecDepth 100000 in
set_option maxHeartbeats 2000000 in
theorem specLiveNear_any (m : Int) (A : Option Addr) (n c : Nat) (xs : List ArcD) (B : Option Addr) (l cb : Nat) (ns : List NewsD) (f t : Int) (w : World) (hn : n ≤ 1048576) (hnx : xs.length = n) (hx : ArcsAt w A xs) (hl : l ≤ 1048576) (hly : ns.length = l) (hy : NewssAt w B ns) :
    Calls Try.prog 38 #[.agg #[.int .i64 m, .slice A n c, .slice B l cb], .int .i64 f, .int .i64 t] w fun e w' => e = .returned (.int .i64 (lnearI m xs ns f t)) ∧ Below w.heap.size w w' := by
  have HX := Lib.hid hnx
  have HY := Lib.hid hly
  clear hnx hly
  have hb0 : Past w (w.alloc (.cells #[.int .i64 m, .slice A n c, .slice B l cb] 52)) := (Past.refl _).alloc _
  go_enter Try.func38, Try.ntmps38
  go_wp2_with fail
  refine (l16Ok_any m A n c xs B l cb ns _ hn HX.out (hx.below hb0) hl HY.out (hy.below hb0)).mono ?_
  rintro e w1 ⟨rfl, hb1⟩
  have b0 := cell_in (p := ⟨w.heap.size, 0, none⟩) (v := .int .i64 m) hb1 (by go_simp)
  have b1 := cell_in (p := ⟨w.heap.size, 1, none⟩) (v := .slice A n c) hb1 (by go_simp)
  have b2 := cell_in (p := ⟨w.heap.size, 2, none⟩) (v := .slice B l cb) hb1 (by go_simp)
  have hx1 := (hx.below hb0).below hb1
  have hy1 := (hy.below hb0).below hb1
  have hp1 := hb0.trans hb1
  clear hb0 hb1
  cases hB : liveB m xs ns with
  | false =>
    have HV := Lib.hid (lnearI_no (m := m) (xs := xs) (ns := ns) (f := f) (t := t) (by rw [lnearB, hB]; rfl))
    clear hB
    go_wp2
    go_ret
    exact ⟨ret_int HV.out.symm, hp1⟩
  | true =>
  have HB := Lib.hid hB
  obtain ⟨M, rfl, h1, h8⟩ := here_nat ((liveB_iff _ _ _).1 hB).1
  clear hB
  go_wp2_with fail
  refine (l1In_any _ _ _ _).mono ?_
  rintro e w2 ⟨rfl, rfl⟩
  cases hF : inB f 0 ((M : Int) - 1) with
  | false =>
    have HV := Lib.hid (lnearI_no (m := M) (xs := xs) (ns := ns) (f := f) (t := t) (by rw [lnearB, hF]; simp))
    clear hF
    go_wp2
    go_ret
    exact ⟨ret_int HV.out.symm, hp1⟩
  | true =>
  have hf := (inB_iff _ _ _).1 hF
  have HF := Lib.hid hF
  clear hF
  go_wp2_with fail
  refine (l1In_any _ _ _ _).mono ?_
  rintro e w2 ⟨rfl, rfl⟩
  cases hT : inB t 0 ((M : Int) - 1) with
  | false =>
    have HV := Lib.hid (lnearI_no (m := M) (xs := xs) (ns := ns) (f := f) (t := t) (by rw [lnearB, hT]; simp))
    clear hT
    go_wp2
    go_ret
    exact ⟨ret_int HV.out.symm, hp1⟩
  | true =>
  have ht := (inB_iff _ _ _).1 hT
  have HV : Hid (lnearI M xs ns f t = at_ (nearL M (nowL xs ns) f) t) := by rw [Hid, lnearI, lnearB, HB.out, HF.out, hT]; simp
  clear hT
  go_wp2_with fail
  refine (l16Now_any (M : Int) A n c xs B l cb ns _ HB.out HX.out hx1 HY.out hy1).mono ?_
  rintro e w3 ⟨A3, c3, rfl, hx3, ho3, hb3⟩
  obtain ⟨N, hN⟩ : ∃ N, (nowL xs ns).length = N := ⟨_, rfl⟩
  have hN16 : N ≤ 16 := by rw [← hN]; exact ((netB_iff _ _).1 (now_net HB.out)).2.1
  rw [hN]
  have HN := Lib.hid hN
  clear hN ho3
  go_wp2_with fail
  refine (l3All_any M f A3 N c3 (nowL xs ns) _ h8 HN.out (by omega) hx3 (arcsIn_net (now_net HB.out)) (by omega)).mono ?_
  rintro e w4 ⟨v4, rfl, hv4, hb4⟩
  obtain ⟨Y, cy, rfl, hy4, _⟩ := hv4.form
  have hlen := nearL_length M (nowL xs ns) f
  obtain ⟨Z, hZ⟩ : ∃ Z, Z = nearL M (nowL xs ns) f := ⟨_, rfl⟩
  rw [← hZ] at hy4 hlen HV
  rw [← hZ, hlen]
  obtain ⟨z, hz⟩ : ∃ z, Z[t.toNat]? = some z := ⟨_, List.getElem?_eq_getElem (by omega)⟩
  obtain ⟨gy, oy, rfl, cT⟩ := hy4 _ _ hz
  have HV2 : Hid (lnearI M xs ns f t = z) := by rw [Hid, HV.out, at_, List.getD_eq_getElem?_getD, hz]; rfl
  have t0 := ht.1
  have t1 : t < (M : Int) := by omega
  clear hz hlen hZ HV hv4
  go_wp2
  go_ret
  exact ⟨ret_int HV2.out.symm, (hp1.trans hb3).trans hb4⟩

end Go.Proofs.Ytaojognjkiifmab
