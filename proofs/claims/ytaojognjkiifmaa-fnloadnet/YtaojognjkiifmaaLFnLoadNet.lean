/-
  FnLoadNet answers true at every input: the more must go the fewer arcs there are. No condition.
-/
import Derived.Test.YtaojognjkiifmaaDrawLoadNet
import Derived.Test.YtaojognjkiifmaaOpenB
import Derived.Test.YtaojognjkiifmaaSLoad
import Derived.Test.YtaojognjkiifmaaILoad
import Derived.Test.YtaojognjkiifmaaWkNet
import Derived.Deep.RegionWith
import Derived.Deep.DeepCutAuto
namespace Go.Proofs.Ytaojognjkiifmaa
open Go.ChangeShapes Go.WideShapes Go.ChangeAt Go.RowKit

theorem forL_at {xs : List ArcD} {load : Int} {j : Nat} {a : ArcD} (ha : xs[j]? = some a) (h : load ≤ a.d) : (forL xs load)[(forL (xs.take j) load).length]? = some a := by
  have hj := (List.getElem?_eq_some_iff.1 ha).1
  have e : xs = xs.take j ++ a :: xs.drop (j + 1) := by
    have h2 := (List.getElem?_eq_some_iff.1 ha).2
    rw [← h2, List.getElem_cons_drop, List.take_append_drop]
  have e2 : forL xs load = forL (xs.take j) load ++ a :: forL (xs.drop (j + 1)) load := by
    conv => lhs; rw [e]
    simp [forL, List.filter_append, h]
  rw [e2, List.getElem?_append_right (Nat.le_refl _), Nat.sub_self]
  rfl

/-- What is read: both nets in their boxes. -/
structure LnS (w0 W : World) (p q : Nat) (m mz : Int) (B : Option Addr) (k cap : Nat) (xs : List ArcD) (E : Option Addr) (R ce : Nat) (zs : List ArcD) : Prop where
  past : Past w0 W
  arcs : ArcsAt W B xs
  own : ArcsAt W E zs
  n0 : W.cell? ⟨p, 0, none⟩ = some (.int .i64 m)
  n1 : W.cell? ⟨p, 1, none⟩ = some (.slice B k cap)
  x0 : W.cell? ⟨q, 0, none⟩ = some (.int .i64 mz)
  x1 : W.cell? ⟨q, 1, none⟩ = some (.slice E R ce)
theorem LnS.below {w0 W W' : World} {p q : Nat} {m mz : Int} {B : Option Addr} {k cap : Nat} {xs : List ArcD} {E : Option Addr} {R ce : Nat} {zs : List ArcD} (h : LnS w0 W p q m mz B k cap xs E R ce zs) (hb : Past W W') : LnS w0 W' p q m mz B k cap xs E R ce zs :=
  ⟨h.past.trans hb, h.arcs.below hb, h.own.below hb, cell_in hb h.n0, cell_in hb h.n1, cell_in hb h.x0, cell_in hb h.x1⟩
theorem LnS.drew {w0 W : World} {p q : Nat} {m mz : Int} {B : Option Addr} {k cap : Nat} {xs : List ArcD} {E : Option Addr} {R ce : Nat} {zs : List ArcD} (h : LnS w0 W p q m mz B k cap xs E R ce zs) : LnS w0 W.drew p q m mz B k cap xs E R ce zs := h.below (Past.refl W).drew

set_option maxRecDepth 100000 in
set_option maxHeartbeats 4000000 in
theorem fnLoadNet_walk (A : Option Addr) (n c : Nat) (w : World) (hn : n ≤ c) (hc : c ≤ maxLen) (hb : BytesAt w A n) :
    Calls Try.prog 11 #[.slice A n c] w fun e w' => e = .returned (.bool true) ∧ Below w.heap.size w w' := by
  by_cases h1 : 1048576 < n
  · have h1' : (1048576 : Int) < (n : Int) := by omega
    go_enter Try.func11, Try.ntmps11
    go_wp2
    go_ret
    exact ⟨rfl, Below.refl _ _⟩
  have h1' : ¬ (1048576 : Int) < (n : Int) := by omega
  go_enter Try.func11, Try.ntmps11
  go_wp2_with fail
  refine (drawLoadNet_any A n c w hn hc hb).mono ?_
  rintro e w1 ⟨m, B, k, cap, xs, load, rfl, hxk, hk, hx1, hform, hld, hb1⟩
  have HX := Lib.hid hxk
  clear hxk hb hn hc
  have hkk : k ≤ 1048576 := by omega
  have hpW : Past w1 (w1.alloc (.cells #[.int .i64 m, .slice B k cap] 32)) := (Past.refl w1).alloc _
  go_wp2_with fail
  refine (implLoadNet_any m B k cap xs load _ hkk HX.out (hx1.below hpW)).mono ?_
  rintro e w2 ⟨E, ce, rfl, hz2, hoz, hb2⟩
  have b0 := cell_in (p := ⟨w1.heap.size, 0, none⟩) (v := .int .i64 m) hb2 (by go_simp)
  have b1 := cell_in (p := ⟨w1.heap.size, 1, none⟩) (v := .slice B k cap) hb2 (by go_simp)
  have hx2 := (hx1.below hpW).below hb2
  have hp2 : Past w w2 := Past.trans hb1 (hpW.trans hb2)
  obtain ⟨zs, hzs⟩ : ∃ zs, zs = lnetL m xs load := ⟨_, rfl⟩
  obtain ⟨mz, hmz⟩ : ∃ mz, mz = lnetN m xs load := ⟨_, rfl⟩
  obtain ⟨R, hR⟩ : ∃ R, R = zs.length := ⟨_, rfl⟩
  have hR1 : R ≤ 1048576 := by rw [hR, hzs]; exact lnetL_lenM m xs load
  rw [← hzs] at hz2 ⊢
  rw [← hR, ← hmz]
  have HZ := Lib.hid hzs
  have HM := Lib.hid hmz
  have HR := Lib.hid hR.symm
  clear hzs hmz hR hoz hx1 hb1 hb2 hpW
  obtain ⟨W2, hW2⟩ : ∃ W2, W2 = w2.alloc (.cells #[.int .i64 mz, .slice E R ce] 32) := ⟨_, rfl⟩
  have hpB : Past w2 W2 := by rw [hW2]; exact (Past.refl _).alloc _
  have x0 : W2.cell? ⟨w2.heap.size, 0, none⟩ = some (.int .i64 mz) := by rw [hW2]; go_simp
  have x1 : W2.cell? ⟨w2.heap.size, 1, none⟩ = some (.slice E R ce) := by rw [hW2]; go_simp
  have hS0 : LnS w W2 w1.heap.size w2.heap.size m mz B k cap xs E R ce zs := ⟨hp2.trans hpB, hx2.below hpB, hz2.below hpB, cell_in hpB b0, cell_in hpB b1, x0, x1⟩
  have HW2 := Lib.hid hW2
  clear hW2 hx2 hz2 hp2 hpB b0 b1 x0 x1
  go_upto_region 5 with (fail)
  rw [← HW2.out]
  clear HW2
  have b0 := hS0.n0
  have b1 := hS0.n1
  have x0 := hS0.x0
  have x1 := hS0.x1
  have hS := hS0.drew
  cases hO : lnetB m xs load with
  | false =>
    obtain ⟨e1, e2⟩ := lnet_no hO
    rw [← HM.out] at e1
    subst e1
    clear hO e2
    go_cut [29] (fun c wx => c = .bool true ∧ LnS w wx w1.heap.size w2.heap.size m 0 B k cap xs E R ce zs)
    case first =>
      go_region_held3 (fun w' => w'.cell? ⟨w1.heap.size, 0, none⟩ = some (.int .i64 m) ∧ w'.cell? ⟨w1.heap.size, 1, none⟩ = some (.slice B k cap) ∧ w'.cell? ⟨w2.heap.size, 0, none⟩ = some (.int .i64 0) ∧ w'.cell? ⟨w2.heap.size, 1, none⟩ = some (.slice E R ce)) (go_keep)
        (first
        | (go_at_call 43; refine (specLoadNet_any m B k cap xs load _ hkk HX.out hS.arcs).mono ?_; rintro e w4 ⟨G, cg, rfl, hg, _, hb4⟩; rw [← HZ.out] at hg ⊢; rw [← HM.out, HR.out]; have hS := hS.below hb4; have b0 := hS.n0; have b1 := hS.n1; have x0 := hS.x0; have x1 := hS.x1; clear hb4)
        | (go_at_call 37; refine (wkNet_same 0 E G R ce cg zs _ hR1 HR.out hS.own hg).mono ?_; rintro e w5 ⟨rfl, hb5⟩; have hS := hS.below hb5; have b0 := hS.n0; have b1 := hS.n1; have x0 := hS.x0; have x1 := hS.x1; clear hb5 hg))
      all_goals go_wp2_with fail
      all_goals go_meet
      all_goals exact ⟨rfl, hS⟩
    case rest =>
      obtain ⟨rfl, hS⟩ := hcut
      have b0 := hS.n0
      have b1 := hS.n1
      have x0 := hS.x0
      have x1 := hS.x1
      go_upto_region 6 with (fail)
      have hS := hS.drew
      go_region_held3 (fun w' => w'.cell? ⟨w1.heap.size, 0, none⟩ = some (.int .i64 m) ∧ w'.cell? ⟨w1.heap.size, 1, none⟩ = some (.slice B k cap) ∧ w'.cell? ⟨w2.heap.size, 0, none⟩ = some (.int .i64 0) ∧ w'.cell? ⟨w2.heap.size, 1, none⟩ = some (.slice E R ce)) (go_keep)
        (first
        | (go_at_call 43; refine (specLoadNet_any m B k cap xs load _ hkk HX.out hS.arcs).mono ?_; rintro e w6 ⟨G2, cg2, rfl, hg, _, hb4⟩; rw [← HZ.out] at hg ⊢; rw [← HM.out, HR.out]; have hS := hS.below hb4; have b0 := hS.n0; have b1 := hS.n1; have x0 := hS.x0; have x1 := hS.x1; clear hb4)
        | (go_at_call 37; refine (wkNet_same 0 E G2 R ce cg2 zs _ hR1 HR.out hS.own hg).mono ?_; rintro e w7 ⟨rfl, hb5⟩; have hS := hS.below hb5; have b0 := hS.n0; have b1 := hS.n1; have x0 := hS.x0; have x1 := hS.x1; clear hb5 hg))
      all_goals go_wp2
      all_goals go_ret
      all_goals exact ⟨rfl, hS.past⟩
  | true =>
    obtain ⟨e1, e2⟩ := lnet_yes hO
    rw [← HM.out] at e1
    rw [← HZ.out] at e2
    subst e1
    simp only [lnetB, Bool.and_eq_true] at hO
    obtain ⟨hN, hI⟩ := hO
    obtain ⟨M, rfl, hM1, hM8⟩ := here_nat hN
    have hNZ : netB (M : Int) zs = true := by rw [e2]; exact forL_net hN load
    have hzz : lnetB (M : Int) zs load = true := by rw [lnetB, hNZ, hI]; rfl
    have hx9 : lnetB (M : Int) xs 0 = true := by rw [lnetB, hN]; rfl
    have E1 := Lib.hid (lnet_yes hzz).1
    have E2 : Hid (lnetL (M : Int) zs load = zs) := by rw [Hid, (lnet_yes hzz).2, e2, forL_again]
    have E3 := Lib.hid (lnet_yes hx9).1
    have E4 : Hid (lnetL (M : Int) xs 0 = xs) := by rw [Hid, (lnet_yes hx9).2, forL_zero hN]
    have HNZ := Lib.hid hNZ
    have HZL := Lib.hid e2
    have hM0 : ((M : Int) == 0) = false := by simp; omega
    clear hN hI hNZ hzz hx9 e2
    go_cut [29] (fun c wx => c = .bool false ∧ LnS w wx w1.heap.size w2.heap.size (M : Int) (M : Int) B k cap xs E R ce zs)
    case first =>
      go_region_held3 (fun w' => w'.cell? ⟨w1.heap.size, 0, none⟩ = some (.int .i64 (M : Int)) ∧ w'.cell? ⟨w1.heap.size, 1, none⟩ = some (.slice B k cap) ∧ w'.cell? ⟨w2.heap.size, 0, none⟩ = some (.int .i64 (M : Int)) ∧ w'.cell? ⟨w2.heap.size, 1, none⟩ = some (.slice E R ce)) (go_keep)
        (first
        | (go_at_call 43; refine (specLoadNet_any (M : Int) B k cap xs load _ hkk HX.out hS.arcs).mono ?_; rintro e w4 ⟨G, cg, rfl, hg, _, hb4⟩; rw [← HZ.out] at hg ⊢; rw [← HM.out, HR.out]; have hS := hS.below hb4; have b0 := hS.n0; have b1 := hS.n1; have x0 := hS.x0; have x1 := hS.x1; clear hb4)
        | (go_at_call 37; refine (wkNet_same (M : Int) E G R ce cg zs _ hR1 HR.out hS.own hg).mono ?_; rintro e w5 ⟨rfl, hb5⟩; have hS := hS.below hb5; have b0 := hS.n0; have b1 := hS.n1; have x0 := hS.x0; have x1 := hS.x1; clear hb5 hg))
      all_goals go_wp2_with fail
      all_goals go_meet
      all_goals exact ⟨rfl, hS⟩
    case rest =>
      obtain ⟨rfl, hS⟩ := hcut
      have b1 := hS.n1
      clear hS0
      go_wp2
      go_loopw [6, 7] (fun q i wr => ∃ j : Nat, j ≤ k ∧ i = .int .i64 j ∧ q = .int .i64 ((forL (xs.take j) load).length : Nat) ∧ Past wc wr) (fun _ i _ => k - (intOf i).toNat)
      case atStart => exact ⟨0, Nat.zero_le _, rfl, by simp [forL], Past.refl _⟩
      case round =>
        obtain ⟨j, hj, rfl, rfl, hpr⟩ := hrel
        have hSr := hS.below hpr
        have b0 := hSr.n0
        have b1 := hSr.n1
        have x0 := hSr.x0
        have x1 := hSr.x1
        by_cases hlt : j < k
        · obtain ⟨a, ha⟩ : ∃ a, xs[j]? = some a := ⟨_, List.getElem?_eq_getElem (by have := HX.out; omega)⟩
          have hda : load ≤ a.d → zs[(forL (xs.take j) load).length]? = some a := fun h => by rw [HZL.out]; exact forL_at ha h
          obtain ⟨K, hK⟩ : ∃ K, K = (forL (xs.take j) load).length := ⟨_, rfl⟩
          rw [← hK] at hda ⊢
          obtain ⟨f, t, c', l, d⟩ := a
          obtain ⟨g, o, rfl, c0, c1, c2, c3, c4⟩ := hSr.arcs j _ ha
          simp only at c0 c1 c2 c3 c4 hda
          have j0 : (0 : Int) ≤ (j : Int) := by omega
          have j1 : (j : Int) < (k : Int) := by omega
          by_cases hd : load ≤ d
          · obtain ⟨g', o', rfl, d0, d1, d2, d3, d4⟩ := hSr.own K _ (hda hd)
            simp only at d0 d1 d2 d3 d4
            have hKR : K < R := by have := (List.getElem?_eq_some_iff.1 (hda hd)).1; have := HR.out; omega
            have k0 : (0 : Int) ≤ (K : Int) := by omega
            have k1 : (K : Int) < (R : Int) := by omega
            have k2 : decide ((R : Int) ≤ (K : Int)) = false := decide_eq_false (by omega)
            have k3 : decide (R ≤ K) = false := decide_eq_false (by omega)
            have HF : Hid ((forL (xs.take (j + 1)) load).length = K + 1) := by rw [Hid, forL_hit ha hd, List.length_append, ← hK]; rfl
            clear ha hda hK hKR
            go_wp2_with fail
            go_quiet (with_reducible exact rfl)
            go_wp2
            go_roundw
            case rel => exact ⟨j + 1, by omega, by go_num, by rw [HF.out]; go_num, hpr.trans ((Past.refl _).drewN _)⟩
            case measure => simp [intOf]; omega
          · have HF : Hid ((forL (xs.take (j + 1)) load).length = K) := by rw [Hid, forL_miss ha hd, ← hK]
            clear ha hda hK
            go_wp2
            go_roundw
            case rel => exact ⟨j + 1, by omega, by go_num, by rw [HF.out], hpr⟩
            case measure => simp [intOf]; omega
        · obtain rfl : j = k := by omega
          have hlast : (forL (xs.take j) load).length = R := by rw [List.take_of_length_le (by rw [HX.out]; exact Nat.le_refl _), ← HZL.out, HR.out]
          rw [hlast]
          have hRR : ((R : Int) == (R : Int)) = true := by simp
          clear hlast hS
          go_upto_region 14 with (fail)
          have hS := hSr.drew
          clear hSr
          go_region_held3 (fun w' => w'.cell? ⟨w1.heap.size, 0, none⟩ = some (.int .i64 (M : Int)) ∧ w'.cell? ⟨w1.heap.size, 1, none⟩ = some (.slice B j cap) ∧ w'.cell? ⟨w2.heap.size, 0, none⟩ = some (.int .i64 (M : Int)) ∧ w'.cell? ⟨w2.heap.size, 1, none⟩ = some (.slice E R ce)) (go_keep)
            (first
            | (go_at_call 38; refine (implNetOk_any (M : Int) E R ce zs _ hR1 HR.out hS.own).mono ?_; rintro e w4 ⟨rfl, hb4⟩; rw [HNZ.out]; have hS := hS.below hb4; have b0 := hS.n0; have b1 := hS.n1; have x0 := hS.x0; have x1 := hS.x1; clear hb4)
            | (go_at_call 44; (with_reducible refine (implLoadNet_any (M : Int) E R ce zs load _ hR1 HR.out hS.own).mono ?_); rintro e w5 ⟨G, cg, rfl, hg, _, hb4⟩; rw [E2.out] at hg ⊢; rw [E1.out, HR.out]; have hS := hS.below hb4; have b0 := hS.n0; have b1 := hS.n1; have x0 := hS.x0; have x1 := hS.x1; clear hb4)
            | (go_at_call 44; (with_reducible refine (implLoadNet_any (M : Int) B j cap xs 0 _ hkk HX.out hS.arcs).mono ?_); rintro e w7 ⟨G2, cg2, rfl, hg2, _, hb4⟩; rw [E4.out] at hg2 ⊢; rw [E3.out, HX.out]; have hS := hS.below hb4; have b0 := hS.n0; have b1 := hS.n1; have x0 := hS.x0; have x1 := hS.x1; clear hb4)
            | (go_at_call 37; (with_reducible refine (wkNet_same (M : Int) G E R cg ce zs _ hR1 HR.out hg hS.own).mono ?_); rintro e w6 ⟨rfl, hb5⟩; have hS := hS.below hb5; have b0 := hS.n0; have b1 := hS.n1; have x0 := hS.x0; have x1 := hS.x1; clear hb5 hg)
            | (go_at_call 37; (with_reducible refine (wkNet_same (M : Int) G2 B j cg2 cap xs _ hkk HX.out hg2 hS.arcs).mono ?_); rintro e w8 ⟨rfl, hb5⟩; have hS := hS.below hb5; have b0 := hS.n0; have b1 := hS.n1; have x0 := hS.x0; have x1 := hS.x1; clear hb5 hg2))
          all_goals go_wp2
          all_goals go_ret
          all_goals exact ⟨rfl, hS.past⟩

set_option maxRecDepth 100000 in
theorem fnLoadNet_lifted (os : Os) (started : os.Started) (H : Type) (enc : TypeId × Value → H) :
    ReturnsInHanded {} Try.checked os 11 .any (Rows.fnLoadNetSpec.pre6 enc Try.prog Try.f11 Rows.fnLoadNetRow.domain false) (Rows.fnLoadNetSpec.post enc Try.prog Try.f11 false true false false) := by
  refine returnsInHanded_of_change (C := Try.checked) own started (by kernel_rfl) Try.func11
    (ChangeSpec.witness6 (enc := enc) (C := Try.checked) false ⟨#[], #[.slice none 0 0], []⟩ 8 (by kernel_rfl) (by kernel_rfl) (by kernel_rfl) (by kernel_rfl)) ?_
  intro W base args ds gs before hval0 hW hcnd _
  have hval : ∀ (j : Nat) t v, Try.f11.params[j]? = some t → args[j]? = some v → Value.okWide Try.prog W .any base t v := hval0
  have hW' := hW
  obtain ⟨p, q, hA0, hV, rfl, hfz, hnd⟩ := hW
  have hA : DataW.TrodAll enc Try.prog W 0 (fun _ => true) true Try.f11.params.toList args.toList ds p := hA0
  rw [Try.params11] at hA hval
  obtain ⟨v0, vs0, d0, ds0, p0, q0, hargs, rfl, rfl, h0, r0⟩ := trodAll_cons hA
  obtain ⟨rfl, rfl, rfl⟩ := trodAll_nil r0
  obtain rfl : args = #[v0] := by cases args; simp_all
  obtain ⟨rfl, rfl⟩ := trodVars_none hV
  have k0 := h0
  have lt0 := places_lt k0
  obtain ⟨A0, n0, c0, rfl, hn0, hc0, hb0⟩ := open_bytes (hval 0 43 v0 rfl rfl) h0
  clear hA0 hval0
  refine (fnLoadNet_walk A0 n0 c0 W hn0 hc0 hb0).mono fun e W' ⟨he, bel⟩ => ?_
  subst he
  exact ⟨_, rfl, _, _, _, [], _, [], hW', trodAll_mk1 (shut_bool Try.underlying4 _), (trodAll_cons_mk (Below.trod laidOut (by kernel_rfl) (of_decide_eq_true (by kernel_rfl)) k0 bel lt0) trodAll_mk0), rfl, bel.frame _, fun h => by cases h⟩

/-- The given statement. -/
theorem fnLoadNet_proved : Rows.FnLoadNetSaid :=
  OpenClaim.holds_of_wide 11 Try.f11 rfl rfl rfl rfl rfl rfl rfl ⟨rfl, rfl, rfl, rfl, rfl⟩ rfl rfl rfl rfl rfl (by kernel_rfl) Try.func11 (by kernel_rfl)
    (of_decide_eq_true (by kernel_rfl)) (by unfold Func.isWrapper; first | (rw [if_pos (by decide +kernel)]; kernel_rfl) | (rw [if_neg (by decide +kernel)]; exact ⟨rfl, rfl⟩))
    (fun os started H enc _ => fnLoadNet_lifted os started H enc)

end Go.Proofs.Ytaojognjkiifmaa
