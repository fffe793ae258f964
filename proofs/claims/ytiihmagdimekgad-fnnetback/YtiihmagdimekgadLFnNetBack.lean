/-
  FnNetBack answers true at every input: a net that is turned round twice is as it was. No condition.
-/
import Derived.Test.YtiihmagdimekgadDrawNetBack
import Derived.Test.YtiihmagdimekgadOpenB
import Derived.Test.YtiihmagdimekgadBack4
import Derived.Test.YtiihmagdimekgadWkNet
namespace Go.Proofs.Ytiihmagdimekgad
open Go.ChangeShapes Go.WideShapes Go.ChangeAt Go.RowKit

theorem own_form {w : World} {lo t size n : Nat} {A : Option Addr} (h : OwnAt w lo A t size n) : (A = none ∧ n = 0) ∨ ∃ g o, A = some ⟨g, o, none⟩ := by
  rcases h with h | ⟨g, _, rfl, _⟩
  · exact .inl h
  · exact .inr ⟨g, 0, rfl⟩

theorem flip_flip (a : ArcD) : flip (flip a) = a := rfl
theorem flips (xs : List ArcD) : (xs.map flip).map flip = xs := by rw [List.map_map]; exact (List.map_congr_left fun a _ => flip_flip a).trans (List.map_id _)
theorem arcB_flip {m : Int} {a : ArcD} (h : arcB m a = true) : arcB m (flip a) = true := by
  unfold arcB at h ⊢
  unfold flip
  simp only [Bool.and_eq_true, Bool.not_eq_true', beq_eq_false_iff_ne, ne_eq] at h ⊢
  exact ⟨h.2.1, h.1, fun e => h.2.2.1 e.symm, h.2.2.2⟩
theorem netB_flip {m : Int} {xs : List ArcD} (h : netB m xs = true) : netB m (xs.map flip) = true := by
  obtain ⟨h1, h2, h3⟩ := (netB_iff _ _).1 h
  refine (netB_iff _ _).2 ⟨h1, by rw [List.length_map]; exact h2, fun a ha => ?_⟩
  obtain ⟨b, hb, rfl⟩ := List.mem_map.1 ha
  exact arcB_flip (h3 b hb)

/-- What the law reads: two nets. -/
structure NetS (w0 W : World) (nb xb : Nat) (m : Int) (B : Option Addr) (k cap : Nat) (xs : List ArcD) (m2 : Int) (Y : Option Addr) (k2 c2 : Nat) (ys : List ArcD) : Prop where
  past : Past w0 W
  arcs : ArcsAt W B xs
  back : ArcsAt W Y ys
  n0 : W.cell? ⟨nb, 0, none⟩ = some (.int .i64 m)
  n1 : W.cell? ⟨nb, 1, none⟩ = some (.slice B k cap)
  x0 : W.cell? ⟨xb, 0, none⟩ = some (.int .i64 m2)
  x1 : W.cell? ⟨xb, 1, none⟩ = some (.slice Y k2 c2)

theorem NetS.below {w0 W W' : World} {nb xb : Nat} {m : Int} {B : Option Addr} {k cap : Nat} {xs : List ArcD} {m2 : Int} {Y : Option Addr} {k2 c2 : Nat} {ys : List ArcD}
    (h : NetS w0 W nb xb m B k cap xs m2 Y k2 c2 ys) (hb : Past W W') : NetS w0 W' nb xb m B k cap xs m2 Y k2 c2 ys :=
  ⟨h.past.trans hb, h.arcs.below hb, h.back.below hb, cell_in hb h.n0, cell_in hb h.n1, cell_in hb h.x0, cell_in hb h.x1⟩
theorem NetS.drew {w0 W : World} {nb xb : Nat} {m : Int} {B : Option Addr} {k cap : Nat} {xs : List ArcD} {m2 : Int} {Y : Option Addr} {k2 c2 : Nat} {ys : List ArcD}
    (h : NetS w0 W nb xb m B k cap xs m2 Y k2 c2 ys) : NetS w0 W.drew nb xb m B k cap xs m2 Y k2 c2 ys := h.below (Past.refl W).drew

set_option maxRecDepth 100000 in
set_option maxHeartbeats 4000000 in
theorem fnNetBack_walk (A : Option Addr) (n c : Nat) (w : World) (hn : n ≤ c) (hc : c ≤ maxLen) (hb : BytesAt w A n) :
    Calls Try.prog 13 #[.slice A n c] w fun e w' => e = .returned (.bool true) ∧ Below w.heap.size w w' := by
  by_cases h1 : 1048576 < n
  · have h1' : (1048576 : Int) < (n : Int) := by omega
    go_enter Try.func13, Try.ntmps13
    go_wp2
    go_ret
    exact ⟨rfl, Below.refl _ _⟩
  have h1' : ¬ (1048576 : Int) < (n : Int) := by omega
  go_enter Try.func13, Try.ntmps13
  go_wp2_with fail
  refine (drawNetBack_any A n c w hn hc hb).mono ?_
  rintro e w1 ⟨m, B, k, cap, xs, rfl, hxk, hk, hx1, ho1, hb1⟩
  have HX := Lib.hid hxk
  have hBf := own_form ho1
  clear hxk hb hn hc ho1
  have hpW : Past w1 (w1.alloc (.cells #[.int .i64 m, .slice B k cap] 31)) := (Past.refl w1).alloc _
  have hkk : k ≤ 1048576 := by omega
  go_wp2_with fail
  refine (implNetBack_all m B k cap xs _ hkk HX.out (hx1.below hpW) hBf).mono ?_
  rintro e w2 ⟨Y, c2, rfl, hy2, ho2, hb2⟩
  have b0 := cell_in (p := ⟨w1.heap.size, 0, none⟩) (v := .int .i64 m) hb2 (by go_simp)
  have b1 := cell_in (p := ⟨w1.heap.size, 1, none⟩) (v := .slice B k cap) hb2 (by go_simp)
  have hYf := own_form ho2
  obtain ⟨ys, hys⟩ : ∃ ys, backL m xs = ys := ⟨_, rfl⟩
  obtain ⟨m2, hm2⟩ : ∃ m2, backN m xs = m2 := ⟨_, rfl⟩
  rw [hys] at hy2 hYf ⊢
  rw [hm2]
  obtain ⟨k2, hk2⟩ : ∃ k2, ys.length = k2 := ⟨_, rfl⟩
  rw [hk2] at hYf ⊢
  have hkk2 : k2 ≤ 1048576 := by have := backL_len m xs; rw [hys, hk2, HX.out] at this; omega
  have HYS := Lib.hid hys
  have HM := Lib.hid hm2
  have HK2 := Lib.hid hk2
  have hp2 : Past w w2 := Past.trans hb1 (hpW.trans hb2)
  have hpX : Past w2 (w2.alloc (.cells #[.int .i64 m2, .slice Y k2 c2] 31)) := (Past.refl w2).alloc _
  have hx2 := (hx1.below hpW).below hb2
  obtain ⟨W, hW⟩ : ∃ W, W = w2.alloc (.cells #[.int .i64 m2, .slice Y k2 c2] 31) := ⟨_, rfl⟩
  rw [← hW] at hpX
  have x0 : W.cell? ⟨w2.heap.size, 0, none⟩ = some (.int .i64 m2) := by rw [hW]; go_simp
  have x1 : W.cell? ⟨w2.heap.size, 1, none⟩ = some (.slice Y k2 c2) := by rw [hW]; go_simp
  have hS0 : NetS w W w1.heap.size w2.heap.size m B k cap xs m2 Y k2 c2 ys := ⟨hp2.trans hpX, hx2.below hpX, hy2.below hpX, cell_in hpX b0, cell_in hpX b1, x0, x1⟩
  have hS := hS0.drew
  clear hys hm2 hk2 hx1 hy2 ho2 hb1 hb2 hpW hp2 hx2 b0 b1
  go_upto_region 5 with (fail)
  rw [← hW]
  clear hW hpX
  have n0 := hS0.n0
  have n1 := hS0.n1
  go_region_held3 (fun w' => w'.cell? ⟨w1.heap.size, 0, none⟩ = some (.int .i64 m) ∧ w'.cell? ⟨w1.heap.size, 1, none⟩ = some (.slice B k cap) ∧ w'.cell? ⟨w2.heap.size, 0, none⟩ = some (.int .i64 m2) ∧ w'.cell? ⟨w2.heap.size, 1, none⟩ = some (.slice Y k2 c2))
    (go_keep)
    (first
      | (go_at_call 48; refine (specNetBack_any m B k cap xs _ hkk HX.out hS.arcs).mono ?_; rintro e w9 ⟨Z, cz, rfl, hz9, _, hb9⟩; rw [HYS.out] at hz9 ⊢; rw [HM.out, HK2.out]; have hS := hS.below hb9; have n0 := hS.n0; have n1 := hS.n1; have x0 := hS.x0; have x1 := hS.x1)
      | (go_at_call 44; refine (wkNet_same m2 Y Z k2 c2 cz ys _ hkk2 HK2.out hS.back hz9).mono ?_; rintro e w9 ⟨rfl, hb9⟩; have hS := hS.below hb9; have n0 := hS.n0; have n1 := hS.n1; have x0 := hS.x0; have x1 := hS.x1)
      | (go_at_call 45; refine (implNetOk_any m B k cap xs _ hkk HX.out hS.arcs).mono ?_; rintro e w9 ⟨rfl, hb9⟩; have hS := hS.below hb9; have n0 := hS.n0; have n1 := hS.n1; have x0 := hS.x0; have x1 := hS.x1))
  obtain ⟨V, hV⟩ : ∃ V, V = w9 := ⟨_, rfl⟩
  subst hV
  cases hO : netB m xs with
  | false =>
    clear hO
    have hS := hS.drew
    go_upto_region 6 with (fail)
    go_region_held3 (fun w' => w'.cell? ⟨w1.heap.size, 0, none⟩ = some (.int .i64 m) ∧ w'.cell? ⟨w1.heap.size, 1, none⟩ = some (.slice B k cap) ∧ w'.cell? ⟨w2.heap.size, 0, none⟩ = some (.int .i64 m2) ∧ w'.cell? ⟨w2.heap.size, 1, none⟩ = some (.slice Y k2 c2))
      (go_keep)
      (first
        | (go_at_call 48; refine (specNetBack_any m B k cap xs _ hkk HX.out hS.arcs).mono ?_; rintro e w9 ⟨Z, cz, rfl, hz9, _, hb9⟩; rw [HYS.out] at hz9 ⊢; rw [HM.out, HK2.out]; have hS := hS.below hb9; have n0 := hS.n0; have n1 := hS.n1; have x0 := hS.x0; have x1 := hS.x1)
        | (go_at_call 44; refine (wkNet_same m2 Y Z k2 c2 cz ys _ hkk2 HK2.out hS.back hz9).mono ?_; rintro e w9 ⟨rfl, hb9⟩; have hS := hS.below hb9; have n0 := hS.n0; have n1 := hS.n1; have x0 := hS.x0; have x1 := hS.x1))
    go_wp2
    go_ret
    exact ⟨rfl, hS.past⟩
  | true =>
    obtain rfl : m2 = m := by rw [← HM.out, backN, if_pos hO]
    have hyx : ys = xs.map flip := by rw [← HYS.out, backL, if_pos hO]
    obtain rfl : k2 = k := by rw [← HK2.out, hyx, List.length_map, HX.out]
    have HO := Lib.hid hO
    have HY := Lib.hid hyx
    have HO2 : Hid (netB m2 ys = true) := by rw [Hid, hyx]; exact netB_flip hO
    have HB2 : Hid (backL m2 ys = xs) := by rw [Hid, backL, if_pos HO2.out, hyx, flips]
    have HN2 : Hid (backN m2 ys = m2) := by rw [Hid, backN, if_pos HO2.out]
    clear hO hyx
    simp only [Bool.not_true]
    go_wp2
    go_loopw [5] (fun i wr => ∃ j : Nat, j ≤ k2 ∧ i = .int .i64 j ∧ Past V wr) (fun i _ => k2 - (intOf i).toNat)
    case atStart => exact ⟨0, by omega, rfl, Past.refl _⟩
    case round =>
      obtain ⟨j, hj, rfl, hbr⟩ := hrel
      have hS := hS.below hbr
      have n0 := hS.n0
      have n1 := hS.n1
      have x0 := hS.x0
      have x1 := hS.x1
      by_cases hlt : j < k2
      · obtain ⟨⟨f, t, c', l', d⟩, ha⟩ : ∃ a, xs[j]? = some a := ⟨_, List.getElem?_eq_getElem (by have := HX.out; omega)⟩
        have hya : ys[j]? = some ⟨t, f, c', l', d⟩ := by rw [HY.out, List.getElem?_map, ha]; rfl
        obtain ⟨g, o, rfl, c0, c1, _, _, _⟩ := hS.arcs j _ ha
        obtain ⟨g', o', rfl, d0, d1, _, _, _⟩ := hS.back j _ hya
        have i0 : (0 : Int) ≤ (j : Int) := by omega
        have i1 : (j : Int) < (k2 : Int) := by omega
        clear ha hya
        go_wp2_with fail
        go_quiet (with_reducible exact rfl)
        go_wp2
        go_roundw
        case rel => exact ⟨j + 1, by omega, by go_num, hbr.drewN _⟩
        case measure => simp [intOf]; omega
      · obtain rfl : k2 = j := by omega
        have hS := hS.drew
        go_upto_region 12 with (fail)
        go_region_held3 (fun w' => w'.cell? ⟨w1.heap.size, 0, none⟩ = some (.int .i64 m2) ∧ w'.cell? ⟨w1.heap.size, 1, none⟩ = some (.slice B k2 cap) ∧ w'.cell? ⟨w2.heap.size, 0, none⟩ = some (.int .i64 m2) ∧ w'.cell? ⟨w2.heap.size, 1, none⟩ = some (.slice Y k2 c2))
          (go_keep)
          (first
            | (go_at_call 45; refine (implNetOk_any m2 Y k2 c2 ys _ hkk2 HK2.out hS.back).mono ?_; rintro e w9 ⟨rfl, hb9⟩; rw [HO2.out]; have hS := hS.below hb9; have n0 := hS.n0; have n1 := hS.n1; have x0 := hS.x0; have x1 := hS.x1)
            | (go_at_call 47; refine (implNetBack_all m2 Y k2 c2 ys _ hkk2 HK2.out hS.back hYf).mono ?_; rintro e w9 ⟨Z, cz, rfl, hz9, _, hb9⟩; rw [HB2.out] at hz9 ⊢; rw [HN2.out, HX.out]; have hS := hS.below hb9; have n0 := hS.n0; have n1 := hS.n1; have x0 := hS.x0; have x1 := hS.x1)
            | (go_at_call 44; refine (wkNet_same m2 Z B k2 cz cap xs _ hkk2 HX.out hz9 hS.arcs).mono ?_; rintro e w9 ⟨rfl, hb9⟩; have hS := hS.below hb9; have n0 := hS.n0; have n1 := hS.n1; have x0 := hS.x0; have x1 := hS.x1))
        go_wp2
        go_ret
        exact ⟨rfl, hS.past⟩

set_option maxRecDepth 100000 in
theorem fnNetBack_lifted (os : Os) (started : os.Started) (H : Type) (enc : TypeId × Value → H) :
    ReturnsInHanded {} Try.checked os 13 .any (Rows.fnNetBackSpec.pre6 enc Try.prog Try.f13 Rows.fnNetBackRow.domain false) (Rows.fnNetBackSpec.post enc Try.prog Try.f13 false true false false) := by
  refine returnsInHanded_of_change (C := Try.checked) own started (by kernel_rfl) Try.func13
    (ChangeSpec.witness6 (enc := enc) (C := Try.checked) false ⟨#[], #[.slice none 0 0], []⟩ 8 (by kernel_rfl) (by kernel_rfl) (by kernel_rfl) (by kernel_rfl)) ?_
  intro W base args ds gs before hval0 hW hcnd _
  have hval : ∀ (j : Nat) t v, Try.f13.params[j]? = some t → args[j]? = some v → Value.okWide Try.prog W .any base t v := hval0
  have hW' := hW
  obtain ⟨p, q, hA0, hV, rfl, hfz, hnd⟩ := hW
  have hA : DataW.TrodAll enc Try.prog W 0 (fun _ => true) true Try.f13.params.toList args.toList ds p := hA0
  rw [Try.params13] at hA hval
  obtain ⟨v0, vs0, d0, ds0, p0, q0, hargs, rfl, rfl, h0, r0⟩ := trodAll_cons hA
  obtain ⟨rfl, rfl, rfl⟩ := trodAll_nil r0
  obtain rfl : args = #[v0] := by cases args; simp_all
  obtain ⟨rfl, rfl⟩ := trodVars_none hV
  have k0 := h0
  have lt0 := places_lt k0
  obtain ⟨A0, n0, c0, rfl, hn0, hc0, hb0⟩ := open_bytes (hval 0 50 v0 rfl rfl) h0
  clear hA0 hval0
  refine (fnNetBack_walk A0 n0 c0 W hn0 hc0 hb0).mono fun e W' ⟨he, bel⟩ => ?_
  subst he
  exact ⟨_, rfl, _, _, _, [], _, [], hW', trodAll_mk1 (shut_bool Try.underlying4 _), (trodAll_cons_mk (Below.trod laidOut (by kernel_rfl) (of_decide_eq_true (by kernel_rfl)) k0 bel lt0) trodAll_mk0), rfl, bel.frame _, fun h => by cases h⟩

/-- The given statement. -/
theorem fnNetBack_proved : Rows.FnNetBackSaid :=
  OpenClaim.holds_of_wide 13 Try.f13 rfl rfl rfl rfl rfl rfl rfl ⟨rfl, rfl, rfl, rfl, rfl⟩ rfl rfl rfl rfl rfl (by kernel_rfl) Try.func13 (by kernel_rfl)
    (of_decide_eq_true (by kernel_rfl)) (by unfold Func.isWrapper; first | (rw [if_pos (by decide +kernel)]; kernel_rfl) | (rw [if_neg (by decide +kernel)]; exact ⟨rfl, rfl⟩))
    (fun os started H enc _ => fnNetBack_lifted os started H enc)

end Go.Proofs.Ytiihmagdimekgad
