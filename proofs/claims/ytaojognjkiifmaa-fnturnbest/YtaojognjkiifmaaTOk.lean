/-
  Whether turns are ok: impl.turnOk, impl.TurnsOk, spec.l4Ok, spec.TurnsOk. No condition.
-/
import Derived.Test.YtaojognjkiifmaaTMap
import Derived.Test.YtaojognjkiifmaaOk
import Derived.Test.YtaojognjkiifmaaInW
namespace Go.Proofs.Ytaojognjkiifmaa
open Go.RowKit Go.Maps

theorem arcAt_get {xs : List ArcD} {i : Int} {a : ArcD} (h : xs[i.toNat]? = some a) : arcAt xs i = a := by simp [arcAt, h]
theorem turnB_bad1 {xs : List ArcD} {x0 x1 x2 : Int} (h : inB x0 0 ((xs.length : Int) - 1) = false) : turnB xs ⟨x0, x1, x2⟩ = false := by simp only [turnB, h, Bool.false_and]
theorem turnB_bad2 {xs : List ArcD} {x0 x1 x2 : Int} (h : inB x1 0 ((xs.length : Int) - 1) = false) : turnB xs ⟨x0, x1, x2⟩ = false := by simp only [turnB, h, Bool.false_and, Bool.and_false]
theorem turnB_arcs {xs : List ArcD} {x0 x1 x2 : Int} {a b : ArcD} (h0 : inB x0 0 ((xs.length : Int) - 1) = true) (h1 : inB x1 0 ((xs.length : Int) - 1) = true) (ha : xs[x0.toNat]? = some a) (hb : xs[x1.toNat]? = some b) : turnB xs ⟨x0, x1, x2⟩ = (decide (a.t = b.f) && inB x2 (-1) 99) := by
  simp only [turnB, h0, h1, Bool.true_and, arcAt_get ha, arcAt_get hb]
theorem cost_in (x : Int) : inB x (-1) 99 = (decide (x = -1) || inB x 0 99) := by
  rw [Bool.eq_iff_iff]
  simp only [Bool.or_eq_true, decide_eq_true_eq, inB_iff]
  omega

set_option maxRecDepth 100000 in
set_option maxHeartbeats 2000000 in
theorem turnOk_any (m : Int) (A : Option Addr) (n c : Nat) (xs : List ArcD) (t : TurnD) (w : World) (hn : n ≤ 1048576) (hnx : xs.length = n) (hx : ArcsAt w A xs) :
    Calls Try.prog 98 #[.agg #[.int .i64 m, .slice A n c], .agg #[.int .i64 t.x0, .int .i64 t.x1, .int .i64 t.x2]] w fun e w' => e = .returned (.bool (turnB xs t)) ∧ Below w.heap.size w w' := by
  obtain ⟨x0, x1, x2⟩ := t
  have HX := Lib.hid hnx
  clear hnx
  obtain ⟨W, hW⟩ : ∃ W, W = (w.alloc (.cells #[.int .i64 m, .slice A n c] 32)).alloc (.cells #[.int .i64 x0, .int .i64 x1, .int .i64 x2] 54) := ⟨_, rfl⟩
  have hb0 : Past w W := by rw [hW]; exact ((Past.refl _).alloc _).alloc _
  have b1 : W.cell? ⟨w.heap.size, 1, none⟩ = some (.slice A n c) := by rw [hW]; go_simp
  have t0 : W.cell? ⟨w.heap.size + 1, 0, none⟩ = some (.int .i64 x0) := by rw [hW]; go_simp
  have t1 : W.cell? ⟨w.heap.size + 1, 1, none⟩ = some (.int .i64 x1) := by rw [hW]; go_simp
  have t2 : W.cell? ⟨w.heap.size + 1, 2, none⟩ = some (.int .i64 x2) := by rw [hW]; go_simp
  have hx0 := hx.below hb0
  have HW := Lib.hid hW
  have hw : IntKind.i64.wrap ((n : Int) - 1) = (n : Int) - 1 := IntWalk.i64_in _ (by omega)
  clear hW hx
  go_enter Try.func98, Try.ntmps98
  go_wp2_with fail
  rw [← HW.out]
  clear HW
  refine (within_any x0 ((n : Int) - 1) _).mono ?_
  rintro e w1 ⟨rfl, rfl⟩
  cases hB0 : inB x0 0 ((n : Int) - 1) with
  | false =>
    have HB0 : Hid (turnB xs ⟨x0, x1, x2⟩ = false) := turnB_bad1 (by rw [HX.out]; exact hB0)
    clear hB0
    go_wp2
    go_ret
    exact ⟨ret_bool HB0.out.symm, hb0⟩
  | true =>
    go_wp2_with fail
    refine (within_any x1 ((n : Int) - 1) _).mono ?_
    rintro e w1 ⟨rfl, rfl⟩
    cases hB1 : inB x1 0 ((n : Int) - 1) with
    | false =>
      have HB1 : Hid (turnB xs ⟨x0, x1, x2⟩ = false) := turnB_bad2 (by rw [HX.out]; exact hB1)
      clear hB0 hB1
      go_wp2
      go_ret
      exact ⟨ret_bool HB1.out.symm, hb0⟩
    | true =>
      have p0 := (inB_iff _ _ _).1 hB0
      have p1 := (inB_iff _ _ _).1 hB1
      obtain ⟨⟨f, t, c', l', d⟩, ha⟩ : ∃ a, xs[x0.toNat]? = some a := ⟨_, List.getElem?_eq_getElem (by have := HX.out; omega)⟩
      obtain ⟨⟨f', t', c'', l'', d'⟩, hb⟩ : ∃ a, xs[x1.toNat]? = some a := ⟨_, List.getElem?_eq_getElem (by have := HX.out; omega)⟩
      have HT : Hid (turnB xs ⟨x0, x1, x2⟩ = (decide (t = f') && inB x2 (-1) 99)) := turnB_arcs (by rw [HX.out]; exact hB0) (by rw [HX.out]; exact hB1) ha hb
      obtain ⟨g, o, rfl, d0, d1, d2, d3, d4⟩ := hx0 _ _ ha
      obtain ⟨g', o', eg, e0, e1, e2, e3, e4⟩ := hx0 _ _ hb
      injection eg with eg
      injection eg with eg1 eg2
      subst eg1 eg2
      have i0 := p0.1
      have i1 : x0 < (n : Int) := by omega
      have i2 := p1.1
      have i3 : x1 < (n : Int) := by omega
      clear hB0 hB1 ha hb p0 p1 d0 d2 d3 d4 e1 e2 e3 e4
      by_cases hE : t = f'
      rotate_left
      · have q1 : (t == f') = false := by simpa using hE
        have HF : Hid (turnB xs ⟨x0, x1, x2⟩ = false) := by rw [Hid, HT.out, decide_eq_false hE]; rfl
        clear hE
        go_wp2_with fail
        go_quiet ((go_at_call 87; exact Calls.quiet_of_same ((within_any _ _ _).mono fun _ _ h => ⟨h.1, h.2.symm⟩)))
        go_wp2
        go_ret
        exact ⟨ret_bool HF.out.symm, hb0.drewN _⟩
      · have q1 : (t == f') = true := by simpa using hE
        have HC : Hid (turnB xs ⟨x0, x1, x2⟩ = (decide (x2 = -1) || inB x2 0 99)) := by rw [Hid, HT.out, decide_eq_true hE, Bool.true_and, cost_in]
        clear hE
        by_cases h2 : x2 = -1
        · subst h2
          have HF : Hid (turnB xs ⟨x0, x1, -1⟩ = true) := by rw [Hid, HC.out]; simp
          go_wp2_with fail
          go_quiet ((go_at_call 87; exact Calls.quiet_of_same ((within_any _ _ _).mono fun _ _ h => ⟨h.1, h.2.symm⟩)))
          go_wp2
          go_ret
          exact ⟨ret_bool HF.out.symm, hb0.drewN _⟩
        · have q2 : (x2 == -1) = false := by simpa using h2
          have HF : Hid (turnB xs ⟨x0, x1, x2⟩ = inB x2 0 99) := by rw [Hid, HC.out, decide_eq_false h2, Bool.false_or]
          clear h2
          go_wp2_with fail
          go_quiet ((go_at_call 87; exact Calls.quiet_of_same ((within_any _ _ _).mono fun _ _ h => ⟨h.1, h.2.symm⟩)))
          go_wp2
          go_ret
          exact ⟨ret_bool HF.out.symm, hb0.drewN _⟩

theorem all_turn_next {xs : List ArcD} {ts : List TurnD} {k : Nat} {t : TurnD} (h : (ts.take k).all (turnB xs) = true) (ha : ts[k]? = some t) (hf : turnB xs t = true) : (ts.take (k + 1)).all (turnB xs) = true := by
  rw [List.take_add_one, List.all_append, h, ha]
  simp [hf]
theorem all_turn_bad {xs : List ArcD} {ts : List TurnD} {k : Nat} {t : TurnD} (ha : ts[k]? = some t) (hf : turnB xs t = false) : ts.all (turnB xs) = false := by
  rw [List.all_eq_false]
  exact ⟨t, List.mem_of_getElem? ha, by rw [hf]; simp⟩
theorem turn_wf {xs : List ArcD} {t : TurnD} (hl : xs.length ≤ 16) (h : turnB xs t = true) : (Lit.int .i64 t.x0).wf = true ∧ (Lit.int .i64 t.x1).wf = true ∧ (Lit.int .i64 t.x2).wf = true := by
  simp only [turnB, Bool.and_eq_true, inB_iff] at h
  exact ⟨WalkArith.wf_i64 (by omega), WalkArith.wf_i64 (by omega), WalkArith.wf_i64 (by omega)⟩

set_option maxRecDepth 100000 in
set_option maxHeartbeats 2000000 in
theorem implTurnsOk_any (m : Int) (A : Option Addr) (n c : Nat) (xs : List ArcD) (B : Option Addr) (l cb : Nat) (ts : List TurnD) (w : World) (hn : n ≤ 1048576) (hnx : xs.length = n) (hx : ArcsAt w A xs) (hl : l ≤ 1048576) (hlt : ts.length = l) (ht : TurnsAt w B ts) :
    Calls Try.prog 61 #[.agg #[.int .i64 m, .slice A n c], .slice B l cb] w fun e w' => e = .returned (.bool (turnsB m xs ts)) ∧ Below w.heap.size w w' := by
  have HX := Lib.hid hnx
  have HL := Lib.hid hlt
  clear hnx hlt
  have hb0 : Past w (w.alloc (.cells #[.int .i64 m, .slice A n c] 32)) := (Past.refl _).alloc _
  go_enter Try.func61, Try.ntmps61
  go_wp2_with fail
  refine (implNetOk_any m A n c xs _ hn HX.out (hx.below hb0)).mono ?_
  rintro e w1 ⟨rfl, hb1⟩
  have b0 := cell_in (p := ⟨w.heap.size, 0, none⟩) (v := .int .i64 m) hb1 (by go_simp)
  have b1 := cell_in (p := ⟨w.heap.size, 1, none⟩) (v := .slice A n c) hb1 (by go_simp)
  have hp1 := hb0.trans hb1
  have hx1 := hx.below hp1
  have ht1 := ht.below hp1
  clear hb0 hb1 hx ht
  cases hN : netB m xs with
  | false =>
    have HF : Hid (turnsB m xs ts = false) := by rw [Hid, turnsB, hN]; rfl
    clear hN
    go_wp2
    go_ret
    exact ⟨ret_bool HF.out.symm, hp1⟩
  | true =>
    have h16 : xs.length ≤ 16 := ((netB_iff _ _).1 hN).2.1
    have HN := Lib.hid hN
    have H16 := Lib.hid h16
    clear hN h16
    by_cases h12 : l ≤ 12
    rotate_left
    · have g12 : (12 : Int) < (l : Int) := by omega
      have HF : Hid (turnsB m xs ts = false) := by rw [Hid, turnsB, HN.out, HL.out, decide_eq_false h12]; rfl
      go_wp2
      go_ret
      exact ⟨ret_bool HF.out.symm, hp1⟩
    have g12 : ¬ (12 : Int) < (l : Int) := by omega
    go_wp2
    go_loopw [17] (fun i wr => ∃ k : Nat, k ≤ l ∧ i = .int .i64 k ∧ Past w1 wr ∧ (ts.take k).all (turnB xs) = true) (fun i _ => l - (intOf i).toNat)
    case atStart => exact ⟨0, by omega, rfl, Past.refl _, by simp⟩
    case round =>
      obtain ⟨k, hk, rfl, hb, hok⟩ := hrel
      have HK := Lib.hid hok
      clear hok
      have b0r := cell_in hb b0
      have b1r := cell_in hb b1
      by_cases hkl : k < l
      · obtain ⟨⟨x0, x1, x2⟩, ha⟩ : ∃ a, ts[k]? = some a := ⟨_, List.getElem?_eq_getElem (by have := HL.out; omega)⟩
        obtain ⟨g, o, rfl, c0, c1, c2⟩ := (ht1.below hb) k _ ha
        have HA := Lib.hid ha
        have i0 : (0 : Int) ≤ (k : Int) := by omega
        have i1 : (k : Int) < (l : Int) := by omega
        have b0o := fun (o : Obj) => cell_in ((Past.refl wr).alloc o) b0r
        have b1o := fun (o : Obj) => cell_in ((Past.refl wr).alloc o) b1r
        clear ha
        go_wp2_with fail
        clear b0o b1o
        refine (turnOk_any m A n c xs ⟨x0, x1, x2⟩ _ hn HX.out ((hx1.below hb).below ((Past.refl wr).alloc _))).mono ?_
        rintro e w2 ⟨rfl, hb2⟩
        have hb2 : Past wr w2 := ((Past.refl wr).alloc _).trans hb2
        have hb := hb.trans hb2
        clear hb2 c0 c1 c2 b0r b1r
        cases hT : turnB xs ⟨x0, x1, x2⟩ with
        | false =>
          have HF : Hid (turnsB m xs ts = false) := by rw [Hid, turnsB, all_turn_bad HA.out hT]; simp
          clear hT
          go_wp2
          go_ret
          exact ⟨ret_bool HF.out.symm, hp1.trans hb⟩
        | true =>
          have HT := Lib.hid (all_turn_next HK.out HA.out hT)
          clear hT
          go_wp2
          go_roundw
          case rel => exact ⟨k + 1, by omega, by go_num, hb, HT.out⟩
          case measure => simp [intOf]; omega
      · obtain rfl : l = k := by omega
        have hall : ts.all (turnB xs) = true := by
          have := HK.out
          rw [List.take_of_length_le (by have := HL.out; omega)] at this
          exact this
        have HALL := Lib.hid hall
        clear hall
        go_wp2_with fail
        refine (turnCosts_any B l cb ts _ hl HL.out (ht1.below hb) (fun t hm => turn_wf H16.out (List.all_eq_true.1 HALL.out t hm))).mono ?_
        rintro e w2 ⟨P, D, rfl, hown, hM, hb2⟩
        have hsz := hM.size
        have HF : Hid (turnsB m xs ts = decide (distT ts l = l)) := by
          rw [Hid, turnsB, HN.out, HALL.out, HL.out, decide_eq_true h12]
          simp only [Bool.true_and]
          rw [← distT_free ts l (by rw [HL.out]; exact Nat.le_refl _)]
        clear hM
        by_cases hD : distT ts l = l
        · have q1 : (((Maps.size D : Nat) : Int) == (l : Int)) = true := by rw [hsz, hD]; simp
          rw [decide_eq_true hD] at HF
          clear hsz hD
          go_wp2_with (first | (at_len; refine wpList_len_own _ rfl _ 100 rfl 106 3 Try.underlying100 _ P l D rfl hown ?_))
          go_ret
          exact ⟨ret_bool HF.out.symm, (hp1.trans hb).trans hb2⟩
        · have q1 : (((Maps.size D : Nat) : Int) == (l : Int)) = false := by rw [hsz]; simp; omega
          rw [decide_eq_false hD] at HF
          clear hsz hD
          go_wp2_with (first | (at_len; refine wpList_len_own _ rfl _ 100 rfl 106 3 Try.underlying100 _ P l D rfl hown ?_))
          go_ret
          exact ⟨ret_bool HF.out.symm, (hp1.trans hb).trans hb2⟩

end Go.Proofs.Ytaojognjkiifmaa
