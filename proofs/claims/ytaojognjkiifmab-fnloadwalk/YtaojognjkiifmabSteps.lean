/-
  How many arcs the best ways have at least, as the specification goes: spec.l3Steps. No condition.
-/
import Derived.Test.YtaojognjkiifmabNear
import Derived.Test.YtaojognjkiifmabPTree
import Derived.Test.YtaojognjkiifmabPWay
namespace Go.Proofs.Ytaojognjkiifmab
open Go.RowKit

theorem take_foldlS {xs : List ArcD} {d s : List Int} {k : Nat} {a : ArcD} (h : xs[k]? = some a) : (xs.take (k + 1)).foldl (relaxS d) s = relaxS d ((xs.take k).foldl (relaxS d) s) a := by
  rw [List.take_add_one, h]
  simp
theorem IntsAt.cell {w : World} {X : Option Addr} {d : List Int} {v : Int} (h : IntsAt w X d) (h0 : 0 ≤ v) (h1 : v < d.length) : ∃ g o, X = some ⟨g, o, none⟩ ∧ w.cell? ⟨g, o + v.toNat, none⟩ = some (.int .i64 (at_ d v)) := by
  have hl : v.toNat < d.length := by omega
  obtain ⟨g, o, e', hc⟩ := h v.toNat _ (List.getElem?_eq_getElem hl)
  exact ⟨g, o, e', by rw [hc]; simp [at_, hl]⟩

set_option maxRecDepth 100000 in
set_option maxHeartbeats 4000000 in
theorem l3Steps_any (m : Nat) (s : Int) (A : Option Addr) (n c : Nat) (xs : List ArcD) (w : World) (hm : m ≤ 8) (hm1 : 1 ≤ m) (hnx : xs.length = n) (hn : n ≤ 16) (hx : ArcsAt w A xs) (hin : ArcsIn m xs) (hs : 0 ≤ s ∧ s < m) :
    Calls Try.prog 99 #[.agg #[.int .i64 (m : Int), .slice A n c], .int .i64 s] w (Gives w (stepsL m xs (nearL m (xs.map flip) s) s)) := by
  have HX := Lib.hid hnx
  have HIN := Lib.hid hin
  clear hnx hin
  obtain ⟨hs0, hs1⟩ := hs
  have hmk := makeInt m (by omega)
  have hb0 : Past w (w.alloc (.cells #[.int .i64 (m : Int), .slice A n c] 25)) := (Past.refl _).alloc _
  go_enter Try.func99, Try.ntmps99
  go_wp2_with fail
  refine (l1Back_any (m : Int) A n c xs _ hn HX.out (hx.below hb0)).mono ?_
  rintro e w1 ⟨A1, c1, rfl, hx1, _, hb1⟩
  obtain ⟨N1, hN1⟩ : ∃ N1, (xs.map flip).length = N1 := ⟨_, rfl⟩
  have hN2 : N1 ≤ 1048576 := by rw [← hN1, List.length_map, HX.out]; omega
  rw [hN1]
  have HN1 := Lib.hid hN1
  clear hN1
  go_wp2_with fail
  refine (l3All_any m s A1 N1 c1 (xs.map flip) _ hm HN1.out hN2 hx1 (arcsIn_flip HIN.out) ⟨hs0, hs1⟩).mono ?_
  rintro e W ⟨v2, rfl, hv2, hb2⟩
  have b0 := cell_in hb2 (cell_in (p := ⟨w.heap.size, 0, none⟩) (v := .int .i64 (m : Int)) hb1 (by go_simp))
  have b1 := cell_in hb2 (cell_in (p := ⟨w.heap.size, 1, none⟩) (v := .slice A n c) hb1 (by go_simp))
  have hpW : Past w W := (hb0.trans hb1).trans hb2
  have hxW := hx.below hpW
  obtain ⟨X, cX, rfl, hdW, _⟩ := hv2.form
  obtain ⟨ds, hds⟩ : ∃ ds, ds = nearL m (xs.map flip) s := ⟨_, rfl⟩
  have hdl : ds.length = m := by rw [hds, nearL_length]
  rw [← hds] at hdW ⊢
  rw [hdl]
  obtain ⟨gX, oX, rfl, _⟩ := hdW.cell (v := s) hs0 (by omega)
  have hdc : ∀ v : Int, 0 ≤ v → v < m → W.cell? ⟨gX, oX + v.toNat, none⟩ = some (.int .i64 (at_ ds v)) := fun v h0 h1 => by
    obtain ⟨g, o, e, h⟩ := hdW.cell (v := v) h0 (by omega)
    injection e with e
    injection e with e1 e2
    subst e1 e2
    exact h
  have hdb : ∀ v : Int, 0 ≤ v → v < m → 0 ≤ at_ ds v ∧ at_ ds v ≤ 99999 := fun v h0 h1 => by rw [hds]; exact nearL_bound (arcsIn_flip HIN.out) ⟨hs0, hs1⟩ ⟨h0, h1⟩
  have HDS := Lib.hid hds
  have HDC := Lib.hid hdc
  have HDB := Lib.hid hdb
  clear hds hdc hdb hv2 hdW hb2 hb1 hx1 hb0 hdl
  go_wp2
  go_loopw [7] (fun i wr => ∃ k : Nat, k ≤ m ∧ i = .int .i64 k ∧ Past W wr ∧ MadeI wr W.heap.size 3 m (List.replicate m farI) k) (fun i _ => m - (intOf i).toNat)
  case atStart => exact ⟨0, by omega, rfl, (Past.refl _).alloc _, MadeI.start W 3 m (List.replicate m farI) (madeCells #[.int .i64 0] m) (by simp [size_madeCells])⟩
  case round =>
    obtain ⟨k, hk, rfl, hb, hmd⟩ := hrel
    have b0' := cell_in hb b0
    by_cases hlt : k < m
    · have HF : Hid ((List.replicate m farI)[k]? = some farI) := by rw [Hid, List.getElem?_replicate, if_pos hlt]
      obtain ⟨v0, e0⟩ := hmd.1.cell (i := k) hlt
      have z0 := hmd.1.frozen k
      go_wp2
      go_roundw
      case rel => exact ⟨k + 1, by omega, by go_num, Below.setCell hb (by simp) _, hmd.next HF.out hlt⟩
      case measure => simp [intOf]; omega
    · obtain rfl : m = k := by omega
      have hrow : RowI wr W.heap.size (List.replicate m farI) := hmd.row (by simp)
      have hst := hrow.set s.toNat 0 (by simp; omega)
      have HST : Hid (RowI (wr.setCell ⟨W.heap.size, s.toNat, none⟩ (.int .i64 0)) W.heap.size (roundsS xs ds (start m s) 0)) := hst
      obtain ⟨v0, e0⟩ := hmd.1.cell (i := s.toNat) (by omega)
      have z0 := hmd.1.frozen s.toNat
      have hbs : Past W (wr.setCell ⟨W.heap.size, s.toNat, none⟩ (.int .i64 0)) := Below.setCell hb (by simp) _
      clear hst hrow hmd
      go_wp2
      go_loopw [8] (fun i wq => ∃ r : Nat, r ≤ m ∧ i = .int .i64 r ∧ Past W wq ∧ RowI wq W.heap.size (roundsS xs ds (start m s) r)) (fun i _ => m - (intOf i).toNat)
      case atStart => exact ⟨0, by omega, rfl, hbs, HST.out⟩
      case round =>
        obtain ⟨r, hr, rfl, hbq, hrow⟩ := hrel
        have b0q := cell_in hbq b0
        by_cases hlt : r < m
        · go_wp2
          clear hbs HST
          go_loopw [9] (fun i wz => ∃ k : Nat, k ≤ n ∧ i = .int .i64 k ∧ Past W wz ∧ RowI wz W.heap.size ((xs.take k).foldl (relaxS ds) (roundsS xs ds (start m s) r))) (fun i _ => n - (intOf i).toNat)
          case atStart => exact ⟨0, by omega, rfl, hbq, hrow⟩
          case round =>
            obtain ⟨k, hk, rfl, hbz, hrz⟩ := hrel
            have b1z := cell_in hbz b1
            have hxz := hxW.below hbz
            by_cases hkn : k < n
            · obtain ⟨⟨f, t, c', l, e⟩, ha⟩ : ∃ a, xs[k]? = some a := ⟨_, List.getElem?_eq_getElem (by have := HX.out; omega)⟩
              obtain ⟨g, o, rfl, c0, c1, c2, c3, c4⟩ := hxz k _ ha
              have hbd := HIN.out _ (List.mem_of_getElem? ha)
              simp only at hbd
              obtain ⟨D, hD⟩ : ∃ D, D = (xs.take k).foldl (relaxS ds) (roundsS xs ds (start m s) r) := ⟨_, rfl⟩
              have hSo : SoundS m xs ds s D := by rw [hD]; exact SoundS.foldl HIN.out _ _ (fun a h => List.mem_of_mem_take h) ((SoundS.start m xs ds s ⟨hs0, hs1⟩).rounds HIN.out r)
              have hnext := take_foldlS (d := ds) (s := roundsS xs ds (start m s) r) ha
              rw [← hD] at hrz hnext
              have hDl : (D.length : Int) = m := hSo.1
              have va := hSo.2 t (by omega) (by omega)
              have pa : 0 ≤ at_ D t := va.1
              have qa : at_ D t ≤ 99999 := va.2.1
              obtain ⟨W1, hW1⟩ : ∃ W1, W1 = wr.alloc (.cells #[.int .i64 f, .int .i64 t, .int .i64 c', .int .i64 l, .int .i64 e] 34) := ⟨_, rfl⟩
              have e0 : W1.cell? ⟨wr.heap.size, 0, none⟩ = some (.int .i64 f) := by rw [hW1]; go_simp
              have e1 : W1.cell? ⟨wr.heap.size, 1, none⟩ = some (.int .i64 t) := by rw [hW1]; go_simp
              have e2 : W1.cell? ⟨wr.heap.size, 2, none⟩ = some (.int .i64 c') := by rw [hW1]; go_simp
              have hbW1 : Past wr W1 := by rw [hW1]; exact (Past.refl _).alloc _
              have hrow1 := hrz.below hbW1
              have sf := hrow1.at_ (v := f) (by omega) (by omega)
              have st := hrow1.at_ (v := t) (by omega) (by omega)
              have hb1 := hbz.trans hbW1
              have df := cell_in hb1 (HDC.out f (by omega) (by omega))
              have dt := cell_in hb1 (HDC.out t (by omega) (by omega))
              have pb := HDB.out t (by omega) (by omega)
              have z1 := hrow1.1.frozen f.toNat
              have j0 : (0 : Int) ≤ f := by omega
              have j1 : f < (m : Int) := by omega
              have j2 : (0 : Int) ≤ t := by omega
              have j3 : t < (m : Int) := by omega
              obtain ⟨p, hp⟩ : ∃ p, p = at_ ds t := ⟨_, rfl⟩
              obtain ⟨q, hq⟩ : ∃ q, q = at_ ds f := ⟨_, rfl⟩
              obtain ⟨a, hA⟩ : ∃ a, a = at_ D t := ⟨_, rfl⟩
              obtain ⟨b, hB⟩ : ∃ b, b = at_ D f := ⟨_, rfl⟩
              rw [← hp] at dt pb
              rw [← hq] at df
              rw [← hA] at st pa qa
              rw [← hB] at sf
              have hrel : relaxS ds D ⟨f, t, c', l, e⟩ = if (p < 99999 ∧ q = c' + p) ∧ a + 1 < b then D.set f.toNat (a + 1) else D := by
                unfold relaxS
                simp only [tightB_iff, ← hp, ← hq, ← hA, ← hB]
                rfl
              have htl : f.toNat < D.length := by omega
              have HN := Lib.hid (hnext.trans hrel)
              have HW1 := Lib.hid hW1
              have hc0 : 0 ≤ c' ∧ c' ≤ 700 := by omega
              obtain ⟨hc0, hc1⟩ := hc0
              have s1 : IntKind.i64.wrap (c' + p) = c' + p := IntWalk.i64_in _ (by omega)
              have s2 : IntKind.i64.wrap (a + 1) = a + 1 := IntWalk.i64_in _ (by omega)
              clear hW1 ha hbd hD hSo hnext hrel va hp hq hA hB hDl hrow hbW1 hrz
              by_cases h1 : p < 99999
              · have g1 : decide (p < 99999) = true := by simpa using h1
                by_cases h2 : q = c' + p
                · have g2 : (q == c' + p) = true := by simpa using h2
                  by_cases h3 : a + 1 < b
                  · have g3 : decide (a + 1 < b) = true := by simpa using h3
                    have HE := Lib.hid (HN.out.trans (if_pos ⟨⟨h1, h2⟩, h3⟩))
                    clear HN h2
                    go_wp2_with fail
                    rw [← HW1.out]
                    go_quiet (fail)
                    clear g1 g2 g3
                    obtain ⟨W2, hW2⟩ : ∃ W2, W2 = W1.drewN nq := ⟨_, rfl⟩
                    have e0 : W2.cell? ⟨wr.heap.size, 0, none⟩ = some (.int .i64 f) := by rw [hW2]; exact e0
                    have e1 : W2.cell? ⟨wr.heap.size, 1, none⟩ = some (.int .i64 t) := by rw [hW2]; exact e1
                    have sf : W2.cell? ⟨W.heap.size, f.toNat, none⟩ = some (.int .i64 b) := by rw [hW2]; exact sf
                    have st : W2.cell? ⟨W.heap.size, t.toNat, none⟩ = some (.int .i64 a) := by rw [hW2]; exact st
                    have z1 : W2.frozen? ⟨W.heap.size, f.toNat, none⟩ = false := by rw [hW2]; exact z1
                    have hrow2 : RowI W2.drew W.heap.size D := by rw [hW2]; exact hrow1
                    have hb2 : Past W W2.drew := by rw [hW2]; exact (hb1.drewN nq).drew
                    have hset2 := hrow2.set f.toNat (a + 1) htl
                    have HSET2 := Lib.hid hset2
                    have HB2 := Lib.hid (show Past W (W2.drew.setCell ⟨W.heap.size, f.toNat, none⟩ (.int .i64 (a + 1))) from Below.setCell hb2 (by simp) _)
                    go_wp2_with fail
                    rw [← hW2]
                    clear hW2 hset2 hrow2 hb2 hrow1 hb1
                    go_still_tail 10, (by kernel_rfl)
                    change wpList _ _ _ _ _ W2.drew
                    clear s1 s2
                    go_wp2
                    go_roundw
                    case rel => exact ⟨k + 1, by omega, by go_num, HB2.out, by rw [HE.out]; exact HSET2.out⟩
                    case measure => simp [intOf]; omega
                  · have g3 : decide (a + 1 < b) = false := by simpa using h3
                    have HE := Lib.hid (HN.out.trans (if_neg (fun h => h3 h.2)))
                    clear HN h2
                    go_wp2_with fail
                    rw [← HW1.out]
                    go_quiet (fail)
                    clear g1 g2 g3 s1 s2
                    go_wp2
                    go_roundw
                    case rel => exact ⟨k + 1, by omega, by go_num, hb1.drewN _, by rw [HE.out]; exact hrow1.drewN _⟩
                    case measure => simp [intOf]; omega
                · have g2 : (q == c' + p) = false := by simpa using h2
                  have HE := Lib.hid (HN.out.trans (if_neg (fun h => h2 h.1.2)))
                  clear HN h2
                  go_wp2_with fail
                  rw [← HW1.out]
                  go_quiet (fail)
                  clear g1 g2 s1 s2
                  go_wp2
                  go_roundw
                  case rel => exact ⟨k + 1, by omega, by go_num, hb1.drewN _, by rw [HE.out]; exact hrow1.drewN _⟩
                  case measure => simp [intOf]; omega
              · have g1 : decide (p < 99999) = false := by simpa using h1
                have HE := Lib.hid (HN.out.trans (if_neg (fun h => h1 h.1.1)))
                clear HN
                go_wp2_with fail
                rw [← HW1.out]
                go_quiet (fail)
                clear g1 s1 s2
                go_wp2
                go_roundw
                case rel => exact ⟨k + 1, by omega, by go_num, hb1.drewN _, by rw [HE.out]; exact hrow1.drewN _⟩
                case measure => simp [intOf]; omega
            · obtain rfl : n = k := by omega
              have hfull : xs.take n = xs := List.take_of_length_le (by rw [HX.out]; exact Nat.le_refl _)
              rw [hfull] at hrz
              clear hfull
              go_wp2
              go_roundw
              case rel => exact ⟨r + 1, by omega, by go_num, hbz, hrz⟩
              case measure => simp [intOf]; omega
        · obtain rfl : m = r := by omega
          clear hbs HST
          go_wp2
          go_ret
          refine ⟨_, rfl, ?_, hpW.trans hbq⟩
          rw [← HDS.out]
          exact hrow.res (stepsL_length m xs ds s) (by have := hpW.size; omega) (by omega)

end Go.Proofs.Ytaojognjkiifmab
