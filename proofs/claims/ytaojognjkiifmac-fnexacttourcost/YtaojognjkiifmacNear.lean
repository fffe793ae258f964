/-
  What it costs at least from a node to each, as the specification goes: spec.l3All, spec.NearAll.
-/
import Derived.Test.YtaojognjkiifmacPNear
import Derived.Test.YtaojognjkiifmacResI
import Derived.Test.YtaojognjkiifmacTo
namespace Go.Proofs.Ytaojognjkiifmac
open Go.RowKit

/-- Block G is a row that holds just these numbers. -/
def RowI (w : World) (G : Nat) (d : List Int) : Prop := RowN w G 3 d.length ∧ IntsAt w (some ⟨G, 0, none⟩) d
theorem RowI.set {w : World} {G : Nat} {d : List Int} (h : RowI w G d) (i : Nat) (x : Int) (hi : i < d.length) : RowI (w.setCell ⟨G, i, none⟩ (.int .i64 x)) G (d.set i x) := by
  refine ⟨by rw [List.length_set]; exact h.1.set _ _, fun k y hk => ⟨G, 0, rfl, ?_⟩⟩
  rw [Nat.zero_add]
  rw [List.getElem?_set] at hk
  by_cases e : i = k
  · subst e
    simp [hi] at hk
    subst hk
    obtain ⟨v, hv⟩ := h.1.cell hi
    exact World.cell?_setCell_same w ⟨G, i, none⟩ _ hv
  · rw [if_neg e] at hk
    obtain ⟨g, o, e', hc⟩ := h.2 k y hk
    injection e' with e'
    injection e' with e1 e2
    subst e1 e2
    rw [Nat.zero_add] at hc
    exact (World.cell?_setCell_other w ⟨G, i, none⟩ ⟨G, k, none⟩ _ (by intro e; injection e; omega)).trans hc
theorem RowI.keep {w w' : World} {G : Nat} {d : List Int} (h : RowI w G d) (e : w'.heap[G]? = w.heap[G]?) : RowI w' G d :=
  ⟨h.1.keep e, fun k y hk => by
    obtain ⟨g, o, e', hc⟩ := h.2 k y hk
    injection e' with e'
    injection e' with e1 e2
    subst e1 e2
    exact ⟨G, 0, rfl, (World.cell?_of_block (w := w) (a := ⟨G, 0 + k, none⟩) e).trans hc⟩⟩
theorem RowI.below {w w' : World} {G : Nat} {d : List Int} (h : RowI w G d) (hb : Below w.heap.size w w') : RowI w' G d := h.keep (hb.block G h.1.lt)
theorem RowI.alloc {w : World} {G : Nat} {d : List Int} (h : RowI w G d) (o : Obj) : RowI (w.alloc o) G d := h.below ((Past.refl w).alloc o)
theorem RowI.drewN {w : World} {G : Nat} {d : List Int} (h : RowI w G d) (n : Nat) : RowI (w.drewN n) G d := h
theorem RowI.at_ {w : World} {G : Nat} {d : List Int} (h : RowI w G d) {v : Int} (h0 : 0 ≤ v) (h1 : v < d.length) : w.cell? ⟨G, v.toNat, none⟩ = some (.int .i64 (Go.Proofs.Ytaojognjkiifmac.at_ d v)) := by
  have hl : v.toNat < d.length := by omega
  obtain ⟨g, o, e', hc⟩ := h.2 v.toNat _ (List.getElem?_eq_getElem hl)
  injection e' with e'
  injection e' with e1 e2
  subst e1 e2
  rw [Nat.zero_add] at hc
  rw [hc]
  simp [Go.Proofs.Ytaojognjkiifmac.at_, hl]
theorem RowI.res {w : World} {G lo n : Nat} {d : List Int} (h : RowI w G d) (hl : d.length = n) (hlo : lo ≤ G) (hn : n ≤ 1048576) : Res w lo (.slice (some ⟨G, 0, none⟩) n n) d := by
  obtain ⟨⟨cs, hb, hs⟩, hi⟩ := h
  subst hl
  refine ⟨by simp [ints], .inr ⟨G, d.length, cs, rfl, hlo, hb, Nat.le_refl _, by unfold maxLen; omega, by omega, ?_⟩⟩
  apply List.ext_getElem?
  intro j
  by_cases hj : j < d.length
  · rw [List.getElem?_take_of_lt (by omega), Array.getElem?_toList]
    obtain ⟨g, o, e', hc⟩ := hi j _ (List.getElem?_eq_getElem hj)
    injection e' with e'
    injection e' with e1 e2
    subst e1 e2
    rw [Nat.zero_add, cell_of_row w G j cs _ _ hb] at hc
    rw [hc]
    simp [ints, hj]
  · rw [List.getElem?_eq_none (by simp; omega), List.getElem?_eq_none (by simp [ints]; omega)]
theorem MadeI.row {w : World} {g n : Nat} {xs : List Int} (h : MadeI w g 3 n xs n) (hl : xs.length = n) : RowI w g xs := ⟨by rw [hl]; exact h.1, h.ints hl⟩

theorem makeIntZ (n : Nat) (hn : n ≤ 1048576) (u : World) (z : Int) (hz : z = (n : Int)) : (Instr.makeSlice 25 (.int .i64 z) (.int .i64 z)).run Try.prog u =
    .ok (.slice (some ⟨u.heap.size, 0, none⟩) n n) (u.alloc (.cells (madeCells #[.int .i64 0] n) 3)) := by subst hz; exact makeInt n hn u

theorem take_foldl {xs : List ArcD} {d : List Int} {k : Nat} {a : ArcD} (h : xs[k]? = some a) : (xs.take (k + 1)).foldl relax d = relax ((xs.take k).foldl relax d) a := by
  rw [List.take_add_one, h]
  simp

set_option maxRecDepth 100000 in
set_option maxHeartbeats 4000000 in
theorem l3All_any (m : Nat) (s : Int) (A : Option Addr) (n c : Nat) (xs : List ArcD) (w : World) (hm : m ≤ 8) (hnx : xs.length = n) (hn : n ≤ 1048576) (hx : ArcsAt w A xs) (hin : ArcsIn m xs) (hs : 0 ≤ s ∧ s < m) :
    Calls Try.prog 57 #[.agg #[.int .i64 (m : Int), .slice A n c], .int .i64 s] w (Gives w (nearL m xs s)) := by
  have HX := Lib.hid hnx
  have HIN := Lib.hid hin
  clear hnx hin
  obtain ⟨hs0, hs1⟩ := hs
  have hmk := makeInt m (by omega)
  have hb0 : Past w (w.alloc (.cells #[.int .i64 (m : Int), .slice A n c] 30)) := (Past.refl _).alloc _
  obtain ⟨W, hW⟩ : ∃ W, W = w.alloc (.cells #[.int .i64 (m : Int), .slice A n c] 30) := ⟨_, rfl⟩
  have hWs : W.heap.size = w.heap.size + 1 := by rw [hW]; simp
  have b0 : W.cell? ⟨w.heap.size, 0, none⟩ = some (.int .i64 (m : Int)) := by rw [hW]; go_simp
  have b1 : W.cell? ⟨w.heap.size, 1, none⟩ = some (.slice A n c) := by rw [hW]; go_simp
  rw [← hW] at hb0
  have hxW := hx.below hb0
  have HW := Lib.hid hW
  have HWS := Lib.hid hWs
  go_enter Try.func57, Try.ntmps57
  clear hW hWs
  go_wp2
  go_loopw [6] (fun i wr => ∃ k : Nat, k ≤ m ∧ i = .int .i64 k ∧ Past W wr ∧ MadeI wr (w.heap.size + 1) 3 m (List.replicate m farI) k) (fun i _ => m - (intOf i).toNat)
  case atStart => exact ⟨0, by omega, rfl, by rw [HW.out]; exact (Past.refl _).alloc _, by have := MadeI.start (w.alloc (.cells #[.int .i64 (m : Int), .slice A n c] 30)) 3 m (List.replicate m farI) (madeCells #[.int .i64 0] m) (by simp [size_madeCells]); simpa using this⟩
  case round =>
    obtain ⟨k, hk, rfl, hb, hmd⟩ := hrel
    have b0' := cell_in hb b0
    by_cases hlt : k < m
    · have HF : Hid ((List.replicate m farI)[k]? = some farI) := by rw [Hid, List.getElem?_replicate, if_pos hlt]
      obtain ⟨v0, e0⟩ := hmd.1.cell (i := k) hlt
      have z0 := hmd.1.frozen k
      go_wp2
      go_roundw
      case rel => exact ⟨k + 1, by omega, by go_num, Below.setCell hb (by rw [HWS.out]; simp) _, hmd.next HF.out hlt⟩
      case measure => simp [intOf]; omega
    · obtain rfl : m = k := by omega
      have hrow : RowI wr (w.heap.size + 1) (List.replicate m farI) := hmd.row (by simp)
      have hst := hrow.set s.toNat 0 (by simp; omega)
      have HST : Hid (RowI (wr.setCell ⟨w.heap.size + 1, s.toNat, none⟩ (.int .i64 0)) (w.heap.size + 1) (roundsTo xs (start m s) 0)) := hst
      obtain ⟨v0, e0⟩ := hmd.1.cell (i := s.toNat) (by omega)
      have z0 := hmd.1.frozen s.toNat
      have hbs : Past W (wr.setCell ⟨w.heap.size + 1, s.toNat, none⟩ (.int .i64 0)) := Below.setCell hb (by rw [HWS.out]; simp) _
      clear hst hrow hmd
      go_wp2
      go_loopw [7] (fun i wq => ∃ r : Nat, r ≤ m ∧ i = .int .i64 r ∧ Past W wq ∧ RowI wq (w.heap.size + 1) (roundsTo xs (start m s) r)) (fun i _ => m - (intOf i).toNat)
      case atStart => exact ⟨0, by omega, rfl, hbs, HST.out⟩
      case round =>
        obtain ⟨r, hr, rfl, hbq, hrow⟩ := hrel
        obtain ⟨wo, hwo⟩ : ∃ wo, wo = wr := ⟨_, rfl⟩
        have b0q := cell_in hbq b0
        by_cases hlt : r < m
        · go_wp2
          clear hbs HST
          go_loopw [8] (fun i wz => ∃ k : Nat, k ≤ n ∧ i = .int .i64 k ∧ Past W wz ∧ RowI wz (w.heap.size + 1) ((xs.take k).foldl relax (roundsTo xs (start m s) r))) (fun i _ => n - (intOf i).toNat)
          case atStart => exact ⟨0, by omega, rfl, hbq, hrow⟩
          case round =>
            obtain ⟨k, hk, rfl, hbz, hrz⟩ := hrel
            have b1z := cell_in hbz b1
            have hxz := hxW.below hbz
            by_cases hkn : k < n
            · obtain ⟨⟨f, t, c', l, e⟩, ha⟩ : ∃ a, xs[k]? = some a := ⟨_, List.getElem?_eq_getElem (by have := HX.out; omega)⟩
              obtain ⟨g, o, rfl, c0, c1, c2, c3, c4⟩ := hxz k _ ha
              have hbd := HIN.out _ (List.mem_of_getElem? ha)
              simp only at hbd
              obtain ⟨D, hD⟩ : ∃ D, D = (xs.take k).foldl relax (roundsTo xs (start m s) r) := ⟨_, rfl⟩
              have hSo : Sound m xs s D := by rw [hD]; exact Sound.foldl HIN.out _ _ (fun a h => List.mem_of_mem_take h) ((Sound.start m xs s ⟨hs0, hs1⟩).rounds HIN.out r)
              have hnext := take_foldl (d := roundsTo xs (start m s) r) ha
              rw [← hD] at hrz hnext
              have hDl : (D.length : Int) = m := hSo.1
              have vf := hSo.2 f (by omega) (by omega)
              have vt := hSo.2 t (by omega) (by omega)
              have pf : 0 ≤ at_ D f := by
                rcases vf.2 with h | ⟨l', h⟩
                · rw [h]; unfold farI; omega
                · exact (h.cost HIN.out).1
              have qf : at_ D f ≤ 99999 := vf.1
              obtain ⟨W1, hW1⟩ : ∃ W1, W1 = wr.alloc (.cells #[.int .i64 f, .int .i64 t, .int .i64 c', .int .i64 l, .int .i64 e] 88) := ⟨_, rfl⟩
              have e0 : W1.cell? ⟨wr.heap.size, 0, none⟩ = some (.int .i64 f) := by rw [hW1]; go_simp
              have e1 : W1.cell? ⟨wr.heap.size, 1, none⟩ = some (.int .i64 t) := by rw [hW1]; go_simp
              have e2 : W1.cell? ⟨wr.heap.size, 2, none⟩ = some (.int .i64 c') := by rw [hW1]; go_simp
              have hbW1 : Past wr W1 := by rw [hW1]; exact (Past.refl _).alloc _
              have hrow1 := hrz.below hbW1
              have df := hrow1.at_ (v := f) (by omega) (by omega)
              have dt := hrow1.at_ (v := t) (by omega) (by omega)
              have hb1 := hbz.trans hbW1
              have z1 := hrow1.1.frozen t.toNat
              have j0 : (0 : Int) ≤ f := by omega
              have j1 : f < (m : Int) := by omega
              have j2 : (0 : Int) ≤ t := by omega
              have j3 : t < (m : Int) := by omega
              obtain ⟨p, hp⟩ : ∃ p, p = at_ D f := ⟨_, rfl⟩
              obtain ⟨q, hq⟩ : ∃ q, q = at_ D t := ⟨_, rfl⟩
              rw [← hp] at df pf qf
              rw [← hq] at dt
              have hrel : relax D ⟨f, t, c', l, e⟩ = if p < 99999 ∧ p + c' < q then D.set t.toNat (p + c') else D := by
                unfold relax
                simp only [← hp, ← hq]
                rfl
              have htl : t.toNat < D.length := by omega
              have HN := Lib.hid (hnext.trans hrel)
              have HW1 := Lib.hid hW1
              have hc0 : 0 ≤ c' ∧ c' ≤ 700 := by omega
              obtain ⟨hc0, hc1⟩ := hc0
              have s1 : IntKind.i64.wrap (p + c') = p + c' := IntWalk.i64_in _ (by omega)
              clear hW1 ha hbd hD hSo hnext hrel vf vt hp hq hDl hrow hbW1 hrz
              by_cases h1 : p < 99999
              · have g1 : decide (p < 99999) = true := by simpa using h1
                by_cases h2 : p + c' < q
                · have g2 : decide (p + c' < q) = true := by simpa using h2
                  have HE := Lib.hid (HN.out.trans (if_pos ⟨h1, h2⟩))
                  clear HN
                  go_wp2_with fail
                  rw [← HW1.out]
                  go_quiet (fail)
                  clear g1 g2
                  obtain ⟨W2, hW2⟩ : ∃ W2, W2 = W1.drewN nq := ⟨_, rfl⟩
                  have e0 : W2.cell? ⟨wr.heap.size, 0, none⟩ = some (.int .i64 f) := by rw [hW2]; exact e0
                  have e1 : W2.cell? ⟨wr.heap.size, 1, none⟩ = some (.int .i64 t) := by rw [hW2]; exact e1
                  have e2 : W2.cell? ⟨wr.heap.size, 2, none⟩ = some (.int .i64 c') := by rw [hW2]; exact e2
                  have df : W2.cell? ⟨w.heap.size + 1, f.toNat, none⟩ = some (.int .i64 p) := by rw [hW2]; exact df
                  have dt : W2.cell? ⟨w.heap.size + 1, t.toNat, none⟩ = some (.int .i64 q) := by rw [hW2]; exact dt
                  have z1 : W2.frozen? ⟨w.heap.size + 1, t.toNat, none⟩ = false := by rw [hW2]; exact z1
                  have hrow2 : RowI W2.drew (w.heap.size + 1) D := by rw [hW2]; exact hrow1
                  have hb2 : Past W W2.drew := by rw [hW2]; exact (hb1.drewN nq).drew
                  have hset2 := hrow2.set t.toNat (p + c') htl
                  have HSET2 := Lib.hid hset2
                  have HB2 := Lib.hid (show Past W (W2.drew.setCell ⟨w.heap.size + 1, t.toNat, none⟩ (.int .i64 (p + c'))) from Below.setCell hb2 (by rw [HWS.out]; simp) _)
                  go_wp2_with fail
                  rw [← hW2]
                  clear hW2 hset2 hrow2 hb2 hrow1 hb1
                  go_still_tail 12, (by kernel_rfl)
                  change wpList _ _ _ _ _ W2.drew
                  clear s1
                  go_wp2
                  go_roundw
                  case rel => exact ⟨k + 1, by omega, by go_num, HB2.out, by rw [HE.out]; exact HSET2.out⟩
                  case measure => simp [intOf]; omega
                · have g2 : decide (p + c' < q) = false := by simpa using h2
                  have HE := Lib.hid (HN.out.trans (if_neg (fun h => h2 h.2)))
                  clear HN
                  go_wp2_with fail
                  rw [← HW1.out]
                  go_quiet (fail)
                  clear g1 g2 s1
                  go_wp2
                  go_roundw
                  case rel => exact ⟨k + 1, by omega, by go_num, hb1.drewN _, by rw [HE.out]; exact hrow1.drewN _⟩
                  case measure => simp [intOf]; omega
              · have g1 : decide (p < 99999) = false := by simpa using h1
                have HE := Lib.hid (HN.out.trans (if_neg (fun h => h1 h.1)))
                clear HN
                go_wp2_with fail
                rw [← HW1.out]
                go_quiet (fail)
                clear g1 s1
                go_wp2
                go_roundw
                case rel => exact ⟨k + 1, by omega, by go_num, hb1.drewN _, by rw [HE.out]; exact hrow1.drewN _⟩
                case measure => simp [intOf]; omega
            · obtain rfl : n = k := by omega
              have hfull : xs.take n = xs := List.take_of_length_le (by rw [HX.out]; exact Nat.le_refl _)
              rw [hfull] at hrz
              clear hfull
              go_wp2
              go_roundw
              case rel => exact ⟨r + 1, by omega, by go_num, hbz, hrz⟩
              case measure => simp [intOf]; omega
        · obtain rfl : m = r := by omega
          clear hbs HST
          go_wp2
          go_ret
          exact ⟨_, rfl, hrow.res (nearL_length m xs s) (by omega) (by omega), hb0.trans hbq⟩

/-- A net and a node that are there. -/
def hereB (m : Int) (xs : List ArcD) (s : Int) : Bool := netB m xs && inB s 0 (m - 1)
def nearI (m : Int) (xs : List ArcD) (s : Int) : List Int := if hereB m xs s then nearL m.toNat xs s else []
theorem hereB_iff (m : Int) (xs : List ArcD) (s : Int) : hereB m xs s = true ↔ netB m xs = true ∧ 0 ≤ s ∧ s < m := by
  simp only [hereB, Bool.and_eq_true, inB_iff]
  exact ⟨fun ⟨h1, h2, h3⟩ => ⟨h1, h2, by omega⟩, fun ⟨h1, h2, h3⟩ => ⟨h1, h2, by omega⟩⟩
theorem here_nat {m : Int} {xs : List ArcD} (h : netB m xs = true) : ∃ M : Nat, m = M ∧ 1 ≤ M ∧ M ≤ 8 := by
  have := (netB_iff _ _).1 h
  exact ⟨m.toNat, by omega, by omega, by omega⟩
theorem nearI_len (m : Int) (xs : List ArcD) (s : Int) : (nearI m xs s).length ≤ 1048576 := by
  unfold nearI
  split
  · rename_i h
    rw [nearL_length]
    obtain ⟨M, e, _, h8⟩ := here_nat ((hereB_iff _ _ _).1 h).1
    subst e
    simp
    omega
  · simp

set_option maxHeartbeats 1000000 in
theorem specNearAll_any (m : Int) (A : Option Addr) (n c : Nat) (xs : List ArcD) (s : Int) (w : World) (hn : n ≤ 1048576) (hnx : xs.length = n) (hx : ArcsAt w A xs) :
    Calls Try.prog 43 #[.agg #[.int .i64 m, .slice A n c], .int .i64 s] w (Gives w (nearI m xs s)) := by
  have HX := Lib.hid hnx
  clear hnx
  have hb0 : Past w (w.alloc (.cells #[.int .i64 m, .slice A n c] 30)) := (Past.refl _).alloc _
  go_enter Try.func43, Try.ntmps43
  go_wp2_with fail
  refine (l1Ok_any m A n c xs _ hn HX.out (hx.below hb0)).mono ?_
  rintro e w1 ⟨rfl, hb1⟩
  have b0 := cell_in (p := ⟨w.heap.size, 0, none⟩) (v := .int .i64 m) hb1 (by go_simp)
  have b1 := cell_in (p := ⟨w.heap.size, 1, none⟩) (v := .slice A n c) hb1 (by go_simp)
  have hx1 := (hx.below hb0).below hb1
  have hp1 := hb0.trans hb1
  cases hB : netB m xs with
  | false =>
    have HB := Lib.hid hB
    clear hB
    go_wp2
    go_ret
    exact ⟨_, rfl, by rw [nearI, hereB, HB.out]; exact Res.nil _ _, hp1⟩
  | true =>
    obtain ⟨M, rfl, h1, h8⟩ := here_nat hB
    have HB := Lib.hid hB
    clear hB
    go_wp2_with fail
    refine (l1In_any _ _ _ _).mono ?_
    rintro e w2 ⟨rfl, rfl⟩
    cases hI : inB s 0 ((M : Int) - 1) with
    | false =>
      have HI := Lib.hid hI
      clear hI
      go_wp2
      go_ret
      exact ⟨_, rfl, by rw [nearI, hereB, HB.out, HI.out]; exact Res.nil _ _, hp1⟩
    | true =>
      have hs := (inB_iff _ _ _).1 hI
      have HI := Lib.hid hI
      clear hI
      go_wp2_with fail
      refine (l3All_any M s A n c xs _ h8 HX.out hn hx1 (arcsIn_net HB.out) (by omega)).mono ?_
      rintro e w3 ⟨v3, rfl, hv3, hb3⟩
      go_wp2
      go_ret
      exact ⟨_, rfl, by rw [nearI, hereB, HB.out, HI.out]; exact hv3.lower hp1.size, hp1.trans hb3⟩

end Go.Proofs.Ytaojognjkiifmac
