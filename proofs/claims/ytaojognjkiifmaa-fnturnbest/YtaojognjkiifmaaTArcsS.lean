/-
  What it costs at least to end with each arc, as the specification goes: spec.l4Arcs. No condition.
-/
import Derived.Test.YtaojognjkiifmaaNear
import Derived.Test.YtaojognjkiifmaaPTAll
import Derived.Test.YtaojognjkiifmaaTWalkS
namespace Go.Proofs.Ytaojognjkiifmaa
open Go.RowKit

theorem startA_at {xs : List ArcD} {s : Int} {k : Nat} {a : ArcD} (ha : xs[k]? = some a) : (startA xs s)[k]? = some (if a.f = s then a.c else farI) := by
  simp [startA, ha]

/-- All lies between 0 and far. -/
def InR (d : List Int) : Prop := ∀ x ∈ d, 0 ≤ x ∧ x ≤ farI
theorem InR.at_ {d : List Int} (h : InR d) (v : Int) : 0 ≤ Go.Proofs.Ytaojognjkiifmaa.at_ d v ∧ Go.Proofs.Ytaojognjkiifmaa.at_ d v ≤ farI := by
  unfold Go.Proofs.Ytaojognjkiifmaa.at_
  rw [List.getD_eq_getElem?_getD]
  cases e : d[v.toNat]? with
  | none => simp [farI]
  | some x => exact h x (List.mem_of_getElem? e)
theorem InR.relax {d : List Int} (h : InR d) {a : ArcD} (hc : 0 ≤ a.c) : InR (relax d a) := by
  unfold Go.Proofs.Ytaojognjkiifmaa.relax
  split
  · rename_i hh
    intro x hx
    rcases List.mem_or_eq_of_mem_set hx with hx | rfl
    · exact h x hx
    · have h1 := h.at_ a.f
      have h2 := h.at_ a.t
      omega
  · exact h
theorem InR.foldl : ∀ (ys : List ArcD) (d : List Int), InR d → (∀ a ∈ ys, 0 ≤ a.c) → InR (ys.foldl Go.Proofs.Ytaojognjkiifmaa.relax d)
  | [], _, h, _ => h
  | a :: ys, d, h, hc => InR.foldl ys _ (h.relax (hc a (by simp))) fun b hb => hc b (List.mem_cons_of_mem _ hb)
theorem InR.rounds {ys : List ArcD} {d : List Int} (h : InR d) (hc : ∀ a ∈ ys, 0 ≤ a.c) : ∀ r, InR (roundsTo ys d r)
  | 0 => h
  | r + 1 => InR.foldl ys _ (InR.rounds h hc r) hc
theorem startA_in {m : Int} {xs : List ArcD} (s : Int) (hn : netB m xs = true) : InR (startA xs s) := fun x hx => by
  obtain ⟨a, ha, rfl⟩ := List.mem_map.1 hx
  have hbo := ((netB_iff _ _).1 hn).2.2 _ ha
  simp only [arcB, Bool.and_eq_true, inB_iff] at hbo
  unfold farI
  split <;> omega
theorem lineArc_c {m : Int} {xs : List ArcD} {ts : List TurnD} (hn : netB m xs = true) {i k : Nat} {a : ArcD} (ha : a ∈ lineArc xs ts i k) : 0 ≤ a.c := by
  obtain ⟨x, b, hx, hb, hc, rfl⟩ := lineArc_mem ha
  have hbo := ((netB_iff _ _).1 hn).2.2 _ (List.mem_of_getElem? hb)
  simp only [arcB, Bool.and_eq_true, inB_iff] at hbo
  simp only
  omega
theorem line_part_c {m : Int} {xs : List ArcD} {ts : List TurnD} (hn : netB m xs = true) {n i k : Nat} {a : ArcD} (ha : a ∈ lineTo xs ts n i ++ rowL xs ts i k) : 0 ≤ a.c := by
  rcases List.mem_append.1 ha with ha | ha
  · obtain ⟨i, j, h⟩ := lineTo_mem _ ha
    exact lineArc_c hn h
  · obtain ⟨j, h⟩ := rowL_mem _ ha
    exact lineArc_c hn h
theorem RowI.atN {w : World} {G : Nat} {d : List Int} (h : RowI w G d) {v : Nat} (h1 : v < d.length) : w.cell? ⟨G, v, none⟩ = some (.int .i64 (Go.Proofs.Ytaojognjkiifmaa.at_ d v)) := by
  have := h.at_ (v := (v : Int)) (by omega) (by omega)
  simpa using this
theorem partL_length (xs : List ArcD) (ts : List TurnD) (s : Int) (r : Nat) (ys : List ArcD) : (ys.foldl relax (roundsTo (lineL xs ts) (startA xs s) r)).length = xs.length :=
  (roundTo_length ys _).trans (by rw [roundsTo_length, startA_length])

set_option maxRecDepth 100000 in
set_option maxHeartbeats 4000000 in
theorem l4Arcs_any (m : Int) (A : Option Addr) (n c : Nat) (xs : List ArcD) (B : Option Addr) (l cb : Nat) (ts : List TurnD) (s : Int) (w : World) (hnx : xs.length = n) (hx : ArcsAt w A xs) (hl : l ≤ 1048576) (hlt : ts.length = l) (ht : TurnsAt w B ts) (hT : turnsB m xs ts = true) :
    Calls Try.prog 96 #[.agg #[.int .i64 m, .slice A n c], .slice B l cb, .int .i64 s] w (Gives w (arcsL xs ts s)) := by
  have hn16 : n ≤ 16 := by rw [← hnx]; exact ((netB_iff _ _).1 (turnsB_all hT).1).2.1
  have HX := Lib.hid hnx
  have HL := Lib.hid hlt
  have HT := Lib.hid hT
  clear hnx hlt hT
  have hmk := makeInt n (by omega)
  have hb0 : Past w (w.alloc (.cells #[.int .i64 m, .slice A n c] 32)) := (Past.refl _).alloc _
  obtain ⟨W, hW⟩ : ∃ W, W = w.alloc (.cells #[.int .i64 m, .slice A n c] 32) := ⟨_, rfl⟩
  have hWs : W.heap.size = w.heap.size + 1 := by rw [hW]; simp
  have b1 : W.cell? ⟨w.heap.size, 1, none⟩ = some (.slice A n c) := by rw [hW]; go_simp
  rw [← hW] at hb0
  have hxW := hx.below hb0
  have htW := ht.below hb0
  have HW := Lib.hid hW
  have HWS := Lib.hid hWs
  go_enter Try.func96, Try.ntmps96
  clear hW hWs
  go_wp2
  go_loopw [8] (fun i wr => ∃ k : Nat, k ≤ n ∧ i = .int .i64 k ∧ Past W wr ∧ MadeI wr (w.heap.size + 1) 3 n (startA xs s) k) (fun i _ => n - (intOf i).toNat)
  case atStart => exact ⟨0, by omega, rfl, by rw [HW.out]; exact (Past.refl _).alloc _, by have := MadeI.start (w.alloc (.cells #[.int .i64 m, .slice A n c] 32)) 3 n (startA xs s) (madeCells #[.int .i64 0] n) (by simp [size_madeCells]); simpa using this⟩
  case round =>
    obtain ⟨k, hk, rfl, hb, hmd⟩ := hrel
    have b1' := cell_in hb b1
    by_cases hlt : k < n
    · obtain ⟨⟨f, t, c', l', d'⟩, ha⟩ : ∃ a, xs[k]? = some a := ⟨_, List.getElem?_eq_getElem (by have := HX.out; omega)⟩
      obtain ⟨g, o, rfl, c0, c1, c2, c3, c4⟩ := (hxW.below hb) k _ ha
      have hgl : g < w.heap.size := by
        obtain ⟨g3, o3, e3, h3, _⟩ := hx k _ ha
        injection e3 with e3
        injection e3 with e4 e5
        subst e4
        exact lt_of_cell h3
      have HA := Lib.hid (startA_at (s := s) ha)
      obtain ⟨v0, e0⟩ := hmd.1.cell (i := k) hlt
      have z0 := hmd.1.frozen k
      have hmd1 : MadeI (wr.setCell ⟨w.heap.size + 1, k, none⟩ (.int .i64 99999)) (w.heap.size + 1) 3 n (startA xs s) k := ⟨hmd.1.set _ _, fun j a hj hja => (World.cell?_setCell_other wr ⟨w.heap.size + 1, k, none⟩ ⟨w.heap.size + 1, j, none⟩ _ (by intro e; injection e; omega)).trans (hmd.2 j a hj hja)⟩
      have k0 : (0 : Int) ≤ (k : Int) := by omega
      have k1 : (k : Int) < (n : Int) := by omega
      clear ha c1 c3 c4
      simp only at c0 c2
      by_cases hs : f = s
      · have q1 : (f == s) = true := by simpa using hs
        go_wp2
        go_roundw
        case rel => exact ⟨k + 1, by omega, by go_num, Below.setCell (Below.setCell hb (by rw [HWS.out]; simp) _) (by rw [HWS.out]; simp) _, hmd1.next (by rw [HA.out, if_pos hs]) hlt⟩
        case measure => simp [intOf]; omega
      · have q1 : (f == s) = false := by simpa using hs
        go_wp2
        go_roundw
        case rel => exact ⟨k + 1, by omega, by go_num, Below.setCell hb (by rw [HWS.out]; simp) _, hmd.next (by rw [HA.out, if_neg hs]; rfl) hlt⟩
        case measure => simp [intOf]; omega
    · obtain rfl : n = k := by omega
      have hrow : RowI wr (w.heap.size + 1) (startA xs s) := hmd.row (by rw [startA_length]; exact HX.out)
      have HR0 := Lib.hid (show RowI wr (w.heap.size + 1) (roundsTo (lineL xs ts) (startA xs s) 0) from hrow)
      have hN := (turnsB_all HT.out).1
      have HNB := Lib.hid hN
      have hTB := (turnsB_all HT.out).2.2.1
      have HTB := Lib.hid hTB
      clear hrow hmd hN hTB
      go_wp2
      go_loopw [9] (fun i wq => ∃ r : Nat, r ≤ n ∧ i = .int .i64 r ∧ Past W wq ∧ RowI wq (w.heap.size + 1) (roundsTo (lineL xs ts) (startA xs s) r)) (fun i _ => n - (intOf i).toNat)
      case atStart => exact ⟨0, by omega, rfl, hb, HR0.out⟩
      case round =>
        obtain ⟨r, hr, rfl, hbq, hrow⟩ := hrel
        have b1q := cell_in hbq b1
        by_cases hlt : r < n
        · have r1 : (r : Int) < (n : Int) := by omega
          go_wp2
          go_loopw [10] (fun q wz => ∃ i : Nat, i ≤ n ∧ q = .int .i64 i ∧ Past W wz ∧ RowI wz (w.heap.size + 1) ((lineTo xs ts n i).foldl relax (roundsTo (lineL xs ts) (startA xs s) r))) (fun q _ => n - (intOf q).toNat)
          case atStart => exact ⟨0, by omega, rfl, hbq, hrow⟩
          case round =>
            obtain ⟨i, hi, rfl, hbz, hrz⟩ := hrel
            have b1z := cell_in hbz b1
            by_cases hin : i < n
            · have i1 : (i : Int) < (n : Int) := by omega
              go_wp2
              go_loopw [11, 12] (fun q _ wz => ∃ k : Nat, k ≤ n ∧ q = .int .i64 k ∧ Past W wz ∧ RowI wz (w.heap.size + 1) ((lineTo xs ts n i ++ rowL xs ts i k).foldl relax (roundsTo (lineL xs ts) (startA xs s) r))) (fun q _ _ => n - (intOf q).toNat)
              case atStart => exact ⟨0, by omega, rfl, hbz, by rw [rowL, List.append_nil]; exact hrz⟩
              case round =>
                obtain ⟨k, hk, rfl, hby, hry⟩ := hrel
                have b1y := cell_in hby b1
                by_cases hkn : k < n
                · obtain ⟨⟨f, t, ca, la, da⟩, ha⟩ : ∃ a, xs[i]? = some a := ⟨_, List.getElem?_eq_getElem (by have := HX.out; omega)⟩
                  obtain ⟨⟨f', t', c', l', d'⟩, hb'⟩ : ∃ a, xs[k]? = some a := ⟨_, List.getElem?_eq_getElem (by have := HX.out; omega)⟩
                  obtain ⟨g, o, rfl, a0, a1, a2, a3, a4⟩ := (hxW.below hby) i _ ha
                  obtain ⟨g', o', eg, d0, d1, d2, d3, d4⟩ := (hxW.below hby) k _ hb'
                  injection eg with eg
                  injection eg with eg1 eg2
                  subst eg1 eg2
                  have cT := l4Cost_any B l cb ts (i : Int) (k : Int) wr hl HL.out (htW.below hby)
                  have hcb := costF_bd HTB.out (i : Int) (k : Int)
                  have hbo := ((netB_iff _ _).1 HNB.out).2.2 _ (List.mem_of_getElem? hb')
                  simp only [arcB, Bool.and_eq_true, inB_iff, Bool.not_eq_true', beq_eq_false_iff_ne] at hbo
                  have hc99 : 0 ≤ c' ∧ c' ≤ 99 := hbo.2.2.2.1
                  have HA := Lib.hid ha
                  have HB' := Lib.hid hb'
                  obtain ⟨C, hC⟩ : ∃ C, C = costF ts (i : Int) (k : Int) := ⟨_, rfl⟩
                  rw [← hC] at hcb cT
                  have HCC := Lib.hid hC
                  obtain ⟨D, hD⟩ : ∃ D, D = (lineTo xs ts n i ++ rowL xs ts i k).foldl relax (roundsTo (lineL xs ts) (startA xs s) r) := ⟨_, rfl⟩
                  have hDl : D.length = n := by rw [hD, partL_length, HX.out]
                  have hDr : InR D := by
                    rw [hD]
                    refine InR.foldl _ _ ((startA_in s HNB.out).rounds (fun a ha => ?_) r) fun a ha => line_part_c HNB.out ha
                    obtain ⟨i, j, h⟩ := lineTo_mem _ ha
                    exact lineArc_c HNB.out h
                  rw [← hD] at hry
                  have dp := hry.atN (v := i) (by omega)
                  have dq := hry.atN (v := k) (by omega)
                  have hp0 := hDr.at_ (i : Int)
                  have hkl : k < D.length := by omega
                  obtain ⟨p, hp⟩ : ∃ p, p = at_ D (i : Int) := ⟨_, rfl⟩
                  obtain ⟨q, hq⟩ : ∃ q, q = at_ D (k : Int) := ⟨_, rfl⟩
                  have hrel : relax D ⟨(i : Int), (k : Int), C + c', 0, 9⟩ = if p < 99999 ∧ p + (C + c') < q then D.set k (p + (C + c')) else D := by
                    unfold relax
                    simp only [← hp, ← hq, Int.toNat_natCast]
                    rfl
                  rw [← hp] at dp hp0
                  rw [← hq] at dq
                  unfold farI at hp0
                  have HREL := Lib.hid hrel
                  have HDD := Lib.hid hD
                  have hnone : lineArc xs ts i k = [] → (lineTo xs ts n i ++ rowL xs ts i (k + 1)).foldl relax (roundsTo (lineL xs ts) (startA xs s) r) = D := fun e => by
                    rw [HDD.out, rowL, e, List.append_nil]
                  have hsome : lineArc xs ts i k = [⟨(i : Int), (k : Int), C + c', 0, 9⟩] → (lineTo xs ts n i ++ rowL xs ts i (k + 1)).foldl relax (roundsTo (lineL xs ts) (startA xs s) r) = relax D ⟨(i : Int), (k : Int), C + c', 0, 9⟩ := fun e => by
                    rw [HDD.out, rowL, e, ← List.append_assoc, List.foldl_append]
                    rfl
                  have i0' : (0 : Int) ≤ (i : Int) := by omega
                  have k0 : (0 : Int) ≤ (k : Int) := by omega
                  have k1 : (k : Int) < (n : Int) := by omega
                  simp only at a1 d0 d2
                  clear ha hb' hC hbo a0 a2 a3 a4 d1 d3 d4 hp hq hD hrel hDr
                  go_wp2_with fail
                  refine cT.mono ?_
                  rintro e w4 ⟨rfl, rfl⟩
                  clear cT
                  by_cases hE : t = f'
                  rotate_left
                  · have q1 : (t == f') = false := by simpa using hE
                    have HV := Lib.hid (hnone (lineArc_turn HA.out HB'.out hE))
                    clear hE hnone hsome
                    go_wp2_with fail
                    go_quiet (fail)
                    go_wp2
                    go_roundw
                    case rel => exact ⟨k + 1, by omega, by go_num, hby.drewN _, by rw [HV.out]; exact hry.drewN _⟩
                    case measure => simp [intOf]; omega
                  have q1 : (t == f') = true := by simpa using hE
                  by_cases hneg : 0 ≤ C
                  rotate_left
                  · have q2 : decide (0 ≤ C) = false := decide_eq_false hneg
                    have HV := Lib.hid (hnone (lineArc_no HA.out HB'.out (by rw [← HCC.out]; exact hneg)))
                    clear hE hnone hsome hneg
                    go_wp2_with fail
                    go_quiet (fail)
                    go_wp2
                    go_roundw
                    case rel => exact ⟨k + 1, by omega, by go_num, hby.drewN _, by rw [HV.out]; exact hry.drewN _⟩
                    case measure => simp [intOf]; omega
                  have q2 : decide (0 ≤ C) = true := decide_eq_true hneg
                  have HS := Lib.hid ((hsome (by rw [lineArc_hit HA.out HB'.out hE (by rw [← HCC.out]; exact hneg), ← HCC.out])).trans HREL.out)
                  clear hnone hsome hE
                  have s1 : IntKind.i64.wrap (p + C) = p + C := IntWalk.i64_in _ (by omega)
                  have s2 : IntKind.i64.wrap (p + C + c') = p + C + c' := IntWalk.i64_in _ (by omega)
                  by_cases hfar : p < 99999
                  rotate_left
                  · have q3 : decide (p < 99999) = false := decide_eq_false hfar
                    have HV := Lib.hid (HS.out.trans (if_neg fun h => hfar h.1))
                    clear hfar hneg
                    go_wp2_with fail
                    go_quiet (fail)
                    go_wp2
                    go_roundw
                    case rel => exact ⟨k + 1, by omega, by go_num, hby.drewN _, by rw [HV.out]; exact hry.drewN _⟩
                    case measure => simp [intOf]; omega
                  have q3 : decide (p < 99999) = true := decide_eq_true hfar
                  by_cases hless : p + C + c' < q
                  rotate_left
                  · have q4 : decide (p + C + c' < q) = false := decide_eq_false hless
                    have HV := Lib.hid (HS.out.trans (if_neg fun h => hless (by omega)))
                    clear hfar hneg hless
                    go_wp2_with fail
                    go_quiet (fail)
                    go_wp2
                    go_roundw
                    case rel => exact ⟨k + 1, by omega, by go_num, hby.drewN _, by rw [HV.out]; exact hry.drewN _⟩
                    case measure => simp [intOf]; omega
                  have q4 : decide (p + C + c' < q) = true := decide_eq_true hless
                  have HV := Lib.hid (HS.out.trans (if_pos ⟨hfar, by omega⟩))
                  clear hfar hneg hless
                  go_wp2_with fail
                  go_quiet (fail)
                  clear q1 q2 q3 q4
                  obtain ⟨W2, hW2⟩ : ∃ W2, W2 = wr.drewN nq := ⟨_, rfl⟩
                  have b1y : W2.cell? ⟨w.heap.size, 1, none⟩ = some (.slice (some ⟨g, o, none⟩) n c) := by rw [hW2]; exact b1y
                  have d2 : W2.cell? ⟨g, o + k * 5 + 2, none⟩ = some (.int .i64 c') := by rw [hW2]; exact d2
                  have dp : W2.cell? ⟨w.heap.size + 1, i, none⟩ = some (.int .i64 p) := by rw [hW2]; exact dp
                  have dq : W2.cell? ⟨w.heap.size + 1, k, none⟩ = some (.int .i64 q) := by rw [hW2]; exact dq
                  have z1 : W2.frozen? ⟨w.heap.size + 1, k, none⟩ = false := by rw [hW2]; exact hry.1.frozen k
                  have hrow2 : RowI W2.drew (w.heap.size + 1) D := by rw [hW2]; exact hry
                  have hb2 : Past W W2.drew := by rw [hW2]; exact (hby.drewN nq).drew
                  have HSET2 := Lib.hid (hrow2.set k (p + (C + c')) hkl)
                  have HB2 := Lib.hid (show Past W (W2.drew.setCell ⟨w.heap.size + 1, k, none⟩ (.int .i64 (p + C + c'))) from Below.setCell hb2 (by rw [HWS.out]; simp) _)
                  have HEQ : Hid (p + C + c' = p + (C + c')) := by rw [Hid]; omega
                  go_wp2_with fail
                  rw [← hW2]
                  clear hW2 hrow2 hb2 hry a1 d0
                  go_still_tail 16, (by kernel_rfl)
                  change wpList _ _ _ _ _ W2.drew
                  clear s1 s2
                  go_wp2
                  go_roundw
                  case rel => exact ⟨k + 1, by omega, by go_num, HB2.out, by rw [HV.out, HEQ.out]; exact HSET2.out⟩
                  case measure => simp [intOf]; omega
                · obtain rfl : k = n := by omega
                  go_wp2
                  go_roundw
                  case rel => exact ⟨i + 1, by omega, by go_num, hby, hry⟩
                  case measure => simp [intOf]; omega
            · obtain rfl : i = n := by omega
              go_wp2
              go_roundw
              case rel => exact ⟨r + 1, by omega, by go_num, hbz, by
                have e : lineTo xs ts i i = lineL xs ts := by rw [lineL, HX.out]
                rw [e] at hrz
                exact hrz⟩
              case measure => simp [intOf]; omega
        · obtain rfl : r = n := by omega
          have hrow : RowI wr (w.heap.size + 1) (arcsL xs ts s) := by rw [arcsL, HX.out]; exact hrow
          go_wp2
          go_ret
          exact ⟨_, rfl, hrow.res ((arcsL_length xs ts s).trans HX.out) (by omega) (by omega), hb0.trans hbq⟩

end Go.Proofs.Ytaojognjkiifmaa
