/-
  The most that may go from a node to each, as the program goes: impl.LoadAll. No condition.
-/
import Derived.Deep.LoopGhost
import Derived.Test.YtaojognjkiifmaaSLoadAll
import Derived.Test.YtaojognjkiifmaaNAll
import Derived.Test.YtaojognjkiifmaaNRepI
namespace Go.Proofs.Ytaojognjkiifmaa
open Go.RowKit

set_option maxRecDepth 100000 in
set_option maxHeartbeats 4000000 in
theorem implLoadAll_any (m : Int) (A : Option Addr) (n c : Nat) (xs : List ArcD) (s : Int) (w : World) (hn : n ≤ 1048576) (hnx : xs.length = n) (hx : ArcsAt w A xs) :
    Calls Try.prog 48 #[.agg #[.int .i64 m, .slice A n c], .int .i64 s] w (Gives w (loadsI m xs s)) := by
  have HX := Lib.hid hnx
  clear hnx
  have hb0 : Past w ((w.alloc (.cells #[.int .i64 m, .slice A n c] 32)).alloc (.cells #[.int .i64 s] 3)) := ((Past.refl _).alloc _).alloc _
  have hz : IntsAt ((w.alloc (.cells #[.int .i64 m, .slice A n c] 32)).alloc (.cells #[.int .i64 s] 3)) (some ⟨w.heap.size + 1, 0, none⟩) [s] := fun k y hk => by
    cases k with
    | zero => simp at hk; subst hk; exact ⟨_, _, rfl, by go_simp⟩
    | succ k => simp at hk
  go_enter Try.func48, Try.ntmps48
  go_wp2
  go_step3
  go_wp2_with fail
  refine (netHas_any m A n c xs _ 1 1 [s] _ hn HX.out (hx.below hb0) (by omega) rfl hz).mono ?_
  rintro e w1 ⟨rfl, hb1⟩
  have b0 := cell_in (p := ⟨w.heap.size, 0, none⟩) (v := .int .i64 m) hb1 (by go_simp)
  have b1 := cell_in (p := ⟨w.heap.size, 1, none⟩) (v := .slice A n c) hb1 (by go_simp)
  have hx1 := (hx.below hb0).below hb1
  have hp1 := hb0.trans hb1
  have hH : (netB m xs && [s].all (fun z => inB z 0 (m - 1))) = hereB m xs s := by simp [hereB]
  rw [hH]
  clear hH hb0 hz hb1
  cases hB : hereB m xs s with
  | false =>
    have HB := Lib.hid hB
    clear hB
    go_wp2
    go_ret
    exact ⟨_, rfl, by rw [loadsI, HB.out]; exact Res.nil _ _, hp1⟩
  | true =>
    obtain ⟨hN, h0, h1⟩ := (hereB_iff _ _ _).1 hB
    obtain ⟨M, rfl, h3, h8⟩ := here_nat hN
    have HR : Hid (loadsI (M : Int) xs s = mostL M xs s) := by rw [Hid, loadsI, if_pos hB, Int.toNat_natCast]
    have HN := Lib.hid hN
    have hsM : s.toNat < M := by omega
    clear hB hN
    have b0A := fun (o : Obj) => cell_in ((Past.refl w1).alloc o) b0
    have b1A := fun (o : Obj) => cell_in ((Past.refl w1).alloc o) b1
    go_wp2_with fail
    clear b0A b1A
    refine (repeatI_any w1.heap.size M (-1) _ (by omega) (by go_simp)).mono ?_
    rintro e w2 ⟨rfl, hrep, hb2⟩
    rw [World.size_alloc] at hrep ⊢
    have hp12 : Past w1 w2 := ((Past.refl w1).alloc _).trans hb2
    have B1 := Lib.hid b1
    have b0 := cell_in hp12 b0
    have b1 := cell_in hp12 b1
    have hrow2 := RowI.of_rep hrep
    obtain ⟨v0, e0⟩ := hrow2.1.cell (i := s.toNat) (by simp; omega)
    have z0 := hrow2.1.frozen s.toNat
    have hrow3 := hrow2.set s.toNat 9 (by simp; omega)
    have hp3 : Past w1 (w2.setCell ⟨w1.heap.size + 1, s.toNat, none⟩ (.int .i64 9)) := Below.setCell hp12 (by simp) _
    have hW0 := Wide.first (M := M) (xs := xs) (s := s) ⟨h0, h1⟩
    obtain ⟨ds0, hds0⟩ : ∃ ds0, ds0 = (List.replicate M (-1 : Int)).set s.toNat 9 := ⟨_, rfl⟩
    rw [← hds0] at hrow3 hW0
    have HRW := Lib.hid hrow3
    have HP3 := Lib.hid hp3
    clear hrep hb2 hp12 hrow2 hds0 hrow3 hp3
    go_wp2
    go_step3
    go_wp2
    go_loopg [] (restS ds0) (fun g wx => ∃ ds : List Int, g = restS ds ∧ Wide M xs s ds ∧ RowI wx (w1.heap.size + 1) ds ∧ Past w1 wx)
    case atStart => exact ⟨ds0, rfl, hW0, HRW.out, HP3.out⟩
    case round =>
      clear hW0 HRW HP3
      obtain ⟨ds, rfl, hW, hrow, hpr⟩ := hrel
      have b1r := cell_in hpr B1.out
      clear b0 b1 e0 z0
      go_wp2
      go_loopg [24] n (fun g2 q wy => ∃ j : Nat, j + g2 = n ∧ q = .int .i64 j ∧ RowI wy (w1.heap.size + 1) ds ∧ Past w1 wy ∧ (∀ (i : Nat) (a : ArcD), i < j → xs[i]? = some a → ¬ at_ ds a.t < min (at_ ds a.f) a.d))
      case atStart => exact ⟨0, by omega, rfl, hrow, hpr, fun i a h => absurd h (by omega)⟩
      case round =>
        clear hrow hpr b1r
        obtain ⟨j, hjg, rfl, hrow, hpr, hno⟩ := hrel
        by_cases hlt : j < n
        · obtain ⟨⟨f, t, c', l, d⟩, ha⟩ : ∃ a, xs[j]? = some a := ⟨_, List.getElem?_eq_getElem (by have := HX.out; omega)⟩
          obtain ⟨g, o, rfl, c0, c1, c2, c3, c4⟩ := (hx1.below hpr) j _ ha
          simp only at c0 c1 c2 c3 c4
          have hbd := arcsIn_net HN.out _ (List.mem_of_getElem? ha)
          have hd9 := ((netB_iff _ _).1 HN.out).2.2 _ (List.mem_of_getElem? ha)
          simp only [arcB, Bool.and_eq_true, inB_iff] at hd9
          simp only at hbd
          have pb := hW.bd f (by omega) (by omega)
          have qb := hW.bd t (by omega) (by omega)
          have hln := hW.len
          obtain ⟨W1, hW1⟩ : ∃ W1, W1 = wr.alloc (.cells #[.int .i64 f, .int .i64 t, .int .i64 c', .int .i64 l, .int .i64 d] 52) := ⟨_, rfl⟩
          have e0 : W1.cell? ⟨wr.heap.size, 0, none⟩ = some (.int .i64 f) := by rw [hW1]; go_simp
          have e1 : W1.cell? ⟨wr.heap.size, 1, none⟩ = some (.int .i64 t) := by rw [hW1]; go_simp
          have e4 : W1.cell? ⟨wr.heap.size, 4, none⟩ = some (.int .i64 d) := by rw [hW1]; go_simp
          have hbW1 : Past wr W1 := by rw [hW1]; exact (Past.refl _).alloc _
          have hrow1 := hrow.below hbW1
          have df := hrow1.at_ (v := f) (by omega) (by omega)
          have dt := hrow1.at_ (v := t) (by omega) (by omega)
          have hp1' := hpr.trans hbW1
          have j0 : (0 : Int) ≤ f := by omega
          have j1 : f < (M : Int) := by omega
          have j2 : (0 : Int) ≤ t := by omega
          have j3 : t < (M : Int) := by omega
          have hnew : ¬ at_ ds t < min (at_ ds f) d → ∀ (i : Nat) (a : ArcD), i < j + 1 → xs[i]? = some a → ¬ at_ ds a.t < min (at_ ds a.f) a.d := fun h i a hi hia => by
            by_cases e : i = j
            · subst e
              rw [ha] at hia
              injection hia with hia
              subst hia
              exact h
            · exact hno i a (by omega) hia
          obtain ⟨x, hx⟩ : ∃ x, x = min (at_ ds f) d := ⟨_, rfl⟩
          have hmore : at_ ds t < x → Wide M xs s (ds.set t.toNat x) := fun h => hW.more HN.out (List.mem_of_getElem? ha) hx h
          have hrest : at_ ds t < x → restS (ds.set t.toNat x) < restS ds := fun h => restS_set (y := at_ ds t) (by have := getElem_at ds t.toNat (by omega); rw [show ((t.toNat : Nat) : Int) = t by omega] at this; exact this) h (by omega)
          have htl : t.toNat < ds.length := by omega
          rw [← hx] at hnew
          obtain ⟨p, hp⟩ : ∃ p, p = at_ ds f := ⟨_, rfl⟩
          obtain ⟨q, hq⟩ : ∃ q, q = at_ ds t := ⟨_, rfl⟩
          rw [← hp] at df hx
          rw [← hq] at dt hnew hmore hrest
          have hmin2 : min p d = x := hx.symm
          have hmin : (if d < p then d else p) = x := by rw [hx]; split <;> omega
          have z1 := hrow1.1.frozen t.toNat
          have HW1 := Lib.hid hW1
          have HNO := Lib.hid hnew
          have HMO := Lib.hid hmore
          have HRE := Lib.hid hrest
          have hj0 : (0 : Int) ≤ (j : Int) := by omega
          have hj1 : (j : Int) < (n : Int) := by omega
          clear hW1 ha hbd hd9 hp hq hx hno hnew hmore hrest hbW1 hrow pb qb
          go_wp2_with fail
          rw [← HW1.out]
          go_quiet (fail)
          obtain ⟨W2, hW2⟩ : ∃ W2, W2 = W1.drewN nq := ⟨_, rfl⟩
          have e0 : W2.cell? ⟨wr.heap.size, 0, none⟩ = some (.int .i64 f) := by rw [hW2]; exact e0
          have e1 : W2.cell? ⟨wr.heap.size, 1, none⟩ = some (.int .i64 t) := by rw [hW2]; exact e1
          have df : W2.cell? ⟨w1.heap.size + 1, f.toNat, none⟩ = some (.int .i64 p) := by rw [hW2]; exact df
          have dt : W2.cell? ⟨w1.heap.size + 1, t.toNat, none⟩ = some (.int .i64 q) := by rw [hW2]; exact dt
          have z1 : W2.frozen? ⟨w1.heap.size + 1, t.toNat, none⟩ = false := by rw [hW2]; exact z1
          have hrow2 : RowI W2 (w1.heap.size + 1) ds := by rw [hW2]; exact hrow1
          have hp2 : Past w1 W2 := by rw [hW2]; exact hp1'.drewN nq
          clear hrow1 hp1'
          by_cases hh : q < x
          · have HSET := Lib.hid (hrow2.set t.toNat x htl)
            have HP2 := Lib.hid (show Past w1 (W2.setCell ⟨w1.heap.size + 1, t.toNat, none⟩ (.int .i64 x)) from Below.setCell hp2 (by simp) _)
            clear hrow2 hp2
            go_wp2_with fail
            rw [← hW2]
            go_wp2
            go_roundg (restS (ds.set t.toNat x))
            case measure => exact HRE.out hh
            case rel => exact ⟨_, rfl, HMO.out hh, HSET.out, HP2.out⟩
          · go_wp2_with fail
            rw [← hW2]
            go_wp2
            go_roundg (n - (j + 1))
            case measure => omega
            case rel => exact ⟨j + 1, by omega, by go_num, hrow2, hp2, HNO.out hh⟩
        · have hjn : j = n := by omega
          have hall := hW.all HN.out ⟨h0, h1⟩ (fun a ha => by
            obtain ⟨i, hi⟩ := List.getElem?_of_mem ha
            exact hno i a (by have := (List.getElem?_eq_some_iff.1 hi).1; have := HX.out; omega) hi)
          have HALL := Lib.hid hall
          have hln := hW.len
          have hlo := hp1.size
          clear hno hall
          go_wp2
          (try rw [Exit.noGoto_ret])
          go_ret
          exact ⟨_, rfl, by rw [HR.out, ← HALL.out]; exact hrow.res hln (by omega) (by omega), hp1.trans hpr⟩

end Go.Proofs.Ytaojognjkiifmaa
