/-
  The nodes that can be reached for no more, as the specification goes: spec.ReachIn. No condition.
-/
import Derived.Maps.AppendAt
import Derived.Test.YtgeoheeibebmcabPReach
namespace Go.Proofs.Ytgeoheeibebmcab
open Go.RowKit

theorem Res.empty_new (w : World) : Res (w.alloc (.cells #[] 3)) w.heap.size (.slice (some ⟨w.heap.size, 0, none⟩) 0 0) [] :=
  ⟨rfl, .inr ⟨w.heap.size, 0, #[], rfl, Nat.le_refl _, heap_alloc_new w _, Nat.le_refl _, by unfold maxLen; omega, rfl, rfl⟩⟩

set_option maxRecDepth 100000 in
set_option maxHeartbeats 2000000 in
theorem specReachIn_any (m : Int) (A : Option Addr) (n c : Nat) (xs : List ArcD) (s most : Int) (w : World) (hn : n ≤ 1048576) (hnx : xs.length = n) (hx : ArcsAt w A xs) :
    Calls Try.prog 18 #[.agg #[.int .i64 m, .slice A n c], .int .i64 s, .int .i64 most] w (Gives w (reachI m xs s most)) := by
  have HX := Lib.hid hnx
  clear hnx
  obtain ⟨i0, hi, hz0, hz1, hz2⟩ := info_parts infoInt
  obtain ⟨W0, hW0⟩ : ∃ W0, W0 = w.alloc (.cells #[.int .i64 m, .slice A n c] 25) := ⟨_, rfl⟩
  have hpW : Past w W0 := by rw [hW0]; exact (Past.refl _).alloc _
  have b0 : W0.cell? ⟨w.heap.size, 0, none⟩ = some (.int .i64 m) := by rw [hW0]; go_simp
  have b1 : W0.cell? ⟨w.heap.size, 1, none⟩ = some (.slice A n c) := by rw [hW0]; go_simp
  have HW := Lib.hid hW0
  have hsz : W0.heap.size = w.heap.size + 1 := by rw [hW0]; simp
  clear hW0
  go_enter Try.func18, Try.ntmps18
  go_wp2_with fail
  rw [← HW.out]
  clear HW
  have hr0 := Res.empty_new W0
  obtain ⟨W1, hW1⟩ : ∃ W1, W1 = W0.alloc (.cells #[] 3) := ⟨_, rfl⟩
  have hpW1 : Past W0 W1 := by rw [hW1]; exact (Past.refl _).alloc _
  have hs1 : W1.heap.size = W0.heap.size + 1 := by rw [hW1]; simp
  rw [← hW1] at hr0 ⊢
  rw [hsz] at hr0
  clear hW1
  have b0' := cell_in hpW1 b0
  have b1' := cell_in hpW1 b1
  have hx1 := hx.below (hpW.trans hpW1)
  refine (l1Ok_any m A n c xs _ hn HX.out hx1).mono ?_
  rintro e w1 ⟨rfl, hb1⟩
  have b0' := cell_in hb1 b0'
  have b1' := cell_in hb1 b1'
  have hr0 := hr0.below hb1
  have hx1 := hx1.below hb1
  have hp1 := Past.trans hpW1 hb1
  have hlo := hb1.size
  clear hb1 hpW1
  cases hB : netB m xs with
  | false =>
    have HB := Lib.hid hB
    clear hB
    go_wp2
    go_ret
    exact ⟨_, rfl, by rw [reachI, hereB, HB.out]; exact Res.nil _ _, hpW.trans hp1⟩
  | true =>
    obtain ⟨M, rfl, h1, h8⟩ := here_nat hB
    have HB := Lib.hid hB
    clear hB
    go_wp2_with fail
    refine (l1In_any _ _ _ _).mono ?_
    rintro e w2 ⟨rfl, rfl⟩
    cases hI : inB s 0 ((M : Int) - 1) with
    | false =>
      have HI := Lib.hid hI
      clear hI
      go_wp2
      go_ret
      exact ⟨_, rfl, by rw [reachI, hereB, HB.out, HI.out]; exact Res.nil _ _, hpW.trans hp1⟩
    | true =>
      have hs := (inB_iff _ _ _).1 hI
      have HI := Lib.hid hI
      clear hI
      go_wp2_with fail
      refine (l3All_any M s A n c xs _ h8 HX.out hn hx1 (arcsIn_net HB.out) (by omega)).mono ?_
      rintro e w3 ⟨v3, rfl, hv3, hb3⟩
      obtain ⟨D, cd, rfl, hd3, ho3⟩ := hv3.form
      rw [nearL_length] at ho3 ⊢
      have hr0 := hr0.below hb3
      have hp3 := hp1.trans hb3
      have hlo3 := Nat.le_trans hlo hb3.size
      obtain ⟨d, hd⟩ : ∃ d, d = nearL M xs s := ⟨_, rfl⟩
      rw [← hd] at hd3
      have hdl : d.length = M := by rw [hd, nearL_length]
      have HDL := Lib.hid hdl
      have HD := Lib.hid hd
      have hdb : ∀ v : Int, 0 ≤ v → v < M → 0 ≤ at_ d v ∧ at_ d v ≤ 99999 := fun v h0 h1 => by rw [hd]; exact nearL_bound (arcsIn_net HB.out) ⟨by omega, by omega⟩ ⟨h0, h1⟩
      have HDB := Lib.hid hdb
      have hdn : ∀ b, blk D = some b → w1.heap.size ≤ b ∧ b < w3.heap.size := fun b e => by
        rcases ho3 with ⟨rfl, _⟩ | ⟨g', sz, rfl, hl, hr, _⟩
        · cases e
        · injection e with e; simp only at e; have := hr.lt; omega
      have HDN := Lib.hid hdn
      clear hd hdl hdb hv3 hb3 ho3 hx1 hp1 hdn b0' b1'
      go_wp2
      go_loopw [7, 9] (fun v i wr => ∃ k : Nat, k ≤ M ∧ i = .int .i64 k ∧ Res wr (w.heap.size + 1) v (inTo d most k) ∧ Past W0 wr ∧ IntsAt wr D d ∧ w3.heap.size ≤ wr.heap.size ∧ (∀ b, v.ownBlock = some b → b = (w.heap.size + 1) ∨ w3.heap.size ≤ b)) (fun _ i _ => M - (intOf i).toNat)
      case atStart => exact ⟨0, by omega, rfl, hr0, hp3, hd3, Nat.le_refl _, fun b e => .inl (by injection e with e; exact e.symm)⟩
      case round =>
        obtain ⟨k, hk, rfl, hv, hb, hdw, hle, hob⟩ := hrel
        have b0 := cell_in hb b0
        by_cases hlt : k < M
        · obtain ⟨z, hz⟩ : ∃ z, z = at_ d (k : Int) := ⟨_, rfl⟩
          obtain ⟨g, o, hDg, d0⟩ := hdw k z (by rw [hz]; exact getElem_at d k (by rw [HDL.out]; exact hlt))
          have hzb : 0 ≤ z ∧ z ≤ 99999 := by rw [hz]; exact HDB.out _ (by omega) (by omega)
          have HZ := Lib.hid hz
          have HOB := Lib.hid hob
          have HDG := Lib.hid hDg
          have k0 : (0 : Int) ≤ (k : Int) := by omega
          have k1 : (k : Int) < (M : Int) := by omega
          cases hH : rchB most z with
          | true =>
            have hh := (rchB_iff _ _).1 hH
            have q1 := hh.1
            have q2 := hh.2
            have HT : Hid (inTo d most (k + 1) = inTo d most k ++ [(k : Int)]) := inTo_hit (by rw [← HZ.out]; exact hH)
            have hlen := inTo_len d most k
            have HDW := Lib.hid hdw
            unfold Res at hv
            obtain ⟨N, hN⟩ : ∃ N, N = (inTo d most k).length := ⟨_, rfl⟩
            rw [← hN] at hv hlen
            have HN := Lib.hid hN
            subst hDg
            clear hN hz hH hh hob hdw
            go_wp2_with (first | (at_builtin; refine wpList_append_own_at _ rfl _ _ 28 rfl (w.heap.size + 1) 3 i0 (.int .i64 0) 1 8 Try.underlying28 hi hz0 hz1 hz2 rfl (by decide) _ _ _ rfl (hv.alloc _) ⟨wr.heap.size, 0, none⟩ 1 1 [.int .i64 (k : Int)] rfl rfl (cell_one_new _ _ _) (one_cell _) (by unfold maxLen; omega) (by omega) (by simp; omega) ?_; intro v' w4 hown' hgrow4 hnil4 hat4))
            go_roundw
            case rel =>
              have hz4 := hgrow4.size
              simp only [World.size_alloc] at hz4
              refine ⟨k + 1, by omega, by go_num, by rw [HT.out]; exact Res.push (by rw [← HN.out]; exact hown'), Past.grown (hb.alloc _) (hv.alloc _) hgrow4 (by omega), (HDW.out.below ((Past.refl wr).alloc _)).grown hgrow4 (fun b e e' => ?_), by omega, fun b e => ?_⟩
              · have h1 := HDN.out b e'
                rcases HOB.out b e with h2 | h2 <;> omega
              · rcases (show v'.ownBlock = u7.ownBlock ∨ _ from hat4) with h2 | h2
                · exact HOB.out b (by rw [← h2]; exact e)
                · rw [h2] at e
                  injection e with e
                  simp only [World.size_alloc] at e
                  omega
            case measure => simp [intOf]; omega
          | false =>
            have hh := (rchB_no _ _).1 hH
            have HT : Hid (inTo d most (k + 1) = inTo d most k) := inTo_miss (by rw [← HZ.out]; exact hH)
            subst hDg
            clear hz hH hob
            by_cases q1 : z < 99999
            · have q2 : ¬ z ≤ most := fun h => hh ⟨q1, h⟩
              go_wp2
              go_roundw
              case rel => exact ⟨k + 1, by omega, by go_num, by rw [HT.out]; exact hv, hb, hdw, hle, HOB.out⟩
              case measure => simp [intOf]; omega
            · go_wp2
              go_roundw
              case rel => exact ⟨k + 1, by omega, by go_num, by rw [HT.out]; exact hv, hb, hdw, hle, HOB.out⟩
              case measure => simp [intOf]; omega
        · obtain rfl : k = M := by omega
          go_wp2
          go_ret
          exact ⟨_, rfl, by rw [reachI, hereB, HB.out, HI.out, if_pos (by rfl), Int.toNat_natCast, ← HD.out]; exact hv.lower (by omega), hpW.trans hb⟩

end Go.Proofs.Ytgeoheeibebmcab
