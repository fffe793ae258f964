/-
  l30Walk: a list of 21 numbers at most, in new memory.
-/
import Derived.Test.YtgeoheeibebmcabDraw4
import Derived.Test.YtgeoheeibebmcabOut
namespace Go.Proofs.Ytgeoheeibebmcab
open Go.RowKit

theorem outTo_mem {xs : List ArcD} {node y : Int} : ∀ {k : Nat}, y ∈ outTo xs node k → ∃ q : Nat, q < k ∧ y = q
  | 0, h => by simp [outTo] at h
  | k + 1, h => by
    rw [outTo] at h
    split at h
    · rcases List.mem_append.1 h with h | h
      · obtain ⟨q, h1, h2⟩ := outTo_mem h
        exact ⟨q, by omega, h2⟩
      · simp at h
        exact ⟨k, by omega, h⟩
    · obtain ⟨q, h1, h2⟩ := outTo_mem h
      exact ⟨q, by omega, h2⟩

theorem Res.young {w w' : World} {lo g : Nat} {v : Value} {zs : List Int} (h : Res w lo v zs) (hg : w.grownBy w' (some g)) (hl : g < lo) : Res w' lo v zs :=
  World.ownsRow.kept h hg (.inr fun e => own_ne h hl e.symm)

/-- The slice is not nil. -/
def NN (v : Value) : Prop := v ≠ .slice none 0 0

/-- A list was drawn into new memory. -/
def WalkG (w : World) (R lo : Nat) (A : Option Addr) (n c f : Nat) (e : Ending) (w' : World) : Prop :=
  ∃ v zs, e = .returned v ∧ zs.length ≤ 21 ∧ Res w' w.heap.size v zs ∧ RdF w' R lo A n c f ∧ w.grownBy w' (some R) ∧ NN v

set_option maxRecDepth 100000 in
set_option maxHeartbeats 4000000 in
theorem l30Walk_any (R lo : Nat) (A B : Option Addr) (n c f k cap : Nat) (m fr mo : Int) (xs : List ArcD) (w : World) (h : RdF w R lo A n c (f + 22)) (hm0 : 0 ≤ mo) (hm1 : mo ≤ 21) (hk : k ≤ 13) (hxk : xs.length = k) (hx : ArcsAt w B xs) (hBR : blk B ≠ some R) :
    Calls Try.prog 122 #[.pointer (some ⟨R, 0, none⟩), .agg #[.int .i64 m, .slice B k cap], .int .i64 fr, .int .i64 mo] w (WalkG w R lo A n c f) := by
  have hRw := h.at_
  have hloR : lo ≤ R := by obtain ⟨p, _, hh⟩ := h; exact hh.lt
  have HX := Lib.hid hxk
  clear hxk
  obtain ⟨i0, hi, hz0, hz1, hz2⟩ := info_parts infoInt
  have t5 : IntKind.i64.wrap (mo + 1) = mo + 1 := IntWalk.i64_in _ (by omega)
  go_enter Try.func122, Try.ntmps122
  obtain ⟨V, hV⟩ : ∃ V, V = w.alloc (.cells #[.int .i64 m, .slice B k cap] 25) := ⟨_, rfl⟩
  have hpV : Past w V := by rw [hV]; exact (Past.refl w).alloc _
  have hsV : V.heap.size = w.heap.size + 1 := by rw [hV]; simp
  have v0 : V.cell? ⟨w.heap.size, 0, none⟩ = some (.int .i64 m) := by rw [hV]; go_simp
  have v1 : V.cell? ⟨w.heap.size, 1, none⟩ = some (.slice B k cap) := by rw [hV]; go_simp
  have hres0 : Res (V.alloc (.cells #[] 3)) (w.heap.size + 1) (.slice (some ⟨w.heap.size + 1, 0, none⟩) 0 0) [] := by
    refine ⟨rfl, .inr ⟨w.heap.size + 1, 0, #[], rfl, Nat.le_refl _, ?_, Nat.le_refl _, by unfold maxLen; omega, rfl, rfl⟩⟩
    have := heap_alloc_new V (.cells #[] 3)
    rw [hsV] at this
    exact this
  go_wp2_with fail
  rw [← hV]
  refine (pickF (f := f + 21) _ ((h.below hpV).alloc _)).mono ?_
  rintro e w1 ⟨k1, rfl, k10, k11, hr1, hg1⟩
  obtain ⟨j1, rfl⟩ : ∃ j : Nat, k1 = j := ⟨k1.toNat, by omega⟩
  have hj1 : j1 ≤ 21 := by omega
  have hgV1 : V.grownBy w1 (some R) := grown_trans (World.grownBy_alloc V _ _) hg1
  have hres1 := hres0.young hg1 (by omega)
  clear hres0 hg1 hV t5
  go_wp2
  go_loopw [9, 10, 11] (fun v a q wr => ∃ (j : Nat) (at_ : Int) (zs : List Int), j + zs.length ≤ 21 ∧ a = .int .i64 at_ ∧ q = .int .i64 j ∧ Res wr (w.heap.size + 1) v zs ∧ RdF wr R lo A n c (f + j) ∧ V.grownBy wr (some R) ∧ NN v) (fun _ _ q _ => (intOf q).toNat)
  case atStart => exact ⟨j1, fr, [], by simp; omega, rfl, rfl, hres1, hr1.less (by omega), hgV1, by simp [NN]⟩
  case round =>
    obtain ⟨wo, hwo⟩ : ∃ wo, wo = wr := ⟨_, rfl⟩
    subst hwo
    obtain ⟨j, at_, zs, hjz, rfl, rfl, hv, hrd, hgV, hnn⟩ := hrel
    have b0 := cell_far hgV v0 (by simp only [ne_eq]; omega)
    have b1 := cell_far hgV v1 (by simp only [ne_eq]; omega)
    have hx3 := (hx.below hpV).grown hgV (fun b e => by injection e with e; rw [← e]; exact hBR)
    have hszr := hgV.size
    by_cases hj : 0 < j
    · obtain ⟨j', rfl⟩ : ∃ j', j = j' + 1 := ⟨j - 1, by omega⟩
      have hres2 : Res (wo.alloc (.cells #[] 3)) wo.heap.size (.slice (some ⟨wo.heap.size, 0, none⟩) 0 0) [] :=
        ⟨rfl, .inr ⟨wo.heap.size, 0, #[], rfl, Nat.le_refl _, heap_alloc_new wo _, Nat.le_refl _, by unfold maxLen; omega, rfl, rfl⟩⟩
      have hpa : Past wo (wo.alloc (.cells #[] 3)) := (Past.refl wo).alloc _
      go_wp2
      go_loopw [12, 13] (fun o q wq => ∃ k' : Nat, k' ≤ k ∧ q = .int .i64 k' ∧ Res wq wo.heap.size o (outTo xs at_ k') ∧ Past wo wq) (fun _ q _ => k - (intOf q).toNat)
      case atStart => exact ⟨0, by omega, rfl, hres2, hpa⟩
      case round =>
        obtain ⟨k', hk', rfl, ho, hbq⟩ := hrel
        clear hres2 hpa
        have b0 := cell_in hbq b0
        have b1 := cell_in hbq b1
        have hx4 := hx3.below hbq
        by_cases hlt : k' < k
        · obtain ⟨⟨f', t, c', l', d⟩, ha⟩ : ∃ a, xs[k']? = some a := ⟨_, List.getElem?_eq_getElem (by have := HX.out; omega)⟩
          obtain ⟨g, o', rfl, c0, c1, c2, c3, c4⟩ := hx4 k' _ ha
          have HA := Lib.hid ha
          clear ha c1 c2 c3 c4
          have i0' : (0 : Int) ≤ (k' : Int) := by omega
          have i1 : (k' : Int) < (k : Int) := by omega
          cases hC : (f' == at_) with
          | true =>
            have HT := Lib.hid (outTo_hit HA.out hC)
            have hlen := outTo_len xs at_ k'
            have hbs := hbq.size
            unfold Res at ho
            obtain ⟨D, hD⟩ : ∃ D, D = (outTo xs at_ k').length := ⟨_, rfl⟩
            rw [← hD] at ho hlen
            have HDD := Lib.hid hD
            clear hD
            go_wp2_with (first | (at_builtin; refine wpList_append_own _ rfl _ _ 28 rfl wo.heap.size 3 i0 (.int .i64 0) 1 8 Try.underlying28 hi hz0 hz1 hz2 rfl (by decide) _ _ _ rfl (ho.alloc _) ⟨wr.heap.size, 0, none⟩ 1 1 [.int .i64 (k' : Int)] rfl rfl (cell_one_new _ _ _) (one_cell _) (by unfold maxLen; omega) (by omega) (by simp; omega) ?_; intro v' w3 hown' hgrow3 hnil3))
            go_roundw
            case rel => exact ⟨k' + 1, by omega, by go_num, by rw [HT.out]; exact Res.push (by rw [← HDD.out]; exact hown'), Past.grown (hbq.alloc _) (ho.alloc _) hgrow3 (Nat.le_refl _)⟩
            case measure => simp [intOf]; omega
          | false =>
            have HT := Lib.hid (outTo_miss HA.out hC)
            go_wp2
            go_roundw
            case rel => exact ⟨k' + 1, by omega, by go_num, by rw [HT.out]; exact ho, hbq⟩
            case measure => simp [intOf]; omega
        · obtain rfl : k = k' := by omega
          have hv2 := hv.below hbq
          have hrd2 := hrd.below hbq
          have hgV2 : V.grownBy wr (some R) := grown_trans hgV (grown_of_below hbq _)
          have hoR : wo.heap.size ≤ wr.heap.size := hbq.size
          obtain ⟨O, co, rfl, hio, hoo⟩ := ho.form
          obtain ⟨L, hL⟩ : ∃ L, L = (outTo xs at_ k).length := ⟨_, rfl⟩
          rw [← hL]
          have hL13 : L ≤ 13 := by have := outTo_len xs at_ k; omega
          have hneO : blk O ≠ some R := hoo.ne_blk (by omega)
          by_cases hL0 : L = 0
          · have hL0' : ((L : Int) == 0) = true := by simp; omega
            clear hL0
            go_wp2
            go_ret
            exact ⟨_, zs, rfl, by omega, hv2.lower (by omega), hrd2.less (by omega), grown_trans (grown_of_below hpV _) hgV2, hnn⟩
          · have hL0' : ((L : Int) == 0) = false := by simp; omega
            have hLp : 0 < L := by omega
            have HL := Lib.hid hL
            clear hL0 hL hoo
            go_wp2_with fail
            refine (pickF (f := f + j') _ hrd2).mono ?_
            rintro e w5 ⟨k3, rfl, k30, k31, hr5, hg5⟩
            obtain ⟨q3, rfl⟩ : ∃ q : Nat, k3 = q := ⟨k3.toNat, by omega⟩
            have hq3 : q3 < L := by omega
            obtain ⟨y, hy⟩ : ∃ y, (outTo xs at_ k)[q3]? = some y := ⟨_, List.getElem?_eq_getElem (by rw [← HL.out]; exact hq3)⟩
            obtain ⟨q, hqk, rfl⟩ := outTo_mem (List.mem_of_getElem? hy)
            obtain ⟨gO, oO, rfl, cO⟩ := hio q3 _ hy
            have hgOR : gO ≠ R := fun e => hneO (by simp [blk, e])
            have cO := cell_far hg5 cO hgOR
            have b0 := cell_far hg5 b0 (by simp only [ne_eq]; omega)
            have b1 := cell_far hg5 b1 (by simp only [ne_eq]; omega)
            have hx5 := hx4.grown hg5 (fun b e => by injection e with e; rw [← e]; exact hBR)
            obtain ⟨⟨f', t, c', l', d⟩, ha⟩ : ∃ a, xs[q]? = some a := ⟨_, List.getElem?_eq_getElem (by have := HX.out; omega)⟩
            obtain ⟨g, o', rfl, c0, c1, c2, c3, c4⟩ := hx5 q _ ha
            have hgw : g < w.heap.size := by
              obtain ⟨g'', o'', e, hh⟩ := hx q _ ha
              injection e with e
              injection e with e1 e2
              subst e1
              exact hh.lt
            have hv5 := hv2.young hg5 (by omega)
            have hgV5 := grown_trans hgV2 hg5
            have hs5 : w.heap.size + 1 ≤ w5.heap.size := by have := hgV5.size; omega
            unfold Res at hv5
            obtain ⟨D, hD⟩ : ∃ D, D = zs.length := ⟨_, rfl⟩
            rw [← hD] at hv5 hjz
            have HDD := Lib.hid hD
            have i0' : (0 : Int) ≤ (q3 : Int) := by omega
            have i1 : (q3 : Int) < (L : Int) := by omega
            have i2 : (0 : Int) ≤ (q : Int) := by omega
            have i3 : (q : Int) < (k : Int) := by omega
            have hpa5 : Past w5 (w5.alloc (.cells #[.int .i64 (q : Int)] 3)) := (Past.refl w5).alloc _
            have hvA := hv5.alloc (.cells #[.int .i64 (q : Int)] 3)
            have hb1' : ∀ w3, (w5.alloc (.cells #[.int .i64 (q : Int)] 3)).grownBy w3 u9.ownBlock → w3.cell? ⟨w.heap.size, 1, none⟩ = some (.slice (some ⟨g, o', none⟩) k cap) := fun w3 hg => hg.cell (cell_in hpa5 b1) (own_ne (g := w.heap.size) hvA (by omega))
            have hc1' : ∀ w3, (w5.alloc (.cells #[.int .i64 (q : Int)] 3)).grownBy w3 u9.ownBlock → w3.cell? ⟨g, o' + q * 5 + 1, none⟩ = some (.int .i64 t) := fun w3 hg => hg.cell (cell_in hpa5 c1) (own_ne (g := g) hvA (by omega))
            have HB1 := Lib.hid hb1'
            have HC1 := Lib.hid hc1'
            clear hD ha hy c0 c2 c3 c4 hio hb1' hc1'
            go_wp2_with (first | (at_builtin; refine wpList_append_own _ rfl _ _ 28 rfl (w.heap.size + 1) 3 i0 (.int .i64 0) 1 8 Try.underlying28 hi hz0 hz1 hz2 rfl (by decide) _ _ _ rfl hvA ⟨w5.heap.size, 0, none⟩ 1 1 [.int .i64 (q : Int)] rfl rfl (cell_one_new _ _ _) (one_cell _) (by unfold maxLen; omega) (by omega) (by simp; omega) ?_; intro v' w3 hown' hgrow3 hnil3; have b1 := HB1.out _ hgrow3; have c1 := HC1.out _ hgrow3))
            go_roundw
            case rel => exact ⟨j', t, zs ++ [(q : Int)], by simp; have := HDD.out; omega, rfl, by go_num, Res.push (by rw [← HDD.out]; exact hown'), (hr5.alloc _).own hgrow3 hvA (by omega), grown_next (grown_trans hgV5 (World.grownBy_alloc w5 _ _)) hgrow3 (fun g e => by have := (hvA.lt g e).1; omega), fun e => absurd (hnil3.1 e).2 (by decide)⟩
            case measure => simp [intOf]
    · obtain rfl : j = 0 := by omega
      go_wp2
      go_ret
      exact ⟨_, zs, rfl, by omega, hv.lower (by omega), hrd.less (by omega), grown_trans (grown_of_below hpV _) hgV, hnn⟩

end Go.Proofs.Ytgeoheeibebmcab
