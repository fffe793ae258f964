/-
  traverse: a function value is called for each node that can be reached for no more. No condition.
-/
import Derived.Test.YtifbigfkakappaaNAll
import Derived.Test.YtifbigfkakappaaPReach
namespace Go.Proofs.Ytifbigfkakappaa
open Go.RowKit

/-- The blocks from lo on and below B are as they were. -/
def Mid (lo B : Nat) (w w' : World) : Prop := w.heap.size ≤ w'.heap.size ∧ ∀ b, lo ≤ b → b < B → w'.heap[b]? = w.heap[b]?
theorem Mid.refl (lo B : Nat) (w : World) : Mid lo B w w := ⟨Nat.le_refl _, fun _ _ _ => rfl⟩
theorem Mid.trans {lo B : Nat} {a b c : World} (h : Mid lo B a b) (k : Mid lo B b c) : Mid lo B a c := ⟨Nat.le_trans h.1 k.1, fun x h1 h2 => (k.2 x h1 h2).trans (h.2 x h1 h2)⟩
theorem Mid.of_past {lo B : Nat} {w w' : World} (h : Past w w') (hB : B ≤ w.heap.size) : Mid lo B w w' := ⟨h.size, fun b _ hb => h.block b (by omega)⟩

set_option maxRecDepth 100000 in
set_option maxHeartbeats 1000000 in
theorem traverse_any (cl : Nat) (lb : Array Value) (m : Int) (A : Option Addr) (n c : Nat) (xs : List ArcD) (s most : Int) (w : World) (eg : ∀ args w, (callFunc cl args).run Try.prog w = .ok (.enter cl args) w) (hn : n ≤ 1048576) (hnx : xs.length = n) (hx : ArcsAt w A xs) (ds : List Int) (hds : nearI m xs s = ds)
    (J : Nat → Nat → World → Prop)
    (h0 : ∀ w1, Past w w1 → J w1.heap.size 0 w1)
    (hS : ∀ B k W, J B k W → k < ds.length → rchB most (at_ ds (k : Int)) = false → J B (k + 1) W)
    (hV : ∀ B k W, w.heap.size ≤ B → B ≤ W.heap.size → k < ds.length → J B k W → rchB most (at_ ds (k : Int)) = true →
      Calls Try.prog cl (#[.int .i64 (k : Int), .int .i64 (at_ ds (k : Int))] ++ lb) W fun e W' => e = .returned (.tuple #[]) ∧ J B (k + 1) W' ∧ Mid w.heap.size B W W') :
    Calls Try.prog 26 #[.agg #[.int .i64 m, .slice A n c], .int .i64 s, .int .i64 most, .func (.func cl) #[] lb] w fun e w' => e = .returned (.tuple #[]) ∧ ∃ B, w.heap.size ≤ B ∧ B ≤ w'.heap.size ∧ J B ds.length w' := by
  have HX := Lib.hid hnx
  have H0 := Lib.hid h0
  have HS := Lib.hid hS
  have HV := Lib.hid hV
  have hdl := nearI_len m xs s
  have hbd : ∀ k : Nat, k < ds.length → at_ ds (k : Int) ≤ 99999 := fun k hk => by
    rw [← hds] at hk ⊢
    unfold nearI at hk ⊢
    split at hk
    · rename_i h
      rw [if_pos h]
      obtain ⟨hN, h0, h1⟩ := (hereB_iff _ _ _).1 h
      obtain ⟨M, rfl, _, h8⟩ := here_nat hN
      rw [nearL_length] at hk
      simp at hk ⊢
      exact (nearL_bound (arcsIn_net hN) ⟨h0, h1⟩ ⟨by omega, by omega⟩).2
    · simp at hk
  have HB := Lib.hid hbd
  rw [hds] at hdl
  clear hnx h0 hS hV hbd
  have hbx : Past w (w.alloc (.cells #[.int .i64 m, .slice A n c] 25)) := (Past.refl _).alloc _
  go_enter Try.func26, Try.ntmps26
  go_wp2_with fail
  refine (implNearAll_any m A n c xs s _ hn HX.out (hx.below hbx)).mono ?_
  rintro e w1 ⟨v1, rfl, hv1, hb1⟩
  have hv1 := hv1.lower hbx.size
  have hb1 := hbx.trans hb1
  clear hbx
  rw [hds] at hv1
  obtain ⟨D, cd, rfl, hd1, _⟩ := hv1.form
  have hJ0 := H0.out w1 hb1
  have hs1 := hb1.size
  obtain ⟨N, hN⟩ : ∃ N, N = ds.length := ⟨_, rfl⟩
  rw [← hN] at hdl ⊢
  have HN := Lib.hid hN
  have hlo : ∀ g o, D = some ⟨g, o, none⟩ → w.heap.size ≤ g := fun g o e => by
    subst e
    exact (World.ownsRow.lt hv1 g rfl).1
  have HLO := Lib.hid hlo
  clear hN hds hv1 hlo
  go_wp2
  go_loopw [14] (fun i wr => ∃ k : Nat, k ≤ N ∧ i = .int .i64 k ∧ J w1.heap.size k wr ∧ Mid w.heap.size w1.heap.size w1 wr) (fun i _ => N - (intOf i).toNat)
  case atStart => exact ⟨0, by omega, rfl, hJ0, Mid.refl _ _ _⟩
  case round =>
    obtain ⟨k, hk, rfl, hJ, hm⟩ := hrel
    by_cases hlt : k < N
    · obtain ⟨z, hz⟩ : ∃ z, z = at_ ds (k : Int) := ⟨_, rfl⟩
      obtain ⟨g, o, rfl, d0⟩ := hd1 k z (by rw [hz]; exact getElem_at ds k (by rw [← HN.out]; exact hlt))
      have d0 : wr.cell? ⟨g, o + k, none⟩ = some (.int .i64 z) := by
        have hl := lt_of_cell d0
        exact (World.cell?_of_block (a := ⟨g, o + k, none⟩) (hm.2 g (HLO.out g o rfl) hl)).trans d0
      have hz9 : z ≤ 99999 := by rw [hz]; exact HB.out k (by rw [← HN.out]; exact hlt)
      have HZ := Lib.hid hz
      have i0 : (0 : Int) ≤ (k : Int) := by omega
      have i1 : (k : Int) < (N : Int) := by omega
      cases hH : rchB most z with
      | true =>
        have hh := (rchB_iff _ _).1 hH
        have q1 : z ≠ 99999 := by omega
        have q2 := hh.2
        have hc := HV.out w1.heap.size k wr hs1 (hm.1) (by rw [← HN.out]; exact hlt) hJ (by rw [← hz]; exact hH)
        rw [← hz] at hc
        have HC := Lib.hid hc
        clear hH hh hz hc
        go_wp2_with fail
        refine HC.out.mono ?_
        rintro e w2 ⟨rfl, hJ2, hm2⟩
        go_wp2
        go_roundw
        case rel => exact ⟨k + 1, by omega, by go_num, hJ2, hm.trans hm2⟩
        case measure => simp [intOf]; omega
      | false =>
        have hh := (rchB_no _ _).1 hH
        have hJ2 := HS.out w1.heap.size k wr hJ (by rw [← HN.out]; exact hlt) (by rw [← hz]; exact hH)
        clear hH hz
        by_cases q1 : z = 99999
        · subst q1
          go_wp2
          go_roundw
          case rel => exact ⟨k + 1, by omega, by go_num, hJ2, hm⟩
          case measure => simp [intOf]; omega
        · have q2 : ¬ z ≤ most := fun h => hh ⟨by omega, h⟩
          go_wp2
          go_roundw
          case rel => exact ⟨k + 1, by omega, by go_num, hJ2, hm⟩
          case measure => simp [intOf]; omega
    · obtain rfl : N = k := by omega
      go_wp2
      go_end0
      exact ⟨rfl, _, hs1, hm.1, by rw [← HN.out]; exact hJ⟩

end Go.Proofs.Ytifbigfkakappaa
