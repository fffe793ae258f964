/-
  The most that it costs at least from one node to another one, as the program goes: impl.ReachFar. No condition.
-/
import Derived.Test.YtifbigfkakappaaTrav
import Derived.Test.YtifbigfkakappaaRFarS
namespace Go.Proofs.Ytifbigfkakappaa
open Go.RowKit

/-- A box of one number that a function value writes. -/
structure FarJ (w : World) (bx : Nat) (z : Int) (W : World) : Prop where
  cell : W.cell? ⟨bx, 0, none⟩ = some (.int .i64 z)
  free : W.frozen? ⟨bx, 0, none⟩ = false
  past : Past w W
  le : w.heap.size ≤ bx
theorem FarJ.later {w W W' : World} {bx : Nat} {z : Int} (h : FarJ w bx z W) (hp : Past W W') : FarJ w bx z W' := ⟨cell_in hp h.cell, free_in hp h.cell h.free, h.past.trans hp, h.le⟩
theorem FarJ.set {w W : World} {bx : Nat} {z y : Int} (h : FarJ w bx z W) : FarJ w bx y (W.setCell ⟨bx, 0, none⟩ (.int .i64 y)) :=
  ⟨World.cell?_setCell_same W ⟨bx, 0, none⟩ _ h.cell, by rw [← h.free]; simp, Below.setCell h.past (p := ⟨bx, 0, none⟩) h.le _, h.le⟩
theorem Mid.set {lo B b o : Nat} {W : World} {v : Value} (h : b < lo ∨ B ≤ b) : Mid lo B W (W.setCell ⟨b, o, none⟩ v) :=
  ⟨by simp [World.setCell], fun c h1 h2 => Below.heap_setCell W ⟨b, o, none⟩ v c (by simp only [ne_eq]; omega)⟩

set_option maxRecDepth 100000 in
set_option maxHeartbeats 1000000 in
theorem reachFar1_any (k z b : Int) (bx : Nat) (w W : World) (h : FarJ w bx b W) :
    Calls Try.prog 27 #[.int .i64 k, .int .i64 z, .pointer (some ⟨bx, 0, none⟩)] W fun e W' => e = .returned (.tuple #[]) ∧ W' = W.setCell ⟨bx, 0, none⟩ (.int .i64 (if b < z then z else b)) := by
  have c0 := h.cell
  have f0 := h.free
  go_enter Try.func27, Try.ntmps27
  have he : (if b < z then z else b) = max b z := by split <;> omega
  rw [he]
  go_wp2
  go_end0
  exact ⟨rfl, rfl⟩

set_option maxRecDepth 100000 in
set_option maxHeartbeats 1000000 in
theorem implReachFar_any (m : Int) (A : Option Addr) (n c : Nat) (xs : List ArcD) (w : World) (hn : n ≤ 1048576) (hnx : xs.length = n) (hx : ArcsAt w A xs) :
    Calls Try.prog 7 #[.agg #[.int .i64 m, .slice A n c]] w fun e w' => e = .returned (.int .i64 (mostI m xs)) ∧ Below w.heap.size w w' := by
  have HX := Lib.hid hnx
  clear hnx
  have hb0 : Past w (w.alloc (.cells #[.int .i64 m, .slice A n c] 25)) := (Past.refl _).alloc _
  go_enter Try.func7, Try.ntmps7
  go_wp2_with fail
  refine (implNetOk_any m A n c xs _ hn HX.out (hx.below hb0)).mono ?_
  rintro e w1 ⟨rfl, hb1⟩
  have b0 := cell_in (p := ⟨w.heap.size, 0, none⟩) (v := .int .i64 m) hb1 (by go_simp)
  have b1 := cell_in (p := ⟨w.heap.size, 1, none⟩) (v := .slice A n c) hb1 (by go_simp)
  have hp1 := hb0.trans hb1
  have hx1 := hx.below hp1
  clear hb0 hb1 hx
  cases hB : netB m xs with
  | false =>
    have HB := Lib.hid hB
    clear hB
    go_wp2
    go_ret
    exact ⟨ret_int (by rw [mostI, HB.out]; rfl), hp1⟩
  | true =>
    obtain ⟨M, rfl, h1, h8⟩ := here_nat hB
    have HB := Lib.hid hB
    clear hB
    have b0a := fun (o : Obj) => cell_in ((Past.refl w1).alloc o) b0
    go_wp2
    clear b0a
    go_loopw [10] (fun i wr => ∃ k : Nat, k ≤ M ∧ i = .int .i64 k ∧ FarJ w1 w1.heap.size (farR M xs k) wr) (fun i _ => M - (intOf i).toNat)
    case atStart => exact ⟨0, by omega, rfl, ⟨show _ = some (Value.int .i64 (0 : Int)) by go_simp, by go_simp, (Past.refl _).alloc _, Nat.le_refl _⟩⟩
    case round =>
      obtain ⟨k, hk, rfl, hJ⟩ := hrel
      have c0 := cell_in hJ.past b0
      have c1 := cell_in hJ.past b1
      by_cases hlt : k < M
      · have i0 : (0 : Int) ≤ (k : Int) := by omega
        have i1 : (k : Int) < (M : Int) := by omega
        have hH : hereB (M : Int) xs (k : Int) = true := (hereB_iff _ _ _).2 ⟨HB.out, i0, i1⟩
        have hds : nearI (M : Int) xs (k : Int) = nearL M xs (k : Int) := by rw [nearI, if_pos hH, Int.toNat_natCast]
        obtain ⟨d, hd⟩ : ∃ d, d = nearL M xs (k : Int) := ⟨_, rfl⟩
        obtain ⟨b, hbb⟩ : ∃ b, b = farR M xs k := ⟨_, rfl⟩
        rw [← hd] at hds
        have hdl : d.length = M := by rw [hd, nearL_length]
        have HN : Hid (farR M xs (k + 1) = farTo d b M) := by rw [Hid, farR, ← hd, ← hbb]
        rw [← hbb] at hJ
        have HDS := Lib.hid hds
        have HDL := Lib.hid hdl
        have hlt1 := lt_of_cell hJ.cell
        simp only at hlt1
        clear hd hbb hds hdl hH
        go_wp2_with fail
        refine (traverse_any 27 #[.pointer (some ⟨w1.heap.size, 0, none⟩)] (M : Int) A n c xs (k : Int) 99999 _ (enters_of Try.func27 (by kernel_rfl) rfl) hn HX.out (hx1.below hJ.past) d HDS.out
          (fun _ j W => FarJ w1 w1.heap.size (farTo d b j) W) (fun W hW => hJ.later hW)
          (fun B j W hW hj hno => by rw [farTo_no (.inl hno)]; exact hW)
          (fun B j W _ _ hj hW hyes => (reachFar1_any _ _ _ _ w1 W hW).mono (by
            rintro e W' ⟨rfl, rfl⟩
            refine ⟨rfl, ?_, Mid.set (.inl hlt1)⟩
            have hs := hW.set (y := if farTo d b j < at_ d (j : Int) then at_ d (j : Int) else farTo d b j)
            by_cases hq : farTo d b j < at_ d (j : Int)
            · rw [farTo_up hyes hq]
              rw [if_pos hq] at hs ⊢
              exact hs
            · rw [farTo_no (.inr hq)]
              rw [if_neg hq] at hs ⊢
              exact hs))).mono ?_
        rintro e w4 ⟨rfl, B, _, _, hJ4⟩
        rw [HDL.out] at hJ4
        go_wp2
        go_roundw
        case rel => exact ⟨k + 1, by omega, by go_num, by rw [HN.out]; exact hJ4⟩
        case measure => simp [intOf]; omega
      · obtain rfl : k = M := by omega
        have c2 := hJ.cell
        have hpz := hp1.trans hJ.past
        go_wp2
        go_ret
        exact ⟨ret_int (by rw [mostI, HB.out, if_pos rfl, Int.toNat_natCast]), hpz⟩

end Go.Proofs.Ytifbigfkakappaa
