/-
  costsOf, allWithin, netHas: the costs of lengths; whether a net is ok and has a node. No condition.
-/
import Derived.Test.YtaojognjkiifmacNCh
import Derived.Test.YtaojognjkiifmacNear
namespace Go.Proofs.Ytaojognjkiifmac
open Go.RowKit

set_option maxRecDepth 100000 in
set_option maxHeartbeats 1000000 in
theorem costsOf_any (g n cap : Nat) (L : List LenD) (w : World) (hn : n ≤ 1048576) (hl : L.length = n) (hr : ∀ j a, L[j]? = some a → w.cell? ⟨g, j * 2, none⟩ = some (.int .i64 a.x0) ∧ w.cell? ⟨g, j * 2 + 1, none⟩ = some (.int .i64 a.x1)) :
    Calls Try.prog 55 #[.slice (some ⟨g, 0, none⟩) n cap] w (Gives w (L.map LenD.x0)) := by
  have hmk := makeInt n hn
  have HL := Lib.hid hl
  have HR := Lib.hid hr
  clear hl hr
  go_enter Try.func55, Try.ntmps55
  go_wp2
  go_loopw [11] (fun i wr => ∃ k : Nat, k ≤ n ∧ i = .int .i64 k ∧ Past w wr ∧ MadeI wr w.heap.size 3 n (L.map LenD.x0) k) (fun i _ => n - (intOf i).toNat)
  case atStart => exact ⟨0, by omega, rfl, (Past.refl w).alloc _, MadeI.start _ _ _ _ _ (by simp [size_madeCells])⟩
  case round =>
    obtain ⟨k, hk, rfl, hb, hm⟩ := hrel
    by_cases hlt : k < n
    · obtain ⟨⟨x0, x1⟩, ha⟩ : ∃ a, L[k]? = some a := ⟨_, List.getElem?_eq_getElem (by have := HL.out; omega)⟩
      obtain ⟨c0, c1⟩ := HR.out k _ ha
      have c0 := cell_in hb c0
      have c1 := cell_in hb c1
      simp only at c0 c1
      have HA : Hid ((L.map LenD.x0)[k]? = some x0) := by rw [Hid, List.getElem?_map, ha]; rfl
      have i0 : (0 : Int) ≤ (k : Int) := by omega
      have i1 : (k : Int) < (n : Int) := by omega
      have hmA := hm.below ((Past.refl wr).alloc (.cells #[.int .i64 x0, .int .i64 x1] 105))
      obtain ⟨v0, e0⟩ := hmA.1.cell (i := k) hlt
      have z0 := hmA.1.frozen k
      have hnx := (hm.next HA.out hlt).below ((Past.refl _).alloc (.cells #[.int .i64 x0, .int .i64 x1] 105))
      have hgk : w.heap.size < wr.heap.size := hm.1.lt
      clear ha
      go_wp2
      go_roundw
      case rel => exact ⟨k + 1, by omega, by go_num, Past.alloc (Below.setCell hb (p := ⟨w.heap.size, k, none⟩) (by simp) _) _, hnx⟩
      case measure => simp [intOf]; omega
    · obtain rfl : n = k := by omega
      go_wp2
      go_ret
      refine ⟨_, rfl, ?_, hb⟩
      have hlm : (L.map LenD.x0).length = n := by rw [List.length_map, HL.out]
      exact (hm.row hlm).res hlm (Nat.le_refl _) hn

set_option maxRecDepth 100000 in
set_option maxHeartbeats 1000000 in
theorem allWithin_any (A : Option Addr) (n c : Nat) (zs : List Int) (mo : Int) (w : World) (hn : n ≤ 1048576) (hl : zs.length = n) (hz : IntsAt w A zs) :
    Calls Try.prog 85 #[.slice A n c, .int .i64 mo] w fun e w' => e = .returned (.bool (zs.all (fun z => inB z 0 mo))) ∧ Below w.heap.size w w' := by
  have HL := Lib.hid hl
  clear hl
  go_enter Try.func85, Try.ntmps85
  go_wp2
  go_loopw [9] (fun i wr => ∃ k : Nat, k ≤ n ∧ i = .int .i64 k ∧ Past w wr ∧ (zs.take k).all (fun z => inB z 0 mo) = true) (fun i _ => n - (intOf i).toNat)
  case atStart => exact ⟨0, by omega, rfl, Past.refl w, by simp⟩
  case round =>
    obtain ⟨k, hk, rfl, hb, hm⟩ := hrel
    have HM := Lib.hid hm
    clear hm
    by_cases hlt : k < n
    · obtain ⟨y, ha⟩ : ∃ a, zs[k]? = some a := ⟨_, List.getElem?_eq_getElem (by have := HL.out; omega)⟩
      obtain ⟨g, o, rfl, c0⟩ := hz k _ ha
      have c0 := cell_in hb c0
      have HA := Lib.hid ha
      have i0 : (0 : Int) ≤ (k : Int) := by omega
      have i1 : (k : Int) < (n : Int) := by omega
      clear ha
      go_wp2_with fail
      refine (within_any y mo _).mono ?_
      rintro e w1 ⟨rfl, rfl⟩
      cases hB : inB y 0 mo with
      | false =>
        have HB := Lib.hid hB
        clear hB
        go_wp2
        go_ret
        exact ⟨ret_bool (by
          symm
          rw [List.all_eq_false]
          exact ⟨y, List.mem_of_getElem? HA.out, by rw [HB.out]; simp⟩), hb⟩
      | true =>
        have HB := Lib.hid hB
        clear hB
        go_wp2
        go_roundw
        case rel => exact ⟨k + 1, by omega, by go_num, hb, by rw [List.take_add_one, List.all_append, HM.out, HA.out]; simp [HB.out]⟩
        case measure => simp [intOf]; omega
    · obtain rfl : n = k := by omega
      go_wp2
      go_ret
      refine ⟨ret_bool ?_, hb⟩
      have := HM.out
      rw [List.take_of_length_le (by have := HL.out; omega)] at this
      exact this.symm

set_option maxRecDepth 100000 in
set_option maxHeartbeats 1000000 in
theorem netHas_any (m : Int) (A : Option Addr) (n c : Nat) (xs : List ArcD) (B : Option Addr) (l cb : Nat) (zs : List Int) (w : World) (hn : n ≤ 1048576) (hnx : xs.length = n) (hx : ArcsAt w A xs) (hl : l ≤ 1048576) (hlz : zs.length = l) (hz : IntsAt w B zs) :
    Calls Try.prog 54 #[.agg #[.int .i64 m, .slice A n c], .slice B l cb] w fun e w' => e = .returned (.bool (netB m xs && zs.all (fun z => inB z 0 (m - 1)))) ∧ Below w.heap.size w w' := by
  have HX := Lib.hid hnx
  have HZ := Lib.hid hlz
  clear hnx hlz
  have hb0 : Past w (w.alloc (.cells #[.int .i64 m, .slice A n c] 30)) := (Past.refl _).alloc _
  go_enter Try.func54, Try.ntmps54
  go_wp2_with fail
  refine (implNetOk_any m A n c xs _ hn HX.out (hx.below hb0)).mono ?_
  rintro e w1 ⟨rfl, hb1⟩
  have b0 := cell_in (p := ⟨w.heap.size, 0, none⟩) (v := .int .i64 m) hb1 (by go_simp)
  cases hB : netB m xs with
  | false =>
    have HB := Lib.hid hB
    clear hB
    go_wp2
    go_ret
    exact ⟨ret_bool (by rw [HB.out]; rfl), hb0.trans hb1⟩
  | true =>
    have hw : IntKind.i64.wrap (m - 1) = m - 1 := by
      obtain ⟨h1, _⟩ := (netB_iff _ _).1 hB
      exact IntWalk.i64_in _ (by omega)
    have HB := Lib.hid hB
    clear hB
    go_wp2_with fail
    refine (allWithin_any B l cb zs (m - 1) _ hl HZ.out ((hz.below hb0).below hb1)).mono ?_
    rintro e w2 ⟨rfl, hb2⟩
    go_wp2
    go_ret
    exact ⟨ret_bool (by rw [HB.out]; rfl), (hb0.trans hb1).trans hb2⟩

end Go.Proofs.Ytaojognjkiifmac
