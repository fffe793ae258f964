/-
  slices.Sorted(slices.Values(ys)), slices.Compact: which numbers are different. No condition.
-/
import Derived.Test.YtaojognjkiifmacOut
import Derived.Test.YtaojognjkiifmacEdgeI
namespace Go.Proofs.Ytaojognjkiifmac
open Go.RowKit Go.Shelf

attribute [local go_sem] Oper.semAt_some

set_option maxRecDepth 100000 in
set_option maxHeartbeats 2000000 in
theorem values1_in (F : Fence) (n : Nat) (hF : F.fn 106) (hro : F.round = none) (hn : 1 ≤ n) (l Bx : Nat) (B : Option Addr) (nn c : Nat) (ys : List Int) (hly : ys.length = nn) (hnn : nn ≤ 1048576) (w0 : World)
    (hbx : w0.cell? ⟨Bx, 0, none⟩ = some (.slice B nn c)) (hx : IntsAt w0 B ys) (J Jx : List Int → World → Prop)
    (W : World) (hW : Past w0 W) (_hJ : AbidesFrom W.heap.size J)
    (hY : ∀ pre x W, J pre W → pre.length < nn → YieldAt F (n - 1) Try.prog l #[.int .i64 x] W fun e W' =>
      (e = .returned (.bool true) ∧ J (pre ++ [x]) W' ∧ Below w0.heap.size W W') ∨ (e = .returned (.bool false) ∧ Jx (pre ++ [x]) W'))
    (h0 : J [] W) :
    CallsIn F n Try.prog 106 #[.func (.yield l) #[] #[], .pointer (some ⟨Bx, 0, none⟩)] W fun e W' => (∃ v, e = .returned v) ∧
      ((∃ zs, zs = ys ∧ J zs W') ∨ (∃ pre, pre <+: ys ∧ Jx pre W')) := by
  have HX := Lib.hid hly
  clear hly
  have b0 := cell_in hW hbx
  refine callsIn_of_wp Try.func106 rfl hF ?_ hro
  simp only [Try.ntmps106, List.size_toArray, List.length_cons, List.length_nil, Nat.reduceAdd, Nat.reduceSub, Array.replicate_succ, Array.replicate_zero, List.push_toArray, List.append_toArray, List.nil_append, List.cons_append]
  gi_wp2
  gi_loopw [7] (fun i wr => ∃ k : Nat, k ≤ nn ∧ i = .int .i64 k ∧ J (ys.take k) wr ∧ Past w0 wr) (fun i _ => nn - (intOf i).toNat)
  case atStart => exact ⟨0, Nat.zero_le _, rfl, by simpa using h0, hW⟩
  case round =>
    obtain ⟨k, hk, rfl, hJs, hnx⟩ := hrel
    by_cases hlt : k < nn
    · obtain ⟨y, ha⟩ : ∃ a, ys[k]? = some a := ⟨_, List.getElem?_eq_getElem (by have := HX.out; omega)⟩
      obtain ⟨g, o, rfl, c0⟩ := (hx.below hnx) k _ ha
      have HT : Hid (ys.take (k + 1) = ys.take k ++ [y]) := by rw [Hid, List.take_add_one, ha]; rfl
      have hpre : Hid (ys.take (k + 1) <+: ys) := List.take_prefix _ _
      have hlen : (ys.take k).length < nn := by rw [List.length_take]; omega
      clear ha
      obtain ⟨fn, tmps, assign, body, hy, hR⟩ := hY _ y _ hJs hlen
      gi_wp2
      refine hR.mono ?_
      rintro e W3 (⟨rfl, hJ3, hk3⟩ | ⟨rfl, hJx3⟩)
      · gi_wp2
        go_roundw
        case rel => exact ⟨k + 1, by omega, by go_num, by rw [HT.out]; exact hJ3, hnx.belowTrans hk3⟩
        case measure => simp [intOf]; omega
      · gi_wp2
        refine bodyPost_ret (results_none rfl _ _ _) rfl ?_
        exact ⟨⟨_, rfl⟩, .inr ⟨_, by rw [← HT.out]; exact hpre.out, hJx3⟩⟩
    · obtain rfl : k = nn := by omega
      gi_wp2
      go_end0
      exact ⟨⟨_, rfl⟩, .inl ⟨_, List.take_of_length_le (by rw [HX.out]; exact Nat.le_refl _), hJs⟩⟩

theorem values_stops (F : Fence) (n : Nat) (hF : F.fn 106) (hro : F.round = none) (hn : 1 ≤ n) (Bx : Nat) (B : Option Addr) (nn c : Nat) (ys : List Int) (hly : ys.length = nn) (hnn : nn ≤ 1048576) (w0 : World)
    (hbx : w0.cell? ⟨Bx, 0, none⟩ = some (.slice B nn c)) (hx : IntsAt w0 B ys) :
    SeqStopsK F n Try.prog 106 #[.pointer (some ⟨Bx, 0, none⟩)] (fun x : Int => #[Value.int .i64 x]) (Below w0.heap.size) (fun zs => zs = ys) (fun pre => pre <+: ys) nn w0 := fun l J Jx W hW hJ _ hY h0 =>
  values1_in F n hF hro hn l Bx B nn c ys hly hnn w0 hbx hx J Jx W hW hJ hY h0

set_option maxHeartbeats 1000000 in
theorem collectVals_any (Bx : Nat) (B : Option Addr) (nn c : Nat) (ys : List Int) (hly : ys.length = nn) (hnn : nn ≤ 1048576) (w : World)
    (hbx : w.cell? ⟨Bx, 0, none⟩ = some (.slice B nn c)) (hx : IntsAt w B ys) :
    Calls Try.prog 104 #[.func (.func 106) #[] #[.pointer (some ⟨Bx, 0, none⟩)]] w (Gives w ys) := by
  have hap := (callsIn_wide (n := 3)).1 (appendSeq_in Fence.wide 3 trivial rfl (by omega) 106 _ trivial (enters_of Try.func106 (by kernel_rfl) rfl) ys nn hnn w (values_stops Fence.wide 2 trivial rfl (by omega) Bx B nn c ys hly hnn w hbx hx))
  go_enter Try.func104, Try.ntmps104
  go_wp2_with fail
  refine hap.mono ?_
  rintro e w1 ⟨v, rfl, hv, hb⟩
  go_wp2
  go_ret
  exact ⟨v, rfl, hv, hb⟩

set_option maxHeartbeats 1000000 in
theorem values_any (B : Option Addr) (nn c : Nat) (w : World) :
    Calls Try.prog 80 #[.slice B nn c] w fun e w' => e = .returned (.func (.func 106) #[] #[.pointer (some ⟨w.heap.size, 0, none⟩)]) ∧ w' = w.alloc (.cells #[.slice B nn c] 25) := by
  go_enter Try.func80, Try.ntmps80
  go_wp2
  go_ret
  exact ⟨rfl, rfl⟩

set_option maxHeartbeats 1000000 in
theorem sorted_any (Bx : Nat) (B : Option Addr) (nn c : Nat) (ys : List Int) (hly : ys.length = nn) (hnn : nn ≤ 1048576) (w : World)
    (hbx : w.cell? ⟨Bx, 0, none⟩ = some (.slice B nn c)) (hx : IntsAt w B ys) :
    Calls Try.prog 79 #[.func (.func 106) #[] #[.pointer (some ⟨Bx, 0, none⟩)]] w (Gives w (ys.mergeSort fun x y => decide (x ≤ y))) := by
  have hap := collectVals_any Bx B nn c ys hly hnn w hbx hx
  go_enter Try.func79, Try.ntmps79
  go_wp2_with fail
  refine hap.mono ?_
  rintro e w1 ⟨v, rfl, hv, hb⟩
  go_wp2_with fail
  refine (sortInts_any _ _ _ _ (by rw [hly]; exact hnn) hv).mono ?_
  rintro e w2 ⟨rfl, hv2, hg2⟩
  have hb2 : Below w.heap.size w w2 := hb.grown hg2 hb.size (fun b e => (hv.lt b e).1)
  go_wp2
  go_ret
  exact ⟨v, rfl, hv2, hb2⟩

end Go.Proofs.Ytaojognjkiifmac
