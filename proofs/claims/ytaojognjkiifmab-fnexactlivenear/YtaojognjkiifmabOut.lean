/-
  The arcs that begin at a node: impl's arcsFrom (an iterator), slices.AppendSeq and slices.Collect over an iterator of numbers.
-/
import Derived.RangeFuncNested
import Derived.RangeFuncBound
import Derived.RangeFuncCalls
import Derived.RangeFuncLeaves
import Derived.RangeFuncBox
import Derived.Shelf.Abstract
import Derived.Shelf.RegionOpen
import Derived.WalkKit
import Derived.OwnWalkIn
import Derived.TacticsInMore
import Derived.LoopNIn
import Derived.LoopIn
import Derived.Maps.AppendAt
import Derived.Test.YtaojognjkiifmabOk
import Derived.Test.YtaojognjkiifmabResI
namespace Go.Proofs.Ytaojognjkiifmab
open Go.RowKit Go.Shelf

attribute [local go_sem] Oper.semAt_some

def hitB (xs : List ArcD) (node : Int) (k : Nat) : Bool := match xs[k]? with
  | some a => a.f == node
  | none => false
/-- The numbers below k of arcs that begin at a node. -/
def outTo (xs : List ArcD) (node : Int) : Nat → List Int
  | 0 => []
  | k + 1 => if hitB xs node k then outTo xs node k ++ [(k : Int)] else outTo xs node k

theorem outTo_len (xs : List ArcD) (node : Int) : ∀ k, (outTo xs node k).length ≤ k
  | 0 => Nat.le_refl _
  | k + 1 => by
    have := outTo_len xs node k
    unfold outTo
    split
    · simp; omega
    · omega
theorem outTo_hit {xs : List ArcD} {node : Int} {k : Nat} {a : ArcD} (h : xs[k]? = some a) (he : (a.f == node) = true) : outTo xs node (k + 1) = outTo xs node k ++ [(k : Int)] := by
  rw [outTo, if_pos (by simp [hitB, h]; simpa using he)]
theorem outTo_miss {xs : List ArcD} {node : Int} {k : Nat} {a : ArcD} (h : xs[k]? = some a) (he : (a.f == node) = false) : outTo xs node (k + 1) = outTo xs node k := by
  rw [outTo, if_neg (by simp [hitB, h]; simpa using he)]
theorem outTo_pre (xs : List ArcD) (node : Int) : ∀ {k n : Nat}, k ≤ n → outTo xs node k <+: outTo xs node n
  | k, 0, h => by obtain rfl : k = 0 := by omega
                  exact List.prefix_refl _
  | k, n + 1, h => by
    by_cases hk : k = n + 1
    · subst hk; exact List.prefix_refl _
    · have h1 := outTo_pre xs node (k := k) (n := n) (by omega)
      refine h1.trans ?_
      rw [outTo]
      split
      · exact List.prefix_append _ _
      · exact List.prefix_refl _

set_option maxRecDepth 100000 in
set_option maxHeartbeats 2000000 in
theorem arcs1_in (F : Fence) (n : Nat) (hF : F.fn 120) (hro : F.round = none) (hn : 1 ≤ n) (l Bn Bd : Nat) (m node : Int) (A : Option Addr) (nn c : Nat) (xs : List ArcD) (hnx : xs.length = nn) (hnn : nn ≤ 1048576) (w0 : World)
    (hb0 : w0.cell? ⟨Bn, 0, none⟩ = some (.int .i64 m)) (hb1 : w0.cell? ⟨Bn, 1, none⟩ = some (.slice A nn c)) (hbd : w0.cell? ⟨Bd, 0, none⟩ = some (.int .i64 node)) (hx : ArcsAt w0 A xs) (J Jx : List Int → World → Prop)
    (W : World) (hW : Past w0 W) (hJ : AbidesFrom W.heap.size J)
    (hY : ∀ pre x W, J pre W → pre.length < nn → YieldAt F (n - 1) Try.prog l #[.int .i64 x] W fun e W' =>
      (e = .returned (.bool true) ∧ J (pre ++ [x]) W' ∧ Below w0.heap.size W W') ∨ (e = .returned (.bool false) ∧ Jx (pre ++ [x]) W'))
    (h0 : J [] W) :
    CallsIn F n Try.prog 120 #[.func (.yield l) #[] #[], .pointer (some ⟨Bn, 0, none⟩), .pointer (some ⟨Bd, 0, none⟩)] W fun e W' => (∃ v, e = .returned v) ∧
      ((∃ ys, ys = outTo xs node nn ∧ J ys W') ∨ (∃ pre, pre <+: outTo xs node nn ∧ Jx pre W')) := by
  have HX := Lib.hid hnx
  clear hnx
  have b0 := cell_in hW hb0
  have b1 := cell_in hW hb1
  refine callsIn_of_wp Try.func120 rfl hF ?_ hro
  simp only [Try.ntmps120, List.size_toArray, List.length_cons, List.length_nil, Nat.reduceAdd, Nat.reduceSub, Array.replicate_succ, Array.replicate_zero, List.push_toArray, List.append_toArray, List.nil_append, List.cons_append]
  gi_wp2
  gi_loopw [9] (fun i wr => ∃ k : Nat, k ≤ nn ∧ i = .int .i64 k ∧ J (outTo xs node k) wr ∧ Past w0 wr) (fun i _ => nn - (intOf i).toNat)
  case atStart => exact ⟨0, Nat.zero_le _, rfl, h0, hW⟩
  case round =>
    obtain ⟨k, hk, rfl, hJs, hnx⟩ := hrel
    have bd := cell_in hnx hbd
    by_cases hlt : k < nn
    · obtain ⟨⟨f, t, c', l', d⟩, ha⟩ : ∃ a, xs[k]? = some a := ⟨_, List.getElem?_eq_getElem (by have := HX.out; omega)⟩
      obtain ⟨g, o, rfl, c0, c1, c2, c3, c4⟩ := (hx.below hnx) k _ ha
      have HA := Lib.hid ha
      clear ha
      have hJa : J (outTo xs node k) (wr.alloc (.cells #[.int .i64 f, .int .i64 t, .int .i64 c', .int .i64 l', .int .i64 d] 34)) := hJ _ wr _ none hJs (World.grownBy_alloc _ _ _) (fun r e => by cases e)
      have hpa : Past wr (wr.alloc (.cells #[.int .i64 f, .int .i64 t, .int .i64 c', .int .i64 l', .int .i64 d] 34)) := (Past.refl wr).alloc _
      have bd' := cell_in hpa bd
      cases hB : (f == node) with
      | true =>
        have HB := Lib.hid hB
        obtain ⟨fn, tmps, assign, body, hy, hR⟩ := hY _ (k : Int) _ hJa (by have := outTo_len xs node k; omega)
        have HT := Lib.hid (outTo_hit HA.out HB.out)
        gi_wp2
        refine hR.mono ?_
        rintro e W3 (⟨rfl, hJ3, hk3⟩ | ⟨rfl, hJx3⟩)
        · gi_wp2
          go_roundw
          case rel => exact ⟨k + 1, by omega, by go_num, by rw [HT.out]; exact hJ3, (hnx.trans hpa).belowTrans hk3⟩
          case measure => simp [intOf]; omega
        · gi_wp2
          refine bodyPost_ret (results_none rfl _ _ _) rfl ?_
          exact ⟨⟨_, rfl⟩, .inr ⟨_, by rw [← HT.out]; exact outTo_pre xs node hlt, hJx3⟩⟩
      | false =>
        have HB := Lib.hid hB
        have HT := Lib.hid (outTo_miss HA.out HB.out)
        gi_wp2
        refine ⟨fun _ h => (by cases h), ?_⟩
        gi_wp2
        go_roundw
        case rel => exact ⟨k + 1, by omega, by go_num, by rw [HT.out]; exact hJa, hnx.trans hpa⟩
        case measure => simp [intOf]; omega
    · obtain rfl : k = nn := by omega
      gi_wp2
      go_end0
      exact ⟨⟨_, rfl⟩, .inl ⟨_, rfl, hJs⟩⟩

theorem arcs_stops (F : Fence) (n : Nat) (hF : F.fn 120) (hro : F.round = none) (hn : 1 ≤ n) (Bn Bd : Nat) (m node : Int) (A : Option Addr) (nn c : Nat) (xs : List ArcD) (hnx : xs.length = nn) (hnn : nn ≤ 1048576) (w0 : World)
    (hb0 : w0.cell? ⟨Bn, 0, none⟩ = some (.int .i64 m)) (hb1 : w0.cell? ⟨Bn, 1, none⟩ = some (.slice A nn c)) (hbd : w0.cell? ⟨Bd, 0, none⟩ = some (.int .i64 node)) (hx : ArcsAt w0 A xs) :
    SeqStopsK F n Try.prog 120 #[.pointer (some ⟨Bn, 0, none⟩), .pointer (some ⟨Bd, 0, none⟩)] (fun x : Int => #[Value.int .i64 x]) (Below w0.heap.size) (fun ys => ys = outTo xs node nn) (fun pre => pre <+: outTo xs node nn) nn w0 := fun l J Jx W hW hJ _ hY h0 =>
  arcs1_in F n hF hro hn l Bn Bd m node A nn c xs hnx hnn w0 hb0 hb1 hbd hx J Jx W hW hJ hY h0

set_option maxHeartbeats 1000000 in
theorem arcsFrom_any (m node : Int) (A : Option Addr) (nn c : Nat) (w : World) :
    Calls Try.prog 107 #[.agg #[.int .i64 m, .slice A nn c], .int .i64 node] w fun e w' => e = .returned (.func (.func 120) #[] #[.pointer (some ⟨w.heap.size, 0, none⟩), .pointer (some ⟨w.heap.size + 1, 0, none⟩)]) ∧
      w' = (w.alloc (.cells #[.int .i64 m, .slice A nn c] 25)).alloc (.cells #[.int .i64 node] 3) := by
  go_enter Try.func107, Try.ntmps107
  go_wp2
  go_ret
  exact ⟨rfl, rfl⟩

end Go.Proofs.Ytaojognjkiifmab
