/-
  The arcs that begin at a node: impl's arcsFrom (an iterator), slices.AppendSeq and slices.Collect over an iterator of numbers.
-/
import Derived.RangeFuncNested
import Derived.RangeFuncBound
import Derived.RangeFuncCalls
import Derived.RangeFuncLeaves
import Derived.RangeFuncBox
import Derived.Shelf.Abstract
import Derived.Shelf.RegionOpen
import Derived.WalkKit
import Derived.OwnWalkIn
import Derived.TacticsInMore
import Derived.LoopNIn
import Derived.LoopIn
import Derived.Maps.AppendAt
import Derived.Test.YtaojognjkiifmacOk
import Derived.Test.YtaojognjkiifmacResI
namespace Go.Proofs.Ytaojognjkiifmac
open Go.RowKit Go.Shelf

attribute [local go_sem] Oper.semAt_some

def hitB (xs : List ArcD) (node : Int) (k : Nat) : Bool := match xs[k]? with
  | some a => a.f == node
  | none => false
/-- The numbers below k of arcs that begin at a node. -/
def outTo (xs : List ArcD) (node : Int) : Nat → List Int
  | 0 => []
  | k + 1 => if hitB xs node k then outTo xs node k ++ [(k : Int)] else outTo xs node k

theorem outTo_len (xs : List ArcD) (node : Int) : ∀ k, (outTo xs node k).length ≤ k
  | 0 => Nat.le_refl _
  | k + 1 => by
    have := outTo_len xs node k
    unfold outTo
    split
    · simp; omega
    · omega
theorem outTo_hit {xs : List ArcD} {node : Int} {k : Nat} {a : ArcD} (h : xs[k]? = some a) (he : (a.f == node) = true) : outTo xs node (k + 1) = outTo xs node k ++ [(k : Int)] := by
  rw [outTo, if_pos (by simp [hitB, h]; simpa using he)]
theorem outTo_miss {xs : List ArcD} {node : Int} {k : Nat} {a : ArcD} (h : xs[k]? = some a) (he : (a.f == node) = false) : outTo xs node (k + 1) = outTo xs node k := by
  rw [outTo, if_neg (by simp [hitB, h]; simpa using he)]
theorem outTo_pre (xs : List ArcD) (node : Int) : ∀ {k n : Nat}, k ≤ n → outTo xs node k <+: outTo xs node n
  | k, 0, h => by obtain rfl : k = 0 := by omega
                  exact List.prefix_refl _
  | k, n + 1, h => by
    by_cases hk : k = n + 1
    · subst hk; exact List.prefix_refl _
    · have h1 := outTo_pre xs node (k := k) (n := n) (by omega)
      refine h1.trans ?_
      rw [outTo]
      split
      · exact List.prefix_append _ _
      · exact List.prefix_refl _

set_option maxRecDepth 100000 in
set_option maxHeartbeats 2000000 in
theorem arcs1_in (F : Fence) (n : Nat) (hF : F.fn 110) (hro : F.round = none) (hn : 1 ≤ n) (l Bn Bd : Nat) (m node : Int) (A : Option Addr) (nn c : Nat) (xs : List ArcD) (hnx : xs.length = nn) (hnn : nn ≤ 1048576) (w0 : World)
    (hb0 : w0.cell? ⟨Bn, 0, none⟩ = some (.int .i64 m)) (hb1 : w0.cell? ⟨Bn, 1, none⟩ = some (.slice A nn c)) (hbd : w0.cell? ⟨Bd, 0, none⟩ = some (.int .i64 node)) (hx : ArcsAt w0 A xs) (J Jx : List Int → World → Prop)
    (W : World) (hW : Past w0 W) (hJ : AbidesFrom W.heap.size J)
    (hY : ∀ pre x W, J pre W → pre.length < nn → YieldAt F (n - 1) Try.prog l #[.int .i64 x] W fun e W' =>
      (e = .returned (.bool true) ∧ J (pre ++ [x]) W' ∧ Below w0.heap.size W W') ∨ (e = .returned (.bool false) ∧ Jx (pre ++ [x]) W'))
    (h0 : J [] W) :
    CallsIn F n Try.prog 110 #[.func (.yield l) #[] #[], .pointer (some ⟨Bn, 0, none⟩), .pointer (some ⟨Bd, 0, none⟩)] W fun e W' => (∃ v, e = .returned v) ∧
      ((∃ ys, ys = outTo xs node nn ∧ J ys W') ∨ (∃ pre, pre <+: outTo xs node nn ∧ Jx pre W')) := by
  have HX := Lib.hid hnx
  clear hnx
  have b0 := cell_in hW hb0
  have b1 := cell_in hW hb1
  refine callsIn_of_wp Try.func110 rfl hF ?_ hro
  simp only [Try.ntmps110, List.size_toArray, List.length_cons, List.length_nil, Nat.reduceAdd, Nat.reduceSub, Array.replicate_succ, Array.replicate_zero, List.push_toArray, List.append_toArray, List.nil_append, List.cons_append]
  gi_wp2
  gi_loopw [9] (fun i wr => ∃ k : Nat, k ≤ nn ∧ i = .int .i64 k ∧ J (outTo xs node k) wr ∧ Past w0 wr) (fun i _ => nn - (intOf i).toNat)
  case atStart => exact ⟨0, Nat.zero_le _, rfl, h0, hW⟩
  case round =>
    obtain ⟨k, hk, rfl, hJs, hnx⟩ := hrel
    have bd := cell_in hnx hbd
    by_cases hlt : k < nn
    · obtain ⟨⟨f, t, c', l', d⟩, ha⟩ : ∃ a, xs[k]? = some a := ⟨_, List.getElem?_eq_getElem (by have := HX.out; omega)⟩
      obtain ⟨g, o, rfl, c0, c1, c2, c3, c4⟩ := (hx.below hnx) k _ ha
      have HA := Lib.hid ha
      clear ha
      have hJa : J (outTo xs node k) (wr.alloc (.cells #[.int .i64 f, .int .i64 t, .int .i64 c', .int .i64 l', .int .i64 d] 88)) := hJ _ wr _ none hJs (World.grownBy_alloc _ _ _) (fun r e => by cases e)
      have hpa : Past wr (wr.alloc (.cells #[.int .i64 f, .int .i64 t, .int .i64 c', .int .i64 l', .int .i64 d] 88)) := (Past.refl wr).alloc _
      have bd' := cell_in hpa bd
      cases hB : (f == node) with
      | true =>
        have HB := Lib.hid hB
        obtain ⟨fn, tmps, assign, body, hy, hR⟩ := hY _ (k : Int) _ hJa (by have := outTo_len xs node k; omega)
        have HT := Lib.hid (outTo_hit HA.out HB.out)
        gi_wp2
        refine hR.mono ?_
        rintro e W3 (⟨rfl, hJ3, hk3⟩ | ⟨rfl, hJx3⟩)
        · gi_wp2
          go_roundw
          case rel => exact ⟨k + 1, by omega, by go_num, by rw [HT.out]; exact hJ3, (hnx.trans hpa).belowTrans hk3⟩
          case measure => simp [intOf]; omega
        · gi_wp2
          refine bodyPost_ret (results_none rfl _ _ _) rfl ?_
          exact ⟨⟨_, rfl⟩, .inr ⟨_, by rw [← HT.out]; exact outTo_pre xs node hlt, hJx3⟩⟩
      | false =>
        have HB := Lib.hid hB
        have HT := Lib.hid (outTo_miss HA.out HB.out)
        gi_wp2
        refine ⟨fun _ h => (by cases h), ?_⟩
        gi_wp2
        go_roundw
        case rel => exact ⟨k + 1, by omega, by go_num, by rw [HT.out]; exact hJa, hnx.trans hpa⟩
        case measure => simp [intOf]; omega
    · obtain rfl : k = nn := by omega
      gi_wp2
      go_end0
      exact ⟨⟨_, rfl⟩, .inl ⟨_, rfl, hJs⟩⟩

theorem arcs_stops (F : Fence) (n : Nat) (hF : F.fn 110) (hro : F.round = none) (hn : 1 ≤ n) (Bn Bd : Nat) (m node : Int) (A : Option Addr) (nn c : Nat) (xs : List ArcD) (hnx : xs.length = nn) (hnn : nn ≤ 1048576) (w0 : World)
    (hb0 : w0.cell? ⟨Bn, 0, none⟩ = some (.int .i64 m)) (hb1 : w0.cell? ⟨Bn, 1, none⟩ = some (.slice A nn c)) (hbd : w0.cell? ⟨Bd, 0, none⟩ = some (.int .i64 node)) (hx : ArcsAt w0 A xs) :
    SeqStopsK F n Try.prog 110 #[.pointer (some ⟨Bn, 0, none⟩), .pointer (some ⟨Bd, 0, none⟩)] (fun x : Int => #[Value.int .i64 x]) (Below w0.heap.size) (fun ys => ys = outTo xs node nn) (fun pre => pre <+: outTo xs node nn) nn w0 := fun l J Jx W hW hJ _ hY h0 =>
  arcs1_in F n hF hro hn l Bn Bd m node A nn c xs hnx hnn w0 hb0 hb1 hbd hx J Jx W hW hJ hY h0

set_option maxRecDepth 100000 in
set_option maxHeartbeats 2000000 in
/-- slices.AppendSeq(nil, seq), seq handing out the numbers zs. -/
theorem appendSeq_in (F : Fence) (n : Nat) (hF : F.fn 112) (hro : F.round = none) (hn : 3 ≤ n) (gf : Nat) (lb : Array Value) (hg : F.fn gf) (eg : ∀ args w, (callFunc gf args).run Try.prog w = .ok (.enter gf args) w)
    (zs : List Int) (N : Nat) (hN : N ≤ 1048576) (w : World) (hseq : SeqStopsK F (n - 1) Try.prog gf lb (fun x : Int => #[Value.int .i64 x]) (Below w.heap.size) (fun ys => ys = zs) (fun pre => pre <+: zs) N w) :
    CallsIn F n Try.prog 112 #[.slice none 0 0, .func (.func gf) #[] lb] w (Gives w zs) := by
  have h1 : 1 ≤ n := by omega
  obtain ⟨i0, hi, hz0, hz1, hz2⟩ := info_parts infoInt
  refine callsIn_of_wp_marks Try.func112 rfl hF ?_ hro
  simp only [Try.ntmps112, List.size_toArray, List.length_cons, List.length_nil, Nat.reduceAdd, Nat.reduceSub, Array.replicate_succ, Array.replicate_zero, List.push_toArray, List.append_toArray, List.nil_append, List.cons_append]
  gi_wp2
  have bO := Boxed.new w 25 (.slice none 0 0)
  have hB0 : Below w.heap.size w (w.alloc (.cells #[.slice none 0 0] 25)) := (Below.refl _ w).alloc (Nat.le_refl _) _
  refine wpIn_rangeFunc_ownG hro h1 (gf := gf) (lb := lb) rfl hg eg hseq belowK_t (belowK_b (by simp)) hB0 (fun _ => rfl)
    (fun pre W => (∃ v, Boxed W w.heap.size 25 v ∧ W.ownsRow w.heap.size 3 1 v pre.length (ints pre) ∧ True) ∧ Below w.heap.size w W)
    (fun _ _ _ => False)
    (OwnFrom.and (Own.from (holdsRow_own w.heap.size w.heap.size 25 3 1 (fun pre => pre.length) (fun pre => ints pre) (fun _ _ => True)) _) (ownFrom_below (Nat.le_refl _) (by simp)))
    (fun _ _ _ _ _ hs _ _ => hs)
    ⟨⟨_, bO, World.ownsRow_nil _ _ _ _, trivial⟩, hB0⟩
    (fun x => { tmps := #[.slice none 0 0, .func (.func gf) #[] lb, .pointer (some ⟨w.heap.size, 0, none⟩), undef, .slice none 0 0, .int .i64 x, .func (.func gf) #[] lb, .int .i64 x, undef, undef, undef, undef, undef], defers := [] }) ?assign ?body ?done ?stop
  case assign =>
    intro l x W K hK
    gi_wp2
    exact hK
  case body =>
    rintro l pre x W ⟨⟨v, hv, hrow, _⟩, hB⟩ hlt
    have hc := hv.cell
    gi_wp2_with (gi_at_builtin; refine wpListIn_append_own _ rfl _ _ 25 rfl w.heap.size 3 i0 (.int .i64 0) 1 8 Try.underlying25 hi hz0 hz1 hz2 rfl (by decide) _ _ _ rfl (hrow.alloc _) ⟨W.heap.size, 0, none⟩ 1 1 [.int .i64 x] rfl rfl (cell_one_new _ _ _) (by simp [Value.oneCell']) (by unfold maxLen; omega) (by omega) (by have := hB.size; simp; omega) ?_; intro v' w1 hown' hgrow _; obtain ⟨g', cap', rfl⟩ := ownsRow_succ hown'; obtain ⟨hv1, hv2, hr2, hk2, hb2⟩ := hv.appended (by decide) hrow hB.size (Nat.le_refl _) hown' hgrow; have hc1 := hv1.cell; have hf1 := hv1.frozen)
    exact ⟨hk2.from _, hb2, ⟨_, hv2, by rw [List.length_append, ints_append]; simpa [ints] using hr2, trivial⟩, hB.trans hb2⟩
  case done =>
    rintro D ys W hD rfl ⟨⟨v, hv, hrow, _⟩, hB⟩ hK
    have hc := hv.cell
    gi_wp2
    refine ⟨by simp, .inl ⟨_, _, rfl, run_takeDeferred hK, ?_⟩⟩
    exact ⟨_, results_tmp rfl _ _ _, v, rfl, ownsRow_putObj hrow _ hK rfl, hB.trans (belowK_b (w := w) (Nat.le_refl _) W D _ _ (by simp at hD; omega) hK rfl rfl)⟩
  case stop =>
    rintro D c pre W _ _ h _
    exact h.elim

set_option maxHeartbeats 1000000 in
theorem arcsFrom_any (m node : Int) (A : Option Addr) (nn c : Nat) (w : World) :
    Calls Try.prog 90 #[.agg #[.int .i64 m, .slice A nn c], .int .i64 node] w fun e w' => e = .returned (.func (.func 110) #[] #[.pointer (some ⟨w.heap.size, 0, none⟩), .pointer (some ⟨w.heap.size + 1, 0, none⟩)]) ∧
      w' = (w.alloc (.cells #[.int .i64 m, .slice A nn c] 30)).alloc (.cells #[.int .i64 node] 3) := by
  go_enter Try.func90, Try.ntmps90
  go_wp2
  go_ret
  exact ⟨rfl, rfl⟩

set_option maxHeartbeats 1000000 in
/-- slices.Collect of the arcs from a node. -/
theorem collectArcs_any (Bn Bd : Nat) (m node : Int) (A : Option Addr) (nn c : Nat) (xs : List ArcD) (hnx : xs.length = nn) (hnn : nn ≤ 1048576) (w : World)
    (hb0 : w.cell? ⟨Bn, 0, none⟩ = some (.int .i64 m)) (hb1 : w.cell? ⟨Bn, 1, none⟩ = some (.slice A nn c)) (hbd : w.cell? ⟨Bd, 0, none⟩ = some (.int .i64 node)) (hx : ArcsAt w A xs) :
    Calls Try.prog 104 #[.func (.func 110) #[] #[.pointer (some ⟨Bn, 0, none⟩), .pointer (some ⟨Bd, 0, none⟩)]] w (Gives w (outTo xs node nn)) := by
  have hap := (callsIn_wide (n := 3)).1 (appendSeq_in Fence.wide 3 trivial rfl (by omega) 110 _ trivial (enters_of Try.func110 (by kernel_rfl) rfl) (outTo xs node nn) nn hnn w (arcs_stops Fence.wide 2 trivial rfl (by omega) Bn Bd m node A nn c xs hnx hnn w hb0 hb1 hbd hx))
  go_enter Try.func104, Try.ntmps104
  go_wp2_with fail
  refine hap.mono ?_
  rintro e w1 ⟨v, rfl, hv, hb⟩
  go_wp2
  go_ret
  exact ⟨v, rfl, hv, hb⟩

end Go.Proofs.Ytaojognjkiifmac
