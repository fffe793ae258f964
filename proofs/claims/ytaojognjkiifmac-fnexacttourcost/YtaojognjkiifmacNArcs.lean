/-
  arcsFrom as an iterator whose rounds may write whatever it does not read. No condition.
-/
import Derived.Test.YtaojognjkiifmacOut
import Derived.Test.YtaojognjkiifmacNCh
namespace Go.Proofs.Ytaojognjkiifmac
open Go.RowKit Go.Shelf

attribute [local go_sem] Oper.semAt_some

theorem ArcsAt.underN {wE w w' : World} {A : Option Addr} {xs : List ArcD} {lo : Nat} (hE : ArcsAt wE A xs) (h : ArcsAt w A xs) (hb : Below lo w w') (hle : wE.heap.size ≤ lo) : ArcsAt w' A xs := fun k x hk => by
  obtain ⟨b, o, rfl, hc⟩ := hE k x hk
  obtain ⟨b', o', e, hc'⟩ := h k x hk
  have hb' := hc.lt
  injection e with e
  injection e with e1 e2
  subst e1 e2
  exact ⟨b, o, rfl, hc'.keep (hb.block b (by omega))⟩

/-- What the iterator reads is kept. -/
def KArcs (n₀ Bn Bd : Nat) (W W' : World) : Prop := Below n₀ W W' ∧ W'.heap[Bn]? = W.heap[Bn]? ∧ W'.heap[Bd]? = W.heap[Bd]?
theorem KArcs.trans {n₀ Bn Bd : Nat} {A B C : World} (h : KArcs n₀ Bn Bd A B) (k : KArcs n₀ Bn Bd B C) : KArcs n₀ Bn Bd A C := ⟨h.1.trans k.1, k.2.1.trans h.2.1, k.2.2.trans h.2.2⟩

/-- What the iterator reads. -/
structure ArcsC (Bn Bd : Nat) (m node : Int) (A : Option Addr) (nn c : Nat) (xs : List ArcD) (w : World) : Prop where
  b0 : w.cell? ⟨Bn, 0, none⟩ = some (.int .i64 m)
  b1 : w.cell? ⟨Bn, 1, none⟩ = some (.slice A nn c)
  d0 : w.cell? ⟨Bd, 0, none⟩ = some (.int .i64 node)
  arcs : ArcsAt w A xs
theorem ArcsC.past {Bn Bd : Nat} {m node : Int} {A : Option Addr} {nn c : Nat} {xs : List ArcD} {w w' : World} (h : ArcsC Bn Bd m node A nn c xs w) (hb : Past w w') : ArcsC Bn Bd m node A nn c xs w' := ⟨cell_in hb h.b0, cell_in hb h.b1, cell_in hb h.d0, h.arcs.below hb⟩
theorem ArcsC.keep {Bn Bd n₀ : Nat} {m node : Int} {A : Option Addr} {nn c : Nat} {xs : List ArcD} {w w' wE : World} (h : ArcsC Bn Bd m node A nn c xs w) (hE : ArcsAt wE A xs) (hn : wE.heap.size ≤ n₀) (k : KArcs n₀ Bn Bd w w') : ArcsC Bn Bd m node A nn c xs w' :=
  ⟨(World.cell?_of_block (a := ⟨Bn, 0, none⟩) k.2.1).trans h.b0, (World.cell?_of_block (a := ⟨Bn, 1, none⟩) k.2.1).trans h.b1, (World.cell?_of_block (a := ⟨Bd, 0, none⟩) k.2.2).trans h.d0, hE.underN h.arcs k.1 hn⟩

/-- The number of an arc that begins at a node. -/
def HitP (xs : List ArcD) (node : Int) (x : Int) : Prop := ∃ (k : Nat) (a : ArcD), x = (k : Int) ∧ xs[k]? = some a ∧ a.f = node
abbrev Hit (xs : List ArcD) (node : Int) := { x : Int // HitP xs node x }
def nums {xs : List ArcD} {node : Int} (p : List (Hit xs node)) : List Int := p.map Subtype.val
theorem nums_snoc {xs : List ArcD} {node : Int} (p : List (Hit xs node)) (x : Hit xs node) : nums (p ++ [x]) = nums p ++ [x.1] := by simp [nums]
theorem nums_length {xs : List ArcD} {node : Int} (p : List (Hit xs node)) : (nums p).length = p.length := by simp [nums]
/-- All arcs that begin at the node have come. -/
theorem outTo_all (xs : List ArcD) (node : Int) : ∀ n k a, k < n → xs[k]? = some a → a.f = node → (k : Int) ∈ outTo xs node n
  | 0, k, a, h, _, _ => absurd h (by omega)
  | n + 1, k, a, h, ha, hf => by
    rcases Nat.lt_or_ge k n with hlt | hge
    · have := outTo_all xs node n k a hlt ha hf
      unfold outTo
      split
      · exact List.mem_append_left _ this
      · exact this
    · obtain rfl : k = n := by omega
      rw [outTo_hit ha (by simpa using hf)]
      exact List.mem_append_right _ (by simp)

set_option maxRecDepth 100000 in
set_option maxHeartbeats 2000000 in
theorem arcsK_in (F : Fence) (n : Nat) (hF : F.fn 110) (hro : F.round = none) (hn : 1 ≤ n) (l Bn Bd n₀ : Nat) (m node : Int) (A : Option Addr) (nn c : Nat) (xs : List ArcD) (hnx : xs.length = nn) (hnn : nn ≤ 1048576) (wE : World) (hE : ArcsAt wE A xs) (hn0 : wE.heap.size ≤ n₀)
    (W : World) (hb0 : W.cell? ⟨Bn, 0, none⟩ = some (.int .i64 m)) (hb1 : W.cell? ⟨Bn, 1, none⟩ = some (.slice A nn c)) (hbd : W.cell? ⟨Bd, 0, none⟩ = some (.int .i64 node)) (hx : ArcsAt W A xs) (J Jx : List (Hit xs node) → World → Prop)
    (hJ : AbidesFrom W.heap.size J)
    (hY : ∀ pre (x : Hit xs node) W, J pre W → pre.length < nn → YieldAt F (n - 1) Try.prog l #[.int .i64 x.1] W fun e W' =>
      (e = .returned (.bool true) ∧ J (pre ++ [x]) W' ∧ KArcs n₀ Bn Bd W W') ∨ (e = .returned (.bool false) ∧ Jx (pre ++ [x]) W'))
    (h0 : J [] W) :
    CallsIn F n Try.prog 110 #[.func (.yield l) #[] #[], .pointer (some ⟨Bn, 0, none⟩), .pointer (some ⟨Bd, 0, none⟩)] W fun e W' => (∃ v, e = .returned v) ∧
      ((∃ ys : List (Hit xs node), nums ys = outTo xs node nn ∧ J ys W') ∨ (∃ pre : List (Hit xs node), nums pre <+: outTo xs node nn ∧ Jx pre W')) := by
  have HX := Lib.hid hnx
  clear hnx
  have b0 := hb0
  have b1 := hb1
  refine callsIn_of_wp Try.func110 rfl hF ?_ hro
  simp only [Try.ntmps110, List.size_toArray, List.length_cons, List.length_nil, Nat.reduceAdd, Nat.reduceSub, Array.replicate_succ, Array.replicate_zero, List.push_toArray, List.append_toArray, List.nil_append, List.cons_append]
  gi_wp2
  gi_loopw [9] (fun i wr => ∃ (k : Nat) (p : List (Hit xs node)), k ≤ nn ∧ i = .int .i64 k ∧ nums p = outTo xs node k ∧ J p wr ∧ ArcsC Bn Bd m node A nn c xs wr) (fun i _ => nn - (intOf i).toNat)
  case atStart => exact ⟨0, [], Nat.zero_le _, rfl, rfl, h0, ⟨hb0, hb1, hbd, hx⟩⟩
  case round =>
    obtain ⟨k, p, hk, rfl, hp, hJs, hnx⟩ := hrel
    have HP := Lib.hid hp
    have hpl : p.length ≤ k := by rw [← nums_length, hp]; exact outTo_len xs node k
    clear hp
    have bd := hnx.d0
    by_cases hlt : k < nn
    · obtain ⟨⟨f, t, c', l', d⟩, ha⟩ : ∃ a, xs[k]? = some a := ⟨_, List.getElem?_eq_getElem (by have := HX.out; omega)⟩
      obtain ⟨g, o, rfl, c0, c1, c2, c3, c4⟩ := hnx.arcs k _ ha
      have HA := Lib.hid ha
      clear ha
      have hJa : J p (wr.alloc (.cells #[.int .i64 f, .int .i64 t, .int .i64 c', .int .i64 l', .int .i64 d] 88)) := hJ _ wr _ none hJs (World.grownBy_alloc _ _ _) (fun r e => by cases e)
      have hpa : Past wr (wr.alloc (.cells #[.int .i64 f, .int .i64 t, .int .i64 c', .int .i64 l', .int .i64 d] 88)) := (Past.refl wr).alloc _
      have bd' := cell_in hpa bd
      cases hB : (f == node) with
      | true =>
        have HB := Lib.hid hB
        have HT := Lib.hid (outTo_hit HA.out HB.out)
        obtain ⟨fn, tmps, assign, body, hy, hR⟩ := hY p ⟨(k : Int), k, _, rfl, HA.out, by simpa using HB.out⟩ _ hJa (by omega)
        dsimp only at hy
        gi_wp2
        refine hR.mono ?_
        rintro e W3 (⟨rfl, hJ3, hk3⟩ | ⟨rfl, hJx3⟩)
        · gi_wp2
          go_roundw
          case rel => exact ⟨k + 1, _, by omega, by go_num, by rw [HT.out, nums_snoc, HP.out], hJ3, (hnx.past hpa).keep hE hn0 hk3⟩
          case measure => simp [intOf]; omega
        · gi_wp2
          refine bodyPost_ret (results_none rfl _ _ _) rfl ?_
          exact ⟨⟨_, rfl⟩, .inr ⟨_, by rw [nums_snoc, HP.out, ← HT.out]; exact outTo_pre xs node hlt, hJx3⟩⟩
      | false =>
        have HB := Lib.hid hB
        have HT := Lib.hid (outTo_miss HA.out HB.out)
        gi_wp2
        refine ⟨fun _ h => (by cases h), ?_⟩
        gi_wp2
        go_roundw
        case rel => exact ⟨k + 1, p, by omega, by go_num, by rw [HT.out, HP.out], hJa, hnx.past hpa⟩
        case measure => simp [intOf]; omega
    · obtain rfl : k = nn := by omega
      gi_wp2
      go_end0
      exact ⟨⟨_, rfl⟩, .inl ⟨_, HP.out, hJs⟩⟩

theorem arcsK_stops (F : Fence) (n : Nat) (hF : F.fn 110) (hro : F.round = none) (hn : 1 ≤ n) (Bn Bd n₀ : Nat) (m node : Int) (A : Option Addr) (nn c : Nat) (xs : List ArcD) (hnx : xs.length = nn) (hnn : nn ≤ 1048576) (wE : World) (hE : ArcsAt wE A xs) (hn0 : wE.heap.size ≤ n₀) (w0 : World)
    (h : ArcsC Bn Bd m node A nn c xs w0) :
    SeqStopsK F n Try.prog 110 #[.pointer (some ⟨Bn, 0, none⟩), .pointer (some ⟨Bd, 0, none⟩)] (fun x : Hit xs node => #[Value.int .i64 x.1]) (KArcs n₀ Bn Bd) (fun ys => nums ys = outTo xs node nn) (fun pre => nums pre <+: outTo xs node nn) nn w0 := fun l J Jx W hW hJ _ hY h0 =>
  have hc := h.past hW
  arcsK_in F n hF hro hn l Bn Bd n₀ m node A nn c xs hnx hnn wE hE hn0 W hc.b0 hc.b1 hc.d0 hc.arcs J Jx hJ hY h0

end Go.Proofs.Ytaojognjkiifmac
