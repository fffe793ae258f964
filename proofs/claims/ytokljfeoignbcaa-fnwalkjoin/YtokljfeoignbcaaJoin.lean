/-
  Two walks, one behind the other: slices.Grow of nil, slices.Concat of two slices, spec.WalkJoin, impl.WalkJoin.
-/
import Derived.Test.YtokljfeoignbcaaCost
import Derived.Test.YtokljfeoignbcaaResI
import Derived.Test.YtokljfeoignbcaaInfoI
import Derived.Lib.AppendZerosOnto
namespace Go.Proofs.Ytokljfeoignbcaa
open Go.RowKit

/-- An empty slice of the call's own is handed back. -/
def GivesRoom (w : World) (e : Ending) (w' : World) : Prop := ∃ v, e = .returned v ∧ Res w' w.heap.size v [] ∧ Below w.heap.size w w'

set_option maxRecDepth 100000 in
set_option maxHeartbeats 1000000 in
theorem grow_nil (n : Nat) (w : World) (hn : n ≤ 4194304) :
    Calls Try.prog 89 #[.slice none 0 0, .int .i64 (n : Int)] w (GivesRoom w) := by
  obtain ⟨i0, hi, hz0, hz1, hz2⟩ := info_parts infoInt
  by_cases h0 : n = 0
  · subst h0
    go_enter Try.func89, Try.ntmps89
    go_wp2
    go_ret
    exact ⟨_, rfl, Res.nil _ _, Below.refl _ _⟩
  have hold : (Builtin.firstCells i0.size 0 (.slice none 0 0)).run Try.prog w.drew = .ok ([] : List Value).toArray w.drew := by simp [Builtin.firstCells]
  have hcap : Builtin.nextslicecap (0 + n) 0 * i0.bytes ≤ 281474976710656 := by
    rw [hz2]
    have : Builtin.nextslicecap (0 + n) 0 = n := by simp [Builtin.nextslicecap]; omega
    rw [this]
    omega
  have hrz : ∀ ty, (Builtin.append_ #[26, 3] ty #[.slice none 0 0, .int .i64 (n : Int)]).run Try.prog w = _ := fun ty => Lib.run_append_grow_zeros w 26 3 ty 3 i0 (.int .i64 0) .i64 .i64 Try.underlying26 Try.underlying3 hi hz0 none 0 0 [] hold n (by omega) (by omega) (by omega) (by omega) (by rw [hz2]; omega) hcap
  obtain ⟨G, hG⟩ : ∃ G, G = grownCap w (0 + n) 0 3 := ⟨_, rfl⟩
  have hGn : n ≤ G := by rw [hG]; have := grownCap_ge w (0 + n) 0 3; omega
  have hG63 : G ≤ maxLen := by rw [hG]; exact grownCap_le_maxLen w (0 + n) 0 3 (by unfold maxLen; omega)
  have hrz' : ∀ ty, (Builtin.append_ #[26, 3] ty #[.slice none 0 0, .int .i64 (n : Int)]).run Try.prog w =
      .ok (.slice (some ⟨w.heap.size, 0, none⟩) n G) (w.drew.alloc (.cells (#[] ++ Builtin.zeroCells #[.int .i64 0] n ++ Builtin.zeroCells #[.int .i64 0] (G - n)) 3)) := fun ty => by
    have := hrz ty
    rw [← hG] at this
    simpa [Value.cells] using this
  obtain ⟨cs, hcs⟩ : ∃ cs, cs = (#[] ++ Builtin.zeroCells #[.int .i64 0] n ++ Builtin.zeroCells #[.int .i64 0] (G - n) : Array Value) := ⟨_, rfl⟩
  have hsz : cs.size = G := by rw [hcs]; simp [size_zeroCells]; omega
  rw [← hcs] at hrz'
  have HR := Lib.hid hrz'
  unfold maxLen at hG63
  clear hG hcs hrz hold hcap hrz'
  go_enter Try.func89, Try.ntmps89
  go_wp2_with (at_builtin; refine Lib.wpList_append_run _ rfl _ _ _ _ rfl _ _ rfl rfl _ _ (HR.out _) ?_)
  go_ret
  refine ⟨_, rfl, ?_, ((Past.refl w).alloc (.cells cs 3)).drew⟩
  exact World.ownsRow_made (e := 3) (size := 1) w cs G (Nat.le_refl _) (by unfold maxLen; omega) (by omega)

theorem ints_cells {w : World} {g o : Nat} {zs : List Int} (h : IntsAt w (some ⟨g, o, none⟩) zs) : ∀ j u, (ints zs)[j]? = some u → w.cell? ((⟨g, o, none⟩ : Addr).add j) = some u := fun j u hu => by
  simp only [ints, List.getElem?_map] at hu
  cases hz : zs[j]? with
  | none => rw [hz] at hu; cases hu
  | some x =>
    rw [hz] at hu
    injection hu with hu
    subst hu
    obtain ⟨g', o', e, hc⟩ := h j x hz
    injection e with e
    injection e with e1 e2
    subst e1 e2
    rw [Addr.add_lit]
    exact hc
theorem ints_one (zs : List Int) : ∀ u ∈ ints zs, u.oneCell' = true := fun u hu => by
  simp only [ints, List.mem_map] at hu
  obtain ⟨x, _, rfl⟩ := hu
  rfl
theorem ints_length (zs : List Int) : (ints zs).length = zs.length := by simp [ints]

/-- What the first k of two lists are together. -/
def joinTo (za zb : List Int) : Nat → List Int
  | 0 => []
  | 1 => za
  | _ => za ++ zb

set_option maxRecDepth 100000 in
set_option maxHeartbeats 1000000 in
theorem concat_any (g ga oa gb ob la ca lb cb : Nat) (za zb : List Int) (w : World) (hla : la ≤ 1048576) (hlb : lb ≤ 1048576) (ha : za.length = la) (hb : zb.length = lb)
    (hx : IntsAt w (some ⟨ga, oa, none⟩) za) (hy : IntsAt w (some ⟨gb, ob, none⟩) zb) (h0 : w.cell? ⟨g, 0, none⟩ = some (.slice (some ⟨ga, oa, none⟩) la ca)) (h1 : w.cell? ⟨g, 1, none⟩ = some (.slice (some ⟨gb, ob, none⟩) lb cb)) :
    Calls Try.prog 70 #[.slice (some ⟨g, 0, none⟩) 2 2] w (Gives w (za ++ zb)) := by
  have HA := Lib.hid ha
  have HB := Lib.hid hb
  clear ha hb
  obtain ⟨i0, hi, hz0, hz1, hz2⟩ := info_parts infoInt
  go_enter Try.func70, Try.ntmps70
  go_wp2
  go_loop [3, 11] (fun s q => (s = .int .i64 0 ∧ q = .int .i64 0) ∨ (s = .int .i64 (la : Int) ∧ q = .int .i64 1) ∨ (s = .int .i64 ((la : Int) + (lb : Int)) ∧ q = .int .i64 2)) (fun _ q => 2 - (intOf q).toNat)
  case atStart => exact .inl ⟨rfl, rfl⟩
  case round =>
    rcases hrel with ⟨rfl, rfl⟩ | ⟨rfl, rfl⟩ | ⟨rfl, rfl⟩
    · have hp : ¬ ((la : Int) < 0) := by omega
      go_wp2
      go_round
      case rel => exact .inr (.inl ⟨by go_num, by go_num⟩)
      case measure => simp [intOf]
    · have hp : ¬ ((la : Int) + (lb : Int) < 0) := by omega
      go_wp2
      go_round
      case rel => exact .inr (.inr ⟨by go_num, by go_num⟩)
      case measure => simp [intOf]
    · go_wp2_with fail
      have hgr := grow_nil (la + lb) w (by omega)
      rw [show ((la + lb : Nat) : Int) = (la : Int) + (lb : Int) by omega] at hgr
      refine hgr.mono ?_
      clear hgr
      rintro e w1 ⟨v1, rfl, hv1, hb1⟩
      have hw1 := hb1.size
      go_wp2
      go_loopw [6, 27] (fun v q wr => ∃ k : Nat, k ≤ 2 ∧ q = .int .i64 k ∧ Res wr w.heap.size v (joinTo za zb k) ∧ Past w wr) (fun _ q _ => 2 - (intOf q).toNat)
      case atStart => exact ⟨0, by omega, rfl, hv1, hb1⟩
      case round =>
        obtain ⟨k, hk, rfl, hv, hb⟩ := hrel
        have h0' := cell_in hb h0
        have h1' := cell_in hb h1
        have hws := hb.size
        unfold Res at hv
        match k, hk with
        | 0, _ =>
          simp only [joinTo, List.length_nil] at hv
          have HC := Lib.hid (ints_cells (hx.below hb))
          go_wp2_with (first | (at_builtin; refine wpList_append_own _ rfl _ _ 26 rfl w.heap.size 3 i0 (.int .i64 0) 1 8 Try.underlying26 hi hz0 hz1 hz2 rfl (by decide) _ _ _ rfl hv ⟨ga, oa, none⟩ la ca (ints za) rfl (by rw [ints_length, HA.out, Nat.mul_one]) HC.out (ints_one za) (by unfold maxLen; omega) (by omega) (by omega) ?_; intro v' w3 hown' hgrow3 hnil3))
          go_roundw
          case rel => exact ⟨1, by omega, by go_num, by unfold Res; simp only [joinTo]; rw [HA.out]; simpa [ints] using hown', Past.grown hb hv hgrow3 (Nat.le_refl _)⟩
          case measure => simp [intOf]
        | 1, _ =>
          simp only [joinTo] at hv
          rw [HA.out] at hv
          have HC := Lib.hid (ints_cells (hy.below hb))
          go_wp2_with (first | (at_builtin; refine wpList_append_own _ rfl _ _ 26 rfl w.heap.size 3 i0 (.int .i64 0) 1 8 Try.underlying26 hi hz0 hz1 hz2 rfl (by decide) _ _ _ rfl hv ⟨gb, ob, none⟩ lb cb (ints zb) rfl (by rw [ints_length, HB.out, Nat.mul_one]) HC.out (ints_one zb) (by unfold maxLen; omega) (by omega) (by omega) ?_; intro v' w3 hown' hgrow3 hnil3))
          go_roundw
          case rel => exact ⟨2, by omega, by go_num, by unfold Res; simp only [joinTo]; rw [List.length_append, HA.out, HB.out, ints_append]; exact hown', Past.grown hb hv hgrow3 (Nat.le_refl _)⟩
          case measure => simp [intOf]
        | 2, _ =>
          go_wp2
          go_ret
          exact ⟨_, rfl, hv, hb⟩

end Go.Proofs.Ytokljfeoignbcaa
