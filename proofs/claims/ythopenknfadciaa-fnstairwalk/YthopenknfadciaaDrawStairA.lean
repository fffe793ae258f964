/-
  Stairs and times that are drawn of bytes: DrawStairAt, DrawStairLast, DrawStairWalk.
-/
import Derived.Test.YthopenknfadciaaDrawStair
namespace Go.Proofs.Ythopenknfadciaa
open Go.Shelf Go.RowKit Go.Lib Go.Sort

/-- A stair and a time were drawn. -/
def DrawAtG (w : World) (e : Ending) (w' : World) : Prop :=
  ∃ v zs t, e = .returned (.tuple #[v, .int .i64 t]) ∧ zs.length ≤ 201 ∧ -1 ≤ t ∧ t ≤ 78 ∧ ResStep w' w.heap.size v zs ∧ Past w w'

set_option maxHeartbeats 1000000 in
theorem drawStairAt_any (A : Option Addr) (n c : Nat) (w : World) (hn : n ≤ c) (hc : c ≤ maxLen) (hb : BytesAt w A n) :
    Calls Try.prog 34 #[.slice A n c] w (DrawAtG w) := by
  go_enter Try.func34, Try.ntmps34
  go_wp2_with fail
  refine (open_any A n c _ hn hc hb).mono ?_
  rintro e w1 ⟨R, n', c', rfl, hR, hrd, hb1⟩
  have hF : RdF w1 R _ A n' c' (1 + 44) := ⟨0, by omega, hrd⟩
  have hR1 := hF.at_
  clear hrd
  go_wp2_with fail
  refine (l30AnyStair_any R _ A n' c' 1 w1 hF).mono ?_
  rintro e w2 ⟨v, zs, rfl, hzl, hv, hr2, hg2, _⟩
  have hp2 := past_grown hb1 hg2 hR
  go_wp2_with fail
  refine (pickF (f := 0) _ hr2).mono ?_
  rintro e w3 ⟨t, rfl, t0, t1, hr3, hg3⟩
  have hp3 := past_grown hp2 hg3 hR
  have hv3 := hv.young hg3 hR1
  have ht : t ≤ 79 := by omega
  have hs := hb1.size
  clear t1
  go_wp2
  go_ret2
  exact ⟨_, zs, t - 1, rfl, hzl, by omega, by omega, hv3.lower hs, hp3⟩

theorem drawStairLast_any (A : Option Addr) (n c : Nat) (w : World) (hn : n ≤ c) (hc : c ≤ maxLen) (hb : BytesAt w A n) :
    Calls Try.prog 35 #[.slice A n c] w (DrawAtG w) := by
  go_enter Try.func35, Try.ntmps35
  go_wp2_with fail
  refine (drawStairAt_any A n c w hn hc hb).mono ?_
  rintro e w1 ⟨v, zs, t, rfl, h1, h2, h3, h4, h5⟩
  go_wp2
  go_ret2
  exact ⟨v, zs, t, rfl, h1, h2, h3, h4, h5⟩

def DrawWalkG (w : World) (e : Ending) (w' : World) : Prop :=
  ∃ a b c : Int, e = .returned (.tuple #[.int .i64 a, .int .i64 b, .int .i64 c]) ∧ 0 ≤ a ∧ a ≤ 200 ∧ 0 ≤ b ∧ b ≤ 59 ∧ 0 ≤ c ∧ c ≤ 30 ∧ Past w w'

set_option maxRecDepth 100000 in
set_option maxHeartbeats 1000000 in
theorem drawStairWalk_any (A : Option Addr) (n c : Nat) (w : World) (hn : n ≤ c) (hc : c ≤ maxLen) (hb : BytesAt w A n) :
    Calls Try.prog 36 #[.slice A n c] w (DrawWalkG w) := by
  go_enter Try.func36, Try.ntmps36
  go_wp2_with fail
  refine (open_any A n c _ hn hc hb).mono ?_
  rintro e w1 ⟨R, n', c', rfl, hR, hrd, hb1⟩
  have hF : RdF w1 R _ A n' c' 3 := ⟨0, by omega, hrd⟩
  have hR1 := hF.at_
  clear hrd
  go_wp2_with fail
  refine (oneF (f := 2) [0, 5, 30, 199, 200] (hF.alloc _) rfl (by simp) (by simp) (ints_new w1 _ rfl _) (by omega)).mono ?_
  rintro e w2 ⟨x, rfl, hxm, hr2, hg2⟩
  have hx : 0 ≤ x ∧ x ≤ 200 := by simp at hxm; omega
  have hp2 := past_grown (Past.alloc hb1 _) hg2 hR
  clear hxm
  go_wp2_with fail
  refine (pickF (f := 1) _ hr2).mono ?_
  rintro e w3 ⟨y, rfl, y0, y1, hr3, hg3⟩
  have hy : y ≤ 59 := by omega
  have hp3 := past_grown hp2 hg3 hR
  clear y1
  go_wp2_with fail
  refine (oneF (f := 0) [1, 7, 30, 0] (hr3.alloc _) rfl (by simp) (by simp) (ints_new w3 _ rfl _) (by have := hr3.at_; omega)).mono ?_
  rintro e w4 ⟨z, rfl, hzm, hr4, hg4⟩
  have hz : 0 ≤ z ∧ z ≤ 30 := by simp at hzm; omega
  have hp4 := past_grown (Past.alloc hp3 _) hg4 hR
  clear hzm
  go_wp2
  go_ret3
  exact ⟨x, y, z, rfl, hx.1, hx.2, y0, hy, hz.1, hz.2, hp4⟩


end Go.Proofs.Ythopenknfadciaa
