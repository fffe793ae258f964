/-
  Steps that are drawn of bytes: DrawStairOf.
-/
import Derived.Test.YthopenknfadciaaDrawStair
namespace Go.Proofs.Ythopenknfadciaa
open Go.Shelf Go.RowKit Go.Lib Go.Sort

def DrawOfG (w : World) (e : Ending) (w' : World) : Prop := ∃ v zs, e = .returned v ∧ zs.length ≤ 22 ∧ ResStep w' w.heap.size v zs ∧ Past w w'

set_option maxRecDepth 100000 in
set_option maxHeartbeats 2000000 in
theorem drawStairOf_any (A : Option Addr) (n c : Nat) (w : World) (hn : n ≤ c) (hc : c ≤ maxLen) (hb : BytesAt w A n) :
    Calls Try.prog 38 #[.slice A n c] w (DrawOfG w) := by
  obtain ⟨i0, hi, hz0, hz1, hz2⟩ := info_parts infoStep
  go_enter Try.func38, Try.ntmps38
  go_wp2_with fail
  refine (open_any A n c _ hn hc hb).mono ?_
  rintro e w1 ⟨R, n', c', rfl, hR, hrd, hb1⟩
  have hF : RdF w1 R _ A n' c' 44 := ⟨0, by omega, hrd⟩
  have hR1 := hF.at_
  have hs1 := hb1.size
  clear hrd
  go_wp2_with fail
  refine (oneF (f := 43) [3, 8, 20] (hF.alloc _) rfl (by simp) (by simp) (ints_new w1 _ rfl _) (by omega)).mono ?_
  rintro e w2 ⟨x, rfl, hxm, hr2, hg2⟩
  have hx : 0 ≤ x ∧ x ≤ 20 := by simp at hxm; omega
  have hp2 := past_grown (Past.alloc hb1 _) hg2 hR
  have hR2 := hr2.at_
  clear hxm
  go_wp2_with fail
  refine (l30Steps_any R _ A n' c' 2 x w2 (hr2.less (by omega)) hx.1 hx.2).mono ?_
  rintro e w3 ⟨v, zs, rfl, hzl, _, hv, hr3, hg3⟩
  have hp3 := past_grown hp2 hg3 hR
  have hs2 := hp2.size
  go_wp2_with fail
  refine (pickF (f := 1) _ hr3).mono ?_
  rintro e w4 ⟨k, rfl, k0, k1, hr4, hg4⟩
  have hp4 := past_grown hp3 hg4 hR
  have hv4 := hv.young hg4 hR2
  by_cases hk : k = 0
  · have hk' : (k == 0) = true := by simp [hk]
    clear hk
    go_wp2_with fail
    refine (oneF (f := 0) [-1, 50] (hr4.alloc _) rfl (by simp) (by simp) (ints_new w4 _ rfl _) (by have := hr4.at_; omega)).mono ?_
    rintro e w5 ⟨y, rfl, hym, hr5, hg5⟩
    have hp5 := past_grown (Past.alloc hp4 _) hg5 hR
    have hv5 := (hv4.below ((Past.refl w4).alloc _)).young hg5 hR2
    have hs5 := hp5.size
    have hw2 : w2.heap.size ≤ w5.heap.size := by have := hg3.size; have := hg4.size; have := hg5.size; simp at this; omega
    obtain ⟨D, hD⟩ : ∃ D, D = zs.length := ⟨_, rfl⟩
    have hown : w5.ownsRow w2.heap.size 42 2 v D (cellsStep zs) := by have := hv5; unfold ResStep at this; rw [← hD] at this; exact this
    have HO := Lib.hid hown
    rw [← hD] at hzl
    have HD := Lib.hid hD
    clear hown hD hv hv4 hv5 hym
    go_wp2_with (first | (at_builtin; refine wpList_append_own _ rfl _ _ 25 rfl w2.heap.size 42 i0 _ 2 16 Try.underlying25 hi hz0 hz1 hz2 rfl (by decide) _ D _ rfl (HO.out.alloc _) ⟨w5.heap.size, 0, none⟩ 1 1 [.int .i64 y, .int .i64 40] rfl rfl (newStep w5 _ _ _) (cellsStep_one [⟨y, 40⟩]) (by unfold maxLen; omega) (by omega) (by simp; omega) ?_; intro v6 w6 hown' hgrow6 hnil6))
    go_ret
    refine ⟨_, zs ++ [⟨y, 40⟩], rfl, by rw [List.length_append, ← HD.out]; simp; omega, ?_, Past.grown (hp5.alloc _) (HO.out.alloc _) hgrow6 hs2⟩
    exact ResStep.lower (lo := w2.heap.size) (ResStep.push (a := ⟨y, 40⟩) (by rw [← HD.out]; exact hown')) hs2
  · have hk' : (k == 0) = false := by simpa using hk
    clear hk
    go_wp2
    go_ret
    exact ⟨_, zs, rfl, by omega, hv4.lower hs2, hp4⟩

end Go.Proofs.Ythopenknfadciaa
