/-
  Two stairs that are drawn of bytes: DrawStairLink.
-/
import Derived.Test.YthopenknfadciaaDrawStair
namespace Go.Proofs.Ythopenknfadciaa
open Go.Shelf Go.RowKit Go.Lib Go.Sort

/-- Two stairs were drawn. -/
def DrawTwoG (w : World) (e : Ending) (w' : World) : Prop :=
  ∃ v zs v2 ys, e = .returned (.tuple #[v, v2]) ∧ zs.length ≤ 201 ∧ ys.length ≤ 201 ∧ ResStep w' w.heap.size v zs ∧ ResStep w' w.heap.size v2 ys ∧ v ≠ .slice none 0 0 ∧ v2 ≠ .slice none 0 0 ∧ Past w w'

theorem ResStep.some_ {w : World} {lo : Nat} {v : Value} {zs : List StepD} (h : ResStep w lo v zs) (hne : v ≠ .slice none 0 0) : ∃ ad c, v = .slice (some ad) zs.length c ∧ StepsAt w (some ad) zs := by
  obtain ⟨A, c, rfl, hx, _⟩ := h.form
  cases A with
  | some ad => exact ⟨ad, c, rfl, hx⟩
  | none =>
    exfalso
    rcases h.2 with ⟨e, h0⟩ | ⟨g, cap, cur, e, _⟩
    · exact hne e
    · cases e

set_option maxHeartbeats 1000000 in
theorem drawStairLink_any (A : Option Addr) (n c : Nat) (w : World) (hn : n ≤ c) (hc : c ≤ maxLen) (hb : BytesAt w A n) :
    Calls Try.prog 61 #[.slice A n c] w (DrawTwoG w) := by
  go_enter Try.func61, Try.ntmps61
  go_wp2_with fail
  refine (open_any A n c _ hn hc hb).mono ?_
  rintro e w1 ⟨R, n', c', rfl, hR, hrd, hb1⟩
  have hF : RdF w1 R _ A n' c' (44 + 44) := ⟨0, by omega, hrd⟩
  have hR1 := hF.at_
  have hs1 := hb1.size
  clear hrd
  go_wp2_with fail
  refine (l30AnyStair_any R _ A n' c' 44 w1 hF).mono ?_
  rintro e w2 ⟨v, zs, rfl, hzl, hv, hr2, hg2, hne⟩
  have HNE := Lib.hid hne
  have hp2 := past_grown hb1 hg2 hR
  clear hne
  go_wp2_with fail
  refine (l30AnyStair_any R _ A n' c' 0 w2 hr2).mono ?_
  rintro e w3 ⟨v3, ys, rfl, hyl, hv3, hr3, hg3, hne3⟩
  have HNE3 := Lib.hid hne3
  have hp3 := past_grown hp2 hg3 hR
  have hs2 := hp2.size
  clear hne3
  go_wp2
  go_ret2
  exact ⟨_, zs, _, ys, rfl, hzl, hyl, (hv.young hg3 hR1).lower hs1, hv3.lower hs2, HNE.out, HNE3.out, hp3⟩


end Go.Proofs.Ythopenknfadciaa
