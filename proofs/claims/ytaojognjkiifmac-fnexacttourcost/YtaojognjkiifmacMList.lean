/-
  Whether numbers are nodes of a net: spec.l11Nodes, impl.listOk. No condition.
-/
import Derived.Test.YtaojognjkiifmacNCosts
import Derived.Test.YtaojognjkiifmacPMany
namespace Go.Proofs.Ytaojognjkiifmac
open Go.RowKit

theorem all_next {f : Int → Bool} {ys : List Int} {k : Nat} {y : Int} (h : (ys.take k).all f = true) (hy : ys[k]? = some y) (hf : f y = true) : (ys.take (k + 1)).all f = true := by
  rw [List.take_add_one, List.all_append, h, hy]
  simp [hf]
theorem all_bad {f : Int → Bool} {ys : List Int} {k : Nat} {y : Int} (hy : ys[k]? = some y) (hf : f y = false) : ys.all f = false := by
  rw [List.all_eq_false]
  exact ⟨y, List.mem_of_getElem? hy, by rw [hf]; simp⟩
theorem ally_done {f : Int → Bool} {ys : List Int} {k : Nat} (h : (ys.take k).all f = true) (hk : ys.length = k) : ys.all f = true := by
  rw [List.take_of_length_le (by omega)] at h
  exact h

set_option maxRecDepth 100000 in
set_option maxHeartbeats 1000000 in
theorem listOk_any (m : Int) (A : Option Addr) (n c : Nat) (xs : List ArcD) (B : Option Addr) (l cb : Nat) (ys : List Int) (w : World) (hn : n ≤ 1048576) (hnx : xs.length = n) (hx : ArcsAt w A xs) (hl : l ≤ 1048576) (hly : ys.length = l) (hy : IntsAt w B ys) :
    Calls Try.prog 93 #[.agg #[.int .i64 m, .slice A n c], .slice B l cb] w fun e w' => e = .returned (.bool (listB m xs ys)) ∧ Below w.heap.size w w' := by
  have HX := Lib.hid hnx
  have HL := Lib.hid hly
  clear hnx hly
  have hb0 : Past w (w.alloc (.cells #[.int .i64 m, .slice A n c] 30)) := (Past.refl _).alloc _
  by_cases h8 : l ≤ 8
  · have h8' : (l : Int) ≤ 8 := by omega
    go_enter Try.func93, Try.ntmps93
    go_wp2_with fail
    refine (netHas_any m A n c xs B l cb ys _ hn HX.out (hx.below hb0) hl HL.out (hy.below hb0)).mono ?_
    rintro e w1 ⟨rfl, hb1⟩
    go_wp2
    go_ret
    exact ⟨ret_bool (by rw [listB, HL.out, decide_eq_true h8, Bool.true_and]), hb0.trans hb1⟩
  · have h8' : ¬ (l : Int) ≤ 8 := by omega
    go_enter Try.func93, Try.ntmps93
    go_wp2
    go_ret
    exact ⟨ret_bool (by rw [listB, HL.out, decide_eq_false h8]; simp), hb0⟩

end Go.Proofs.Ytaojognjkiifmac
