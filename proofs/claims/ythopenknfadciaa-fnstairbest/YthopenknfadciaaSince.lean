/-
  The first step from which on something holds: sort.Search, impl's stair.since.
-/
import Derived.Shelf.SlSorted.Search
import Derived.Shelf.Lay
import Derived.Ground.SlsoProg
import Derived.Test.YthopenknfadciaaStairOk
namespace Go.Proofs.Ythopenknfadciaa
open Go.Shelf Go.RowKit Go.Lib Go.Sort
def searchL_ren : Go.Shelf.Ren := ⟨fun | 16 => 68 | n => n, fun | 3 => 3 | 35 => 74 | 4 => 4 | 38 => 79 | n => n, fun | n => n⟩
theorem searchL : Go.Proofs.SlLaysO.n16 Try.prog searchL_ren := {
  mixed := by kernel_rfl
  f16 := Try.func68.trans (congrArg some (by kernel_rfl))
  t3 := Try.underlying3
  a3 := Try.isAgg3
  z3 := Try.sizeOf3
  v3 := Try.zeroValue3
  t4 := Try.underlying4
  a4 := Try.isAgg4
  z4 := Try.sizeOf4
  v4 := Try.zeroValue4
  t35 := Try.underlying74
  a35 := Try.isAgg74
  z35 := Try.sizeOf74
  v35 := Try.zeroValue74
  t38 := Try.underlying79
  a38 := Try.isAgg79
  z38 := Try.sizeOf79
  v38 := Try.zeroValue79 }

/-- What a function value says of a step, in every later world; it lays its own boxes alone. -/
def Says (g : Nat) (cb : Array Value) (p : StepD → Bool) (w : World) : Prop :=
  ∀ (W : World) (a : StepD), Past w W → Calls Try.prog g (#[.agg #[.int .i64 a.x0, .int .i64 a.x1]] ++ cb) W fun e w' => e = .returned (.bool (p a)) ∧ ∃ q os, w' = grow (W.drewN q) os

theorem past_grow (w : World) (q : Nat) (os : Array Obj) : Past w (grow (w.drewN q) os) := below_grown_sl w.heap.size w q os (Nat.le_refl _)

set_option maxRecDepth 100000 in
set_option maxHeartbeats 1000000 in
theorem since1_any (Bh Bs g : Nat) (cb : Array Value) (p : StepD → Bool) (A : Option Addr) (n c i : Nat) (a : StepD) (xs : List StepD) (W : World) (eg : ∀ args w, (callFunc g args).run Try.prog w = .ok (.enter g args) w) (hg : Says g cb p W)
    (hh : W.cell? ⟨Bh, 0, none⟩ = some (.func (.func g) #[] cb)) (hs : W.cell? ⟨Bs, 0, none⟩ = some (.slice A n c)) (hi : i < n) (ha : xs[i]? = some a) (hx : StepsAt W A xs) :
    Calls Try.prog 69 #[.int .i64 i, .pointer (some ⟨Bh, 0, none⟩), .pointer (some ⟨Bs, 0, none⟩)] W fun e w' => e = .returned (.bool (p a)) ∧ ∃ q os, w' = grow (W.drewN q) os := by
  obtain ⟨x0, x1⟩ := a
  obtain ⟨b, o, rfl, c0, c1⟩ := hx i _ ha
  have HG := Lib.hid hg
  clear hg ha hx
  have i0 : (0 : Int) ≤ (i : Int) := by omega
  have i1 : (i : Int) < (n : Int) := by omega
  go_enter Try.func69, Try.ntmps69
  go_wp2_with fail
  go_still_tail 5, (by kernel_rfl)
  change wpList _ _ _ _ _ W.drew
  go_wp2_with fail
  refine (HG.out _ ⟨x0, x1⟩ (Past.refl W).drew).mono ?_
  rintro e w1 ⟨rfl, q, os, rfl⟩
  go_wp2
  go_ret
  exact ⟨rfl, 1 + q, os, by rw [← World.drewN_drewN]⟩

set_option maxRecDepth 100000 in
set_option maxHeartbeats 1000000 in
theorem since_any (g : Nat) (cb : Array Value) (p : StepD → Bool) (A : Option Addr) (n c : Nat) (xs : List StepD) (w : World) (eg : ∀ args w, (callFunc g args).run Try.prog w = .ok (.enter g args) w) (hg : Says g cb p w) (hn : n ≤ 1048576) (hl : xs.length = n) (hx : StepsAt w A xs)
    (hm : ∀ (i j : Nat) (a b : StepD), i ≤ j → xs[i]? = some a → xs[j]? = some b → p a = true → p b = true) :
    Calls Try.prog 53 #[.slice A n c, .func (.func g) #[] cb] w fun e w' => e = .returned (.int .i64 (sinceN xs p)) ∧ Below w.heap.size w w' := by
  obtain ⟨W0, hW0⟩ : ∃ W0, W0 = (w.alloc (.cells #[.slice A n c] 51)).alloc (.cells #[.func (.func g) #[] cb] 56) := ⟨_, rfl⟩
  have hP : Past w W0 := by rw [hW0]; exact ((Past.refl w).alloc _).alloc _
  have hsize : W0.heap.size = w.heap.size + 1 + 1 := by rw [hW0]; simp
  have ca : W0.cell? ⟨w.heap.size, 0, none⟩ = some (.slice A n c) := by rw [hW0]; exact cell_alloc_sl _ (cell_new_sl w _ _)
  have cx : W0.cell? ⟨w.heap.size + 1, 0, none⟩ = some (.func (.func g) #[] cb) := by
    rw [hW0]
    have := cell_new_sl (w.alloc (.cells #[.slice A n c] 51)) (.func (.func g) #[] cb) 56
    rwa [World.size_alloc] at this
  have e1 : ∀ args w, (callFunc 69 args).run Try.prog w = .ok (.enter 69 args) w := enters_of Try.func69 (by kernel_rfl) rfl
  have hS := Any.sort_Search (P := Try.prog) searchL 69 #[.pointer (some ⟨w.heap.size + 1, 0, none⟩), .pointer (some ⟨w.heap.size, 0, none⟩)] n (fun i => p (stAt xs i)) W0 e1 (by omega)
    (fun m os i hi => by
      have ha : xs[i]? = some (stAt xs i) := by rw [List.getElem?_eq_getElem (by omega)]; simp [stAt, hl, hi]
      have hW := past_grow W0 m os
      exact since1_any (w.heap.size + 1) w.heap.size g cb p A n c i (stAt xs i) xs _ eg (fun W a h => hg W a (hP.trans (hW.trans h))) (cell_in hW cx) (cell_in hW ca) hi ha ((hx.below hP).below hW))
    (fun a b hab hb h => by
      have ha : xs[a]? = some (stAt xs a) := by rw [List.getElem?_eq_getElem (by omega)]; simp [stAt, hl, show a < n by omega]
      have hb' : xs[b]? = some (stAt xs b) := by rw [List.getElem?_eq_getElem (by omega)]; simp [stAt, hl, hb]
      exact hm a b _ _ hab ha hb' h)
  change Calls Try.prog 68 _ _ _ at hS
  have hcount : (List.range n).countP (fun i => !p (stAt xs i)) = sinceN xs p := by
    have e : xs = (List.range n).map (stAt xs) := by
      apply List.ext_getElem (by simp [hl])
      intro i h1 h2
      simp [stAt, h1]
    unfold sinceN
    conv => rhs; rw [e]
    rw [List.countP_map]
    rfl
  rw [hcount] at hS
  have HS := Lib.hid hS
  have HW0 := Lib.hid hW0
  clear hS hcount hm hg hx eg hl hW0
  generalize sinceN xs p = r at HS ⊢
  go_enter Try.func53, Try.ntmps53
  go_wp2_with fail
  rw [← HW0.out]
  refine HS.out.mono ?_
  rintro e w1 ⟨rfl, q, os, rfl⟩
  go_wp2
  go_ret
  exact ⟨rfl, hP.trans (past_grow W0 q os)⟩

end Go.Proofs.Ythopenknfadciaa
