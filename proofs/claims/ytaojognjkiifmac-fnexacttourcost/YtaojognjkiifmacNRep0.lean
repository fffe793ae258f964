/-
  slices.Repeat of one length: what it is told by. No condition.
-/
import Derived.BigRegion
import Derived.Deep.RegionLaw
import Derived.Lib.SlBuf
import Derived.Laws.CopyRow
import Derived.Laws.CopyOwn
import Derived.Test.YtaojognjkiifmacNMul
import Derived.Test.YtaojognjkiifmacNCh
namespace Go.Proofs.Ytaojognjkiifmac
open Go.RowKit

theorem infoLen : (Try.prog.info? 105).map (fun i => (i.zero, i.size, i.bytes)) = some (some (.agg #[.int .i64 0, .int .i64 0]), 2, 16) := by kernel_rfl
theorem makeLen (n : Nat) (hn : n ≤ 1048576) (u : World) : (Instr.makeSlice 69 (.int .i64 (n : Int)) (.int .i64 (n : Int))).run Try.prog u =
    .ok (.slice (some ⟨u.heap.size, 0, none⟩) n n) (u.alloc (.cells (madeCells #[.int .i64 0, .int .i64 0] (n * 2)) 105)) := by
  obtain ⟨i0, hi, hz0, hz1, hz2⟩ := info_parts infoLen
  have h := run_make (P := Try.prog) u 69 105 i0 _ Try.underlying69 hi hz0 .i64 .i64 (n : Int) (n : Int) (by omega) (Int.le_refl _) (by rw [hz2]; omega) (by omega)
  simpa [hz1, Value.cells] using h

theorem run_copyLen (u : World) (ty g o dLen dCap : Nat) (ad : Addr) (sLen sCap : Nat) (cur : Array Value) (cs : List Value) (hg : u.heap[g]? = some (.cells cur 105 (0, 0))) (hn : cs.length = Nat.min sLen dLen * 2)
    (hsrc : ∀ j v, cs[j]? = some v → u.cell? (ad.add j) = some v) (hfit : o + cs.length ≤ cur.size) (h1 : ∀ v ∈ cs, v.oneCell' = true) :
    (Builtin.copy_ #[69, 69] ty #[.slice (some ⟨g, o, none⟩) dLen dCap, .slice (some ad) sLen sCap]).run Try.prog u = .ok (goInt (Nat.min sLen dLen)) (u.setRow g (cur.toList.take o ++ cs ++ cur.toList.drop (o + cs.length)).toArray) := by
  obtain ⟨i0, hi, hz0, hz1, hz2⟩ := info_parts infoLen
  have hl := run_loadCells_list (P := Try.prog) u ad cs hsrc
  have hst := run_storeCells_at (P := Try.prog) g o 105 cs 0 cur u hg (by simpa using hfit) h1
  simp only [Nat.add_zero] at hst
  simp [Builtin.copy_, run_underlying Try.underlying69, Builtin.lenOf, Builtin.firstCells, sizeOf, typeInfo, hi, hz1, ← hn, hl, hst]

theorem step_copy_run' {P : Program} {ops : Array Oper} {o : Oper} {a : Act} {w : World} {K : Act → World → Prop} {Q : Exit → Act → World → Prop} {E : Prop}
    (hg : o.guard = none) (d x : Operand) (dT sT : TypeId) (hop : o.op = Op.call { callee := Callee.builtin Builtin.copy, args := #[d, x], argTypes := #[dT, sT] })
    (v u : Value) (hd : a.eval d = v) (hx : a.eval x = u) {v' : Value} {w' : World} (hr : (Builtin.copy_ #[dT, sT] o.type #[v, u]).run P w = .ok v' w') (hK : K (a.put o.dst v') w') :
    if Region.wanted o (yielded ops a.tmps) = true then Oper.wp P o a w K Q else E := by
  have hw : Region.wanted o (yielded ops a.tmps) = true := by simp [Region.wanted, hg]
  rw [if_pos hw]
  exact Lib.wp_copy_run w d x dT sT hop v u hd hx hr hK

/-- The first j of n are x. -/
def repL (x : LenD) (n j : Nat) : List LenD := List.replicate j x ++ List.replicate (n - j) ⟨0, 0⟩
theorem repL_len (x : LenD) {n j : Nat} (h : j ≤ n) : (repL x n j).length = n := by simp [repL]; omega
theorem repL_made (x : LenD) (n : Nat) (hn : n ≤ 17) : madeCells #[.int .i64 0, .int .i64 0] (n * 2) = (cellsLen (repL x n 0)).toArray := by
  have h : n = 0 ∨ n = 1 ∨ n = 2 ∨ n = 3 ∨ n = 4 ∨ n = 5 ∨ n = 6 ∨ n = 7 ∨ n = 8 ∨ n = 9 ∨ n = 10 ∨ n = 11 ∨ n = 12 ∨ n = 13 ∨ n = 14 ∨ n = 15 ∨ n = 16 ∨ n = 17 := by omega
  rcases h with rfl | rfl | rfl | rfl | rfl | rfl | rfl | rfl | rfl | rfl | rfl | rfl | rfl | rfl | rfl | rfl | rfl | rfl
  all_goals (simp [madeCells, repL, cellsLen, Array.range, List.replicate]; try rfl)
theorem cellsLen_take (xs : List LenD) (k : Nat) : (cellsLen xs).take (k * 2) = cellsLen (xs.take k) := by
  have h := cellsLen_append (xs.take k) (xs.drop k)
  rw [List.take_append_drop] at h
  by_cases hk : k ≤ xs.length
  · have h2 : (cellsLen (xs.take k)).length = k * 2 := by rw [cellsLen_length, List.length_take]; omega
    rw [h, ← h2, List.take_left']
    rfl
  · rw [List.take_of_length_le (by rw [cellsLen_length]; omega), List.take_of_length_le (by omega)]
theorem cellsLen_drop (xs : List LenD) (k : Nat) : (cellsLen xs).drop (k * 2) = cellsLen (xs.drop k) := by
  have h := cellsLen_append (xs.take k) (xs.drop k)
  rw [List.take_append_drop] at h
  by_cases hk : k ≤ xs.length
  · have h2 : (cellsLen (xs.take k)).length = k * 2 := by rw [cellsLen_length, List.length_take]; omega
    rw [h, ← h2, List.drop_left']
    rfl
  · rw [List.drop_of_length_le (by rw [cellsLen_length]; omega), List.drop_of_length_le (by omega)]
    rfl
theorem repL_step (x : LenD) (n j m : Nat) : (cellsLen (repL x n j)).take (j * 2) ++ cellsLen (List.replicate m x) ++ (cellsLen (repL x n j)).drop (j * 2 + m * 2) = cellsLen (repL x n (j + m)) := by
  rw [show j * 2 + m * 2 = (j + m) * 2 by omega, cellsLen_take, cellsLen_drop, ← cellsLen_append, ← cellsLen_append]
  congr 1
  unfold repL
  rw [List.take_left' (by simp), List.drop_append, List.length_replicate, List.drop_of_length_le (by simp), List.nil_append, List.drop_replicate, show j + m - j = m by omega, show n - j - m = n - (j + m) by omega, List.replicate_append_replicate]

theorem copy_step (u w : World) (x : LenD) (n j m g sLen dLen : Nat) (ad : Addr) (hg : u.heap[g]? = some (.cells (cellsLen (repL x n j)).toArray 105 (0, 0))) (hb : Past w u) (hgw : w.heap.size ≤ g) (hjm : j + m ≤ n)
    (hsrc : ∀ i v, (cellsLen (List.replicate m x))[i]? = some v → u.cell? (ad.add i) = some v) (hmin : Nat.min sLen dLen = m) :
    ∃ u', (∀ ty dCap sCap, (Builtin.copy_ #[69, 69] ty #[.slice (some ⟨g, j * 2, none⟩) dLen dCap, .slice (some ad) sLen sCap]).run Try.prog u = .ok (.int .i64 (m : Int)) u') ∧ u'.heap[g]? = some (.cells (cellsLen (repL x n (j + m))).toArray 105 (0, 0)) ∧ Past w u' := by
  have hl : (cellsLen (List.replicate m x)).length = m * 2 := by rw [cellsLen_length, List.length_replicate]
  refine ⟨u.setRow g (cellsLen (repL x n (j + m))).toArray, fun ty dCap sCap => ?_, setRow_heap u g _ _ _ _ hg, below_setRow hb hgw _⟩
  have h := run_copyLen u ty g (j * 2) dLen dCap ad sLen sCap _ (cellsLen (List.replicate m x)) hg (by rw [hl, hmin]) hsrc (by have e := cellsLen_length (repL x n j); rw [repL_len x (by omega)] at e; rw [List.size_toArray, hl, e]; omega) (cellsLen_one _)
  rw [h, hmin]
  simp only []
  rw [hl, repL_step x n j m]
  rfl
theorem rep_src (u : World) (x : LenD) (n j m g : Nat) (hm : m ≤ j) (hg : u.heap[g]? = some (.cells (cellsLen (repL x n j)).toArray 105 (0, 0))) : ∀ i v, (cellsLen (List.replicate m x))[i]? = some v → u.cell? ((⟨g, 0, none⟩ : Addr).add i) = some v := fun i v hv => by
  rw [Addr.add_lit, Nat.zero_add, cell_of_row _ _ _ _ _ _ hg]
  have h1 : cellsLen (repL x n j) = cellsLen (List.replicate m x) ++ cellsLen (List.replicate (j - m) x ++ List.replicate (n - j) ⟨0, 0⟩) := by
    rw [← cellsLen_append, ← List.append_assoc, List.replicate_append_replicate, show m + (j - m) = j by omega]
    rfl
  have hlt := (List.getElem?_eq_some_iff.1 hv).1
  rw [List.getElem?_toArray, h1, List.getElem?_append_left hlt]
  exact hv

/-- Behind Repeat. -/
def Repeated (w : World) (x : LenD) (n : Nat) (e : Ending) (w' : World) : Prop :=
  e = .returned (.slice (some ⟨w.heap.size, 0, none⟩) n n) ∧ w'.heap[w.heap.size]? = some (.cells (cellsLen (List.replicate n x)).toArray 105 (0, 0)) ∧ Past w w'

end Go.Proofs.Ytaojognjkiifmac
