/-
  FnMarkPick answers true at every input: each mark is another node than those ahead, and fewer marks are the first of more. No condition.
-/
import Derived.Test.YtgeoheeibebmcabDrawNetOut
import Derived.Test.YtgeoheeibebmcabPShare
import Derived.Test.YtgeoheeibebmcabPMark
import Derived.Test.YtgeoheeibebmcabNear
import Derived.Test.YtgeoheeibebmcabMList
import Derived.Test.YtgeoheeibebmcabNAll
import Derived.Deep.RegionWith
import Derived.Test.YtgeoheeibebmcabRInS
import Derived.Maps.AppendAt
import Derived.Test.YtgeoheeibebmcabNRepI
import Derived.Test.YtgeoheeibebmcabOwnL
import Derived.Test.YtgeoheeibebmcabResI
import Derived.Test.YtgeoheeibebmcabIn
import Derived.Test.YtgeoheeibebmcabOpenB
import Derived.Test.YtgeoheeibebmcabWkInts
import Derived.Test.YtgeoheeibebmcabQPast
namespace Go.Proofs.Ytgeoheeibebmcab
open Go.RowKit

/-- A net and a number that is not below zero were drawn. -/
def DrawCountG (w : World) (e : Ending) (w' : World) : Prop :=
  ∃ (m : Int) (B : Option Addr) (k cap : Nat) (xs : List ArcD) (z : Int), e = .returned (.tuple #[.agg #[.int .i64 m, .slice B k cap], .int .i64 z]) ∧ xs.length = k ∧ k ≤ 13 ∧ ArcsAt w' B xs ∧ ((B = none ∧ k = 0) ∨ ∃ g o, B = some ⟨g, o, none⟩) ∧ 0 ≤ z ∧ Below w.heap.size w w'

set_option maxRecDepth 100000 in
set_option maxHeartbeats 4000000 in
theorem drawMarkPick_any (A : Option Addr) (n c : Nat) (w : World) (hn : n ≤ c) (hc : c ≤ maxLen) (hb : BytesAt w A n) :
    Calls Try.prog 39 #[.slice A n c] w (DrawCountG w) := by
  have hpV : Past w (w.alloc (.cells #[.int .i64 0, .slice none 0 0] 25)) := (Past.refl w).alloc _
  go_enter Try.func39, Try.ntmps39
  go_wp2_with fail
  refine (open_any A n c _ hn hc (hb.below hpV)).mono ?_
  rintro e w1 ⟨R, n', c', rfl, hR, hrd, hb1⟩
  rw [World.size_alloc] at hR
  have hF : RdF w1 R _ A n' c' (26 + 83) := ⟨0, by omega, hrd⟩
  have r0 : RowN w1 w.heap.size 25 2 := by
    have r : RowN (w.alloc (.cells #[.int .i64 0, .slice none 0 0] 25)) w.heap.size 25 2 := ⟨_, heap_alloc_new w _, rfl⟩
    exact r.keep (hb1.block _ r.lt)
  have hp1 := hpV.trans hb1
  have hR1 := hF.at_
  clear hrd hb1 hpV
  go_wp2_with fail
  refine (l30AnyNet_any R _ A n' c' 26 w1 hF).mono ?_
  rintro e w2 ⟨m, B, k, cap, xs, rfl, hxk, hk, hxB, hoB, hr2, hg2⟩
  have hp2 : Past w w2 := Below.grown hp1 hg2 hp1.size (fun k e => by injection e with e; omega)
  have r2 := r0.young hg2 (by omega)
  have hBR : blk B ≠ some R := hoB.ne_blk hR1
  have hform := ownForm hoB
  have hneB : blk B ≠ some w.heap.size := hoB.ne_blk (by omega)
  have s12 := hg2.size
  obtain ⟨W, hW⟩ : ∃ W, W = w2.alloc (.cells #[.int .i64 m, .slice B k cap] 25) := ⟨_, rfl⟩
  have hpW : Past w2 W := by rw [hW]; exact (Past.refl w2).alloc _
  have b0 : W.cell? ⟨w2.heap.size, 0, none⟩ = some (.int .i64 m) := by rw [hW]; go_simp
  have b1 : W.cell? ⟨w2.heap.size, 1, none⟩ = some (.slice B k cap) := by rw [hW]; go_simp
  have hxW := hxB.below hpW
  have hrW := hr2.below hpW
  have r3 := r2.keep (hpW.block _ r2.lt)
  have hp3 := hp2.trans hpW
  have hs2 : w.heap.size < w2.heap.size := r2.lt
  go_upto_region 3 with (fail)
  rw [← hW]
  clear hW hoB hr2 hg2 hxB r0 hF
  have hNR : w2.heap.size ≠ R := by omega
  have hq0 : ∀ (u : World) (j : Nat) (x : Value), (u.setCell ⟨w.heap.size, j, none⟩ x).cell? ⟨w2.heap.size, 0, none⟩ = u.cell? ⟨w2.heap.size, 0, none⟩ := fun u j x => World.cell?_setCell_other _ _ _ _ (by intro e; injection e; omega)
  have hq1 : ∀ (u : World) (j : Nat) (x : Value), (u.setCell ⟨w.heap.size, j, none⟩ x).cell? ⟨w2.heap.size, 1, none⟩ = u.cell? ⟨w2.heap.size, 1, none⟩ := fun u j x => World.cell?_setCell_other _ _ _ _ (by intro e; injection e; omega)
  go_region_held3 (fun w' => w'.cell? ⟨w2.heap.size, 0, none⟩ = some (.int .i64 m) ∧ w'.cell? ⟨w2.heap.size, 1, none⟩ = some (.slice B k cap))
    (first | go_keep | (simp only [hq0, hq1]; assumption))
    (first
      | (go_at_call 82; refine (pickF (f := 25) _ hrW.drew).mono ?_; rintro e w5 ⟨z, rfl, hz0, _, hr5, hg5⟩; have b0 := cell_far hg5 b0 hNR; have b1 := cell_far hg5 b1 hNR; have r5 : RowN w5 w.heap.size 25 2 := RowN.young (w := W.drew) r3 hg5 (by omega); obtain ⟨y0, e0⟩ := r5.cell (i := 0) (by omega); obtain ⟨y1, e1⟩ := r5.cell (i := 1) (by omega); have z0 := r5.frozen 0; have z1 := r5.frozen 1))
  have hp5 : Past w w5 := Below.grown hp3.drew hg5 hp3.size (fun k e => by injection e with e; omega)
  have hx5 := ((hxW.drew.grown hg5 (fun b e => by injection e with e; rw [← e]; exact hBR)).far ⟨w.heap.size, 0, none⟩ (.int .i64 m) hneB).far ⟨w.heap.size, 1, none⟩ (.slice B k cap) hneB
  have hbel := Below.setCell (Below.setCell hp5 (p := ⟨w.heap.size, 0, none⟩) (by simp) (.int .i64 m)) (p := ⟨w.heap.size, 1, none⟩) (by simp) (.slice B k cap)
  clear hg5 hr5
  go_wp2
  exact bodyPost_ret (v := .tuple #[.agg #[.int .i64 m, .slice B k cap], .int .i64 z]) (by simp [results, Try.results39, go_sem, e0, e1]) rfl ⟨m, B, k, cap, xs, z, rfl, hxk, hk, hx5, hform, hz0, hbel⟩

end Go.Proofs.Ytgeoheeibebmcab

namespace Go.Proofs.Ytgeoheeibebmcab
open Go.RowKit

theorem inL_take {ys : List Int} {x y : Int} {k : Nat} (h : x ∉ ys.take k) (hy : ys[k]? = some y) (hne : y ≠ x) : x ∉ ys.take (k + 1) := by
  rw [List.take_add_one, hy]
  simp
  exact ⟨h, fun e => hne e.symm⟩

set_option maxRecDepth 100000 in
set_option maxHeartbeats 1000000 in
theorem l12In_any (A : Option Addr) (n c : Nat) (ys : List Int) (x : Int) (w : World) (hn : n ≤ 1048576) (hl : ys.length = n) (hx : IntsAt w A ys) :
    Calls Try.prog 86 #[.slice A n c, .int .i64 x] w fun e w' => e = .returned (.bool (inL ys x)) ∧ Below w.heap.size w w' := by
  have HL := Lib.hid hl
  clear hl
  go_enter Try.func86, Try.ntmps86
  go_wp2
  go_loopw [5] (fun i wr => ∃ k : Nat, k ≤ n ∧ i = .int .i64 k ∧ x ∉ ys.take k ∧ Past w wr) (fun i _ => n - (intOf i).toNat)
  case atStart => exact ⟨0, by omega, rfl, by simp, Past.refl _⟩
  case round =>
    obtain ⟨k, hk, rfl, hno, hb⟩ := hrel
    have HN := Lib.hid hno
    clear hno
    by_cases hlt : k < n
    · obtain ⟨y, ha⟩ : ∃ a, ys[k]? = some a := ⟨_, List.getElem?_eq_getElem (by have := HL.out; omega)⟩
      obtain ⟨g, o, rfl, c0⟩ := (hx.below hb) k _ ha
      have HA := Lib.hid ha
      have i0 : (0 : Int) ≤ (k : Int) := by omega
      have i1 : (k : Int) < (n : Int) := by omega
      clear ha
      by_cases e : y = x
      · subst e
        go_wp2
        go_ret
        exact ⟨ret_bool ((inL_iff _ _).2 (List.mem_of_getElem? HA.out)).symm, hb⟩
      · go_wp2
        go_roundw
        case rel => exact ⟨k + 1, by omega, by go_num, inL_take HN.out HA.out e, hb⟩
        case measure => simp [intOf]; omega
    · obtain rfl : n = k := by omega
      go_wp2
      go_ret
      exact ⟨ret_bool ((inL_no _ _).2 (by have := HN.out; rwa [List.take_of_length_le (by have := HL.out; omega)] at this)).symm, hb⟩

/-- Where a number is in a list: -1, if it isn't. -/
def Found (ys : List Int) (x j : Int) : Prop := (j = -1 ∧ x ∉ ys) ∨ ∃ k : Nat, j = k ∧ ys[k]? = some x ∧ x ∉ ys.take k

set_option maxRecDepth 100000 in
set_option maxHeartbeats 1000000 in
theorem index_any (A : Option Addr) (n c : Nat) (ys : List Int) (x : Int) (w : World) (hn : n ≤ 1048576) (hl : ys.length = n) (hx : IntsAt w A ys) :
    Calls Try.prog 124 #[.slice A n c, .int .i64 x] w fun e w' => ∃ j : Int, e = .returned (.int .i64 j) ∧ Found ys x j ∧ Below w.heap.size w w' := by
  have HL := Lib.hid hl
  clear hl
  go_enter Try.func124, Try.ntmps124
  go_wp2
  go_loopw [8] (fun i wr => ∃ k : Nat, k ≤ n ∧ i = .int .i64 k ∧ x ∉ ys.take k ∧ Past w wr) (fun i _ => n - (intOf i).toNat)
  case atStart => exact ⟨0, by omega, rfl, by simp, Past.refl _⟩
  case round =>
    obtain ⟨k, hk, rfl, hno, hb⟩ := hrel
    have HN := Lib.hid hno
    clear hno
    by_cases hlt : k < n
    · obtain ⟨y, ha⟩ : ∃ a, ys[k]? = some a := ⟨_, List.getElem?_eq_getElem (by have := HL.out; omega)⟩
      obtain ⟨g, o, rfl, c0⟩ := (hx.below hb) k _ ha
      have HA := Lib.hid ha
      have i0 : (0 : Int) ≤ (k : Int) := by omega
      have i1 : (k : Int) < (n : Int) := by omega
      clear ha
      by_cases e : x = y
      · subst e
        go_wp2
        go_ret
        exact ⟨_, rfl, .inr ⟨k, rfl, HA.out, HN.out⟩, hb⟩
      · go_wp2
        go_roundw
        case rel => exact ⟨k + 1, by omega, by go_num, inL_take HN.out HA.out (fun h => e h.symm), hb⟩
        case measure => simp [intOf]; omega
    · obtain rfl : n = k := by omega
      go_wp2
      go_ret
      exact ⟨_, rfl, .inl ⟨rfl, by have := HN.out; rwa [List.take_of_length_le (by have := HL.out; omega)] at this⟩, hb⟩

set_option maxRecDepth 100000 in
set_option maxHeartbeats 1000000 in
theorem contains_any (A : Option Addr) (n c : Nat) (ys : List Int) (x : Int) (w : World) (hn : n ≤ 1048576) (hl : ys.length = n) (hx : IntsAt w A ys) :
    Calls Try.prog 89 #[.slice A n c, .int .i64 x] w fun e w' => e = .returned (.bool (inL ys x)) ∧ Below w.heap.size w w' := by
  go_enter Try.func89, Try.ntmps89
  go_wp2_with fail
  refine (index_any A n c ys x _ hn hl hx).mono ?_
  rintro e w1 ⟨j, rfl, hj, hb1⟩
  rcases hj with ⟨rfl, hno⟩ | ⟨k, rfl, hk, _⟩
  · have HN := Lib.hid hno
    clear hno
    go_wp2
    go_ret
    exact ⟨ret_bool ((inL_no _ _).2 HN.out).symm, hb1⟩
  · have HK := Lib.hid hk
    have i0 : (0 : Int) ≤ (k : Int) := by omega
    clear hk
    go_wp2
    go_ret
    exact ⟨ret_bool ((inL_iff _ _).2 (List.mem_of_getElem? HK.out)).symm, hb1⟩

end Go.Proofs.Ytgeoheeibebmcab

namespace Go.Proofs.Ytgeoheeibebmcab
open Go.RowKit

/-- What it costs at least from one of the first j of some nodes. -/
def wayTo (M : Nat) (xs : List ArcD) (ks : List Int) (v : Int) : Nat → Int
  | 0 => 99999
  | j + 1 => if at_ (nearL M xs (at_ ks (j : Int))) v < wayTo M xs ks v j then at_ (nearL M xs (at_ ks (j : Int))) v else wayTo M xs ks v j
/-- Node 0, if there are none. -/
def seeds (ks : List Int) : List Int := if ks = [] then [0] else ks
def capI (b : Int) : Int := if b = 99999 then 0 else b
def nearestI (M : Nat) (xs : List ArcD) (ks : List Int) (v : Int) : Int := capI (wayTo M xs (seeds ks) v (seeds ks).length)
/-- The farthest of the first k nodes that are no marks, and how far. -/
def pickTo (M : Nat) (xs : List ArcD) (ks : List Int) : Nat → Int × Int
  | 0 => (-1, -1)
  | k + 1 => if inL ks (k : Int) = false ∧ (pickTo M xs ks k).2 < nearestI M xs ks (k : Int) then ((k : Int), nearestI M xs ks (k : Int)) else pickTo M xs ks k
def pickL (M : Nat) (xs : List ArcD) : Nat → List Int
  | 0 => []
  | i + 1 => pickL M xs i ++ [(pickTo M xs (pickL M xs i) M).1]
def choseI (m : Int) (xs : List ArcD) (many : Int) : List Int := if netB m xs && inB many 0 m then pickL m.toNat xs many.toNat else []
theorem pickL_len (M : Nat) (xs : List ArcD) : ∀ i, (pickL M xs i).length = i
  | 0 => rfl
  | i + 1 => by rw [pickL, List.length_append, pickL_len M xs i]; rfl
theorem choseI_len (m : Int) (xs : List ArcD) (many : Int) : (choseI m xs many).length ≤ 1048576 := by
  unfold choseI
  split
  · rename_i h
    simp only [Bool.and_eq_true] at h
    obtain ⟨M, rfl, _, h8⟩ := here_nat h.1
    have := (inB_iff _ _ _).1 h.2
    rw [pickL_len]
    omega
  · simp
theorem wayTo_bound {M : Nat} {xs : List ArcD} {ks : List Int} {v : Int} (hx : ArcsIn M xs) (hk : ∀ y ∈ ks, 0 ≤ y ∧ y < M) (hv : 0 ≤ v ∧ v < M) : ∀ j, j ≤ ks.length → 0 ≤ wayTo M xs ks v j ∧ wayTo M xs ks v j ≤ 99999
  | 0, _ => by unfold wayTo; omega
  | j + 1, h => by
    have ih := wayTo_bound hx hk hv j (by omega)
    have := nearL_bound hx (hk _ (at_mem (ks := ks) (k := j) (by omega))) hv
    unfold farI at this
    unfold wayTo
    split <;> omega
theorem seeds_in {M : Nat} {ks : List Int} (hM : 1 ≤ M) (hk : ∀ y ∈ ks, 0 ≤ y ∧ y < (M : Int)) : ∀ y ∈ seeds ks, 0 ≤ y ∧ y < (M : Int) := by
  unfold seeds
  split
  · intro y hy
    simp at hy
    omega
  · exact hk
theorem nearestI_bound {M : Nat} {xs : List ArcD} {ks : List Int} {v : Int} (hM : 1 ≤ M) (hx : ArcsIn M xs) (hk : ∀ y ∈ ks, 0 ≤ y ∧ y < (M : Int)) (hv : 0 ≤ v ∧ v < M) : 0 ≤ nearestI M xs ks v ∧ nearestI M xs ks v ≤ 99999 := by
  have := wayTo_bound hx (seeds_in hM hk) hv _ (Nat.le_refl _)
  unfold nearestI capI
  split <;> omega
theorem pickTo_is {M : Nat} {xs : List ArcD} {ks : List Int} (hM : 1 ≤ M) (hx : ArcsIn M xs) (hk : ∀ y ∈ ks, 0 ≤ y ∧ y < (M : Int)) : ∀ k, k ≤ M →
    ((pickTo M xs ks k = (-1, -1) ∧ ∀ j : Nat, j < k → (j : Int) ∈ ks) ∨ (0 ≤ (pickTo M xs ks k).1 ∧ (pickTo M xs ks k).1 < (k : Int) ∧ (pickTo M xs ks k).1 ∉ ks ∧ 0 ≤ (pickTo M xs ks k).2))
  | 0, _ => .inl ⟨rfl, fun j h => absurd h (by omega)⟩
  | k + 1, h => by
    have ih := pickTo_is hM hx hk k (by omega)
    have hb := nearestI_bound hM hx hk (v := (k : Int)) ⟨by omega, by omega⟩
    unfold pickTo
    by_cases hc : inL ks (k : Int) = false ∧ (pickTo M xs ks k).2 < nearestI M xs ks (k : Int)
    · rw [if_pos hc]
      exact .inr ⟨by simp only; omega, by simp only; omega, (inL_no _ _).1 hc.1, hb.1⟩
    · rw [if_neg hc]
      rcases ih with ⟨e, hall⟩ | ⟨h1, h2, h3, h4⟩
      · by_cases hm : (k : Int) ∈ ks
        · refine .inl ⟨e, fun j hj => ?_⟩
          by_cases hjk : j = k
          · rw [hjk]; exact hm
          · exact hall j (by omega)
        · exfalso
          apply hc
          rw [e]
          exact ⟨(inL_no _ _).2 hm, by simp only; omega⟩
      · exact .inr ⟨h1, by omega, h3, h4⟩
theorem all_in_len : ∀ (M : Nat) (ks : List Int), (∀ j : Nat, j < M → (j : Int) ∈ ks) → M ≤ ks.length
  | 0, _, _ => Nat.zero_le _
  | M + 1, ks, h => by
    have ih := all_in_len M (ks.filter (fun x => decide (x ≠ (M : Int)))) (fun j hj => List.mem_filter.2 ⟨h j (by omega), by simp; omega⟩)
    have hlt : (ks.filter (fun x => decide (x ≠ (M : Int)))).length < ks.length := by
      rw [List.length_filter_lt_length_iff_exists]
      exact ⟨_, h M (by omega), by simp⟩
    omega
/-- As long as there are fewer marks than nodes, there is one more. -/
theorem pickTo_new {M : Nat} {xs : List ArcD} {ks : List Int} (hM : 1 ≤ M) (hx : ArcsIn M xs) (hk : ∀ y ∈ ks, 0 ≤ y ∧ y < (M : Int)) (hl : ks.length < M) :
    0 ≤ (pickTo M xs ks M).1 ∧ (pickTo M xs ks M).1 < (M : Int) ∧ (pickTo M xs ks M).1 ∉ ks := by
  rcases pickTo_is hM hx hk M (Nat.le_refl _) with ⟨_, hall⟩ | ⟨h1, h2, h3, _⟩
  · have := all_in_len M ks hall
    omega
  · exact ⟨h1, h2, h3⟩
theorem pickL_in {M : Nat} {xs : List ArcD} (hM : 1 ≤ M) (hx : ArcsIn M xs) : ∀ i, i ≤ M → ∀ y ∈ pickL M xs i, 0 ≤ y ∧ y < (M : Int)
  | 0, _, y, hy => by simp [pickL] at hy
  | i + 1, h, y, hy => by
    have ih := pickL_in hM hx i (by omega)
    have hn := pickTo_new hM hx ih (by rw [pickL_len]; omega)
    rw [pickL] at hy
    rcases List.mem_append.1 hy with hy | hy
    · exact ih y hy
    · simp at hy
      rw [hy]
      exact ⟨hn.1, hn.2.1⟩
theorem pickL_take (M : Nat) (xs : List ArcD) : ∀ (i j : Nat), j ≤ i → (pickL M xs i).take j = pickL M xs j
  | 0, j, h => by
    obtain rfl : j = 0 := by omega
    simp [pickL]
  | i + 1, j, h => by
    by_cases e : j = i + 1
    · subst e
      rw [List.take_of_length_le (by rw [pickL_len]; omega)]
    · rw [pickL, List.take_append_of_le_length (by rw [pickL_len]; omega), pickL_take M xs i j (by omega)]

end Go.Proofs.Ytgeoheeibebmcab

namespace Go.Proofs.Ytgeoheeibebmcab
open Go.RowKit

theorem ret_two {a b a' b' : Int} (h : a = a') (h' : b = b') : Ending.returned (.tuple #[.int .i64 a, .int .i64 b]) = .returned (.tuple #[.int .i64 a', .int .i64 b']) := by rw [h, h']
theorem getElem_at' (d : List Int) (v : Int) (h0 : 0 ≤ v) (h : v < d.length) : d[v.toNat]? = some (at_ d v) := by
  have : v.toNat < d.length := by omega
  simp [at_, this]

end Go.Proofs.Ytgeoheeibebmcab

namespace Go.Proofs.Ytgeoheeibebmcab
open Go.RowKit

set_option maxRecDepth 100000 in
set_option maxHeartbeats 4000000 in
theorem l12Way_any (M : Nat) (A : Option Addr) (n c : Nat) (xs : List ArcD) (B : Option Addr) (l cb : Nat) (ks : List Int) (v : Int) (w : World) (h8 : M ≤ 8) (h1 : 1 ≤ M) (hn : n ≤ 16) (hnx : xs.length = n) (hx : ArcsAt w A xs) (hB : netB (M : Int) xs = true) (hl : l ≤ 8) (hlk : ks.length = l) (hk : IntsAt w B ks) (hin : ∀ y ∈ ks, 0 ≤ y ∧ y < (M : Int)) (hv : 0 ≤ v ∧ v < M) :
    Calls Try.prog 85 #[.agg #[.int .i64 (M : Int), .slice A n c], .slice B l cb, .int .i64 v] w fun e w' => e = .returned (.int .i64 (nearestI M xs ks v)) ∧ Below w.heap.size w w' := by
  have HX := Lib.hid hnx
  have HB := Lib.hid hB
  have HIN1 : Hid (∀ y ∈ seeds ks, 0 ≤ y ∧ y < (M : Int)) := seeds_in h1 hin
  clear hnx hB
  obtain ⟨W0, hW0⟩ : ∃ W0, W0 = w.alloc (.cells #[.int .i64 (M : Int), .slice A n c] 25) := ⟨_, rfl⟩
  have hpW : Past w W0 := by rw [hW0]; exact (Past.refl _).alloc _
  have hs0 : W0.heap.size = w.heap.size + 1 := by rw [hW0]; simp
  have b0 : W0.cell? ⟨w.heap.size, 0, none⟩ = some (.int .i64 (M : Int)) := by rw [hW0]; go_simp
  have b1 : W0.cell? ⟨w.heap.size, 1, none⟩ = some (.slice A n c) := by rw [hW0]; go_simp
  have HW := Lib.hid hW0
  clear hW0
  by_cases hl0 : l = 0
  · subst hl0
    have hks : ks = [] := List.eq_nil_of_length_eq_zero hlk
    obtain ⟨ks1, hks1⟩ : ∃ ks1, ks1 = seeds ks := ⟨_, rfl⟩
    have hk0 : ks1 = [0] := by rw [hks1, hks]; rfl
    obtain ⟨W1, hW1⟩ : ∃ W1, W1 = W0.alloc (.cells #[.int .i64 0] 3) := ⟨_, rfl⟩
    have hp01 : Past W0 W1 := by rw [hW1]; exact (Past.refl _).alloc _
    have hk1 : IntsAt W1 (some ⟨w.heap.size + 1, 0, none⟩) ks1 := fun k y hk => by
      rw [hk0] at hk
      cases k with
      | zero => simp at hk; subst hk; exact ⟨_, _, rfl, by rw [hW1, ← hs0]; go_simp⟩
      | succ k => simp at hk
    have HL1 : Hid (ks1.length = 1) := by rw [Hid, hk0]; rfl
    have HSD : Hid (seeds ks = ks1) := hks1.symm
    rw [HSD.out] at HIN1
    have B0 := Lib.hid (cell_in hp01 b0)
    have B1 := Lib.hid (cell_in hp01 b1)
    have hp1 := hpW.trans hp01
    have hx1 := hx.below hp1
    have HW1 := Lib.hid hW1
    clear hks hks1 hk0 hW1 hp01 hk hlk hin b0 b1
    go_enter Try.func85, Try.ntmps85
    go_wp2
    rw [← HW.out, ← HW1.out]
    clear HW HW1
    go_loopw [7, 8] (fun b i wr => ∃ k : Nat, k ≤ 1 ∧ i = .int .i64 k ∧ b = .int .i64 (wayTo M xs ks1 v k) ∧ Past W1 wr) (fun _ i _ => 1 - (intOf i).toNat)
    case atStart => exact ⟨0, by omega, rfl, rfl, Past.refl _⟩
    case round =>
      obtain ⟨k, hk, rfl, rfl, hb⟩ := hrel
      have b0 := cell_in hb B0.out
      have b1 := cell_in hb B1.out
      by_cases hlt : k < 1
      · obtain ⟨y, ha⟩ : ∃ a, ks1[k]? = some a := ⟨_, List.getElem?_eq_getElem (by have := HL1.out; omega)⟩
        obtain ⟨g, o, eg, c0⟩ := (hk1.below hb) k _ ha
        injection eg with eg
        injection eg with eg1 eg2
        subst eg1 eg2
        rw [Nat.zero_add] at c0
        have hyb := HIN1.out y (List.mem_of_getElem? ha)
        have HY : Hid (at_ ks1 (k : Int) = y) := by rw [Hid, at_, Int.toNat_natCast, List.getD_eq_getElem?_getD, ha]; rfl
        have i0 : (0 : Int) ≤ (k : Int) := by omega
        have i1 : (k : Int) < 1 := by omega
        obtain ⟨z, hzz⟩ : ∃ z, z = at_ (nearL M xs y) v := ⟨_, rfl⟩
        have HG : Hid ((nearL M xs y)[v.toNat]? = some z) := by rw [Hid, hzz]; exact getElem_at' (nearL M xs y) v hv.1 (by rw [nearL_length]; exact hv.2)
        obtain ⟨C, hC⟩ : ∃ C, C = wayTo M xs ks1 v k := ⟨_, rfl⟩
        have HM : Hid (wayTo M xs ks1 v (k + 1) = if z < C then z else C) := by rw [Hid, wayTo, HY.out, ← hzz, ← hC]
        have hxr := hx1.below hb
        have v0 := hv.1
        have v1 := hv.2
        rw [← hC]
        clear hzz hC ha
        by_cases hzc : z < C
        · have HM2 : Hid (wayTo M xs ks1 v (k + 1) = z) := by rw [Hid, HM.out, if_pos hzc]
          go_wp2_with fail
          go_region_with (refine (l3All_any M y A n c xs _ h8 HX.out (by omega) hxr.drew (arcsIn_net HB.out) hyb).mono ?_; rintro e w4 ⟨v4, rfl, hv4, hb4⟩; obtain ⟨D, cd, rfl, hd4, _⟩ := hv4.form; rw [nearL_length]; obtain ⟨g', o', rfl, d0⟩ := hd4 v.toNat z HG.out; have hbj : Past W1 w4 := hb.drew.trans hb4; clear hv4 hd4 hb4)
          all_goals go_wp2
          all_goals go_roundw
          all_goals first | exact ⟨k + 1, by omega, by go_num, by rw [HM2.out], hbj⟩ | (simp [intOf]; omega)
        · have HM2 : Hid (wayTo M xs ks1 v (k + 1) = C) := by rw [Hid, HM.out, if_neg hzc]
          go_wp2_with fail
          go_region_with (refine (l3All_any M y A n c xs _ h8 HX.out (by omega) hxr.drew (arcsIn_net HB.out) hyb).mono ?_; rintro e w4 ⟨v4, rfl, hv4, hb4⟩; obtain ⟨D, cd, rfl, hd4, _⟩ := hv4.form; rw [nearL_length]; obtain ⟨g', o', rfl, d0⟩ := hd4 v.toNat z HG.out; have hbj : Past W1 w4 := hb.drew.trans hb4; clear hv4 hd4 hb4)
          all_goals go_wp2
          all_goals go_roundw
          all_goals first | exact ⟨k + 1, by omega, by go_num, by rw [HM2.out], hbj⟩ | (simp [intOf]; omega)
      · obtain rfl : k = 1 := by omega
        obtain ⟨C, hC⟩ : ∃ C, C = wayTo M xs ks1 v 1 := ⟨_, rfl⟩
        have HR : Hid (nearestI M xs ks v = capI C) := by rw [Hid, nearestI, HSD.out, HL1.out, hC]
        rw [← hC]
        clear hC
        by_cases hc : C = 99999
        · subst hc
          go_wp2
          go_ret
          exact ⟨ret_int (by rw [HR.out]; rfl), hp1.trans hb⟩
        · go_wp2
          go_ret
          exact ⟨ret_int (by rw [HR.out, capI, if_neg hc]), hp1.trans hb⟩
  · have hks : seeds ks = ks := by unfold seeds; rw [if_neg (fun e => hl0 (by rw [← hlk, e]; rfl))]
    obtain ⟨ks1, hks1⟩ : ∃ ks1, ks1 = ks := ⟨_, rfl⟩
    obtain ⟨L1, hL1⟩ : ∃ L1, L1 = l := ⟨_, rfl⟩
    obtain ⟨W1, hW1⟩ : ∃ W1, W1 = W0 := ⟨_, rfl⟩
    have HSD : Hid (seeds ks = ks1) := by rw [Hid, hks, hks1]
    have HL1 : Hid (ks1.length = L1) := by rw [Hid, hks1, hL1, hlk]
    rw [HSD.out] at HIN1
    subst hL1 hW1
    have hk1 : IntsAt W1 B ks1 := by rw [hks1]; exact hk.below hpW
    have B0 := Lib.hid b0
    have B1 := Lib.hid b1
    have hp1 := hpW
    have hx1 := hx.below hp1
    clear hks hks1 hk hlk hin b0 b1
    have hl0' : ¬ (L1 : Int) = 0 := by omega
    have hl0q : ¬ L1 = 0 := hl0
    have hl0b : ((L1 : Int) == 0) = false := by simpa using hl0q
    go_enter Try.func85, Try.ntmps85
    go_wp2
    rw [← HW.out]
    clear HW
    go_loopw [7, 8] (fun b i wr => ∃ k : Nat, k ≤ L1 ∧ i = .int .i64 k ∧ b = .int .i64 (wayTo M xs ks1 v k) ∧ Past W1 wr) (fun _ i _ => L1 - (intOf i).toNat)
    case atStart => exact ⟨0, by omega, rfl, rfl, Past.refl _⟩
    case round =>
      obtain ⟨k, hk, rfl, rfl, hb⟩ := hrel
      have b0 := cell_in hb B0.out
      have b1 := cell_in hb B1.out
      by_cases hlt : k < L1
      · obtain ⟨y, ha⟩ : ∃ a, ks1[k]? = some a := ⟨_, List.getElem?_eq_getElem (by have := HL1.out; omega)⟩
        obtain ⟨g, o, rfl, c0⟩ := (hk1.below hb) k _ ha
        have hyb := HIN1.out y (List.mem_of_getElem? ha)
        have HY : Hid (at_ ks1 (k : Int) = y) := by rw [Hid, at_, Int.toNat_natCast, List.getD_eq_getElem?_getD, ha]; rfl
        have i0 : (0 : Int) ≤ (k : Int) := by omega
        have i1 : (k : Int) < (L1 : Int) := by omega
        obtain ⟨z, hzz⟩ : ∃ z, z = at_ (nearL M xs y) v := ⟨_, rfl⟩
        have HG : Hid ((nearL M xs y)[v.toNat]? = some z) := by rw [Hid, hzz]; exact getElem_at' (nearL M xs y) v hv.1 (by rw [nearL_length]; exact hv.2)
        obtain ⟨C, hC⟩ : ∃ C, C = wayTo M xs ks1 v k := ⟨_, rfl⟩
        have HM : Hid (wayTo M xs ks1 v (k + 1) = if z < C then z else C) := by rw [Hid, wayTo, HY.out, ← hzz, ← hC]
        have hxr := hx1.below hb
        have v0 := hv.1
        have v1 := hv.2
        rw [← hC]
        clear hzz hC ha
        by_cases hzc : z < C
        · have HM2 : Hid (wayTo M xs ks1 v (k + 1) = z) := by rw [Hid, HM.out, if_pos hzc]
          go_wp2_with fail
          go_region_with (refine (l3All_any M y A n c xs _ h8 HX.out (by omega) hxr.drew (arcsIn_net HB.out) hyb).mono ?_; rintro e w4 ⟨v4, rfl, hv4, hb4⟩; obtain ⟨D, cd, rfl, hd4, _⟩ := hv4.form; rw [nearL_length]; obtain ⟨g', o', rfl, d0⟩ := hd4 v.toNat z HG.out; have hbj : Past W1 w4 := hb.drew.trans hb4; clear hv4 hd4 hb4)
          all_goals go_wp2
          all_goals go_roundw
          all_goals first | exact ⟨k + 1, by omega, by go_num, by rw [HM2.out], hbj⟩ | (simp [intOf]; omega)
        · have HM2 : Hid (wayTo M xs ks1 v (k + 1) = C) := by rw [Hid, HM.out, if_neg hzc]
          go_wp2_with fail
          go_region_with (refine (l3All_any M y A n c xs _ h8 HX.out (by omega) hxr.drew (arcsIn_net HB.out) hyb).mono ?_; rintro e w4 ⟨v4, rfl, hv4, hb4⟩; obtain ⟨D, cd, rfl, hd4, _⟩ := hv4.form; rw [nearL_length]; obtain ⟨g', o', rfl, d0⟩ := hd4 v.toNat z HG.out; have hbj : Past W1 w4 := hb.drew.trans hb4; clear hv4 hd4 hb4)
          all_goals go_wp2
          all_goals go_roundw
          all_goals first | exact ⟨k + 1, by omega, by go_num, by rw [HM2.out], hbj⟩ | (simp [intOf]; omega)
      · obtain rfl : k = L1 := by omega
        obtain ⟨C, hC⟩ : ∃ C, C = wayTo M xs ks1 v k := ⟨_, rfl⟩
        have HR : Hid (nearestI M xs ks v = capI C) := by rw [Hid, nearestI, HSD.out, HL1.out, hC]
        rw [← hC]
        clear hC
        by_cases hc : C = 99999
        · subst hc
          go_wp2
          go_ret
          exact ⟨ret_int (by rw [HR.out]; rfl), hp1.trans hb⟩
        · go_wp2
          go_ret
          exact ⟨ret_int (by rw [HR.out, capI, if_neg hc]), hp1.trans hb⟩

end Go.Proofs.Ytgeoheeibebmcab

namespace Go.Proofs.Ytgeoheeibebmcab
open Go.RowKit

theorem pickTo_yes {M : Nat} {xs : List ArcD} {ks : List Int} {k : Nat} (h1 : inL ks (k : Int) = false) (h2 : (pickTo M xs ks k).2 < nearestI M xs ks (k : Int)) : pickTo M xs ks (k + 1) = ((k : Int), nearestI M xs ks (k : Int)) := by rw [pickTo, if_pos ⟨h1, h2⟩]
theorem pickTo_no {M : Nat} {xs : List ArcD} {ks : List Int} {k : Nat} (h : inL ks (k : Int) = true ∨ ¬ (pickTo M xs ks k).2 < nearestI M xs ks (k : Int)) : pickTo M xs ks (k + 1) = pickTo M xs ks k := by
  rw [pickTo, if_neg]
  rintro ⟨h1, h2⟩
  rcases h with h | h
  · rw [h] at h1; cases h1
  · exact h h2

set_option maxRecDepth 100000 in
set_option maxHeartbeats 4000000 in
theorem specMarkPick_any (m : Int) (A : Option Addr) (n c : Nat) (xs : List ArcD) (many : Int) (w : World) (hn : n ≤ 1048576) (hnx : xs.length = n) (hx : ArcsAt w A xs) :
    Calls Try.prog 41 #[.agg #[.int .i64 m, .slice A n c], .int .i64 many] w (Gives w (choseI m xs many)) := by
  have HX := Lib.hid hnx
  clear hnx
  obtain ⟨i0, hi, hz0, hz1, hz2⟩ := info_parts infoInt
  obtain ⟨W0, hW0⟩ : ∃ W0, W0 = w.alloc (.cells #[.int .i64 m, .slice A n c] 25) := ⟨_, rfl⟩
  have hpW : Past w W0 := by rw [hW0]; exact (Past.refl _).alloc _
  have hsz : W0.heap.size = w.heap.size + 1 := by rw [hW0]; simp
  have b0 : W0.cell? ⟨w.heap.size, 0, none⟩ = some (.int .i64 m) := by rw [hW0]; go_simp
  have b1 : W0.cell? ⟨w.heap.size, 1, none⟩ = some (.slice A n c) := by rw [hW0]; go_simp
  have HW := Lib.hid hW0
  have B0 := Lib.hid b0
  have B1 := Lib.hid b1
  clear hW0
  go_enter Try.func41, Try.ntmps41
  go_wp2_with fail
  rw [← HW.out]
  clear HW
  have hr0 := Res.empty_new W0
  obtain ⟨W1, hW1⟩ : ∃ W1, W1 = W0.alloc (.cells #[] 3) := ⟨_, rfl⟩
  have hpW1 : Past W0 W1 := by rw [hW1]; exact (Past.refl _).alloc _
  rw [← hW1] at hr0 ⊢
  rw [hsz] at hr0
  clear hW1
  refine (l1Ok_any m A n c xs _ hn HX.out (hx.below (hpW.trans hpW1))).mono ?_
  rintro e w1 ⟨rfl, hb1⟩
  have b0 := cell_in hb1 (cell_in hpW1 b0)
  have b1 := cell_in hb1 (cell_in hpW1 b1)
  have hr0 := hr0.below hb1
  have hp1 := Past.trans hpW1 hb1
  clear hb1 hpW1
  cases hB : netB m xs with
  | false =>
    have HB := Lib.hid hB
    clear hB
    go_wp2
    go_ret
    exact ⟨_, rfl, by rw [choseI, HB.out]; exact Res.nil _ _, hpW.trans hp1⟩
  | true =>
    obtain ⟨M, rfl, h1, h8⟩ := here_nat hB
    have h16 := ((netB_iff _ _).1 hB).2.1
    rw [HX.out] at h16
    have HB := Lib.hid hB
    clear hB
    go_wp2_with fail
    refine (l1In_any _ _ _ _).mono ?_
    rintro e w2 ⟨rfl, rfl⟩
    cases hI : inB many 0 (M : Int) with
    | false =>
      have HI := Lib.hid hI
      clear hI
      go_wp2
      go_ret
      exact ⟨_, rfl, by rw [choseI, HB.out, HI.out]; exact Res.nil _ _, hpW.trans hp1⟩
    | true =>
      have hmb := (inB_iff _ _ _).1 hI
      obtain ⟨Y, rfl⟩ : ∃ Y : Nat, many = (Y : Int) := ⟨many.toNat, by omega⟩
      have hYM : Y ≤ M := by omega
      have HRES : Hid (choseI (M : Int) xs (Y : Int) = pickL M xs Y) := by rw [Hid, choseI, HB.out, hI, if_pos (by rfl), Int.toNat_natCast, Int.toNat_natCast]
      clear hI b0 b1 hmb
      go_wp2
      go_loopw [5] (fun v wr => ∃ k : Nat, k ≤ Y ∧ Res wr (w.heap.size + 1) v (pickL M xs k) ∧ Past W0 wr) (fun v _ => Y - lenOf v)
      case atStart => exact ⟨0, by omega, hr0, hp1⟩
      case round =>
        obtain ⟨k, hk, hv, hb⟩ := hrel
        have HV := Lib.hid hv
        obtain ⟨A2, c2, e2, hi2, _⟩ := hv.form
        rw [pickL_len] at e2
        subst e2
        obtain ⟨ks, hks⟩ : ∃ ks, ks = pickL M xs k := ⟨_, rfl⟩
        have hkl : ks.length = k := by rw [hks, pickL_len]
        have hkin : ∀ y ∈ ks, 0 ≤ y ∧ y < (M : Int) := by rw [hks]; exact pickL_in h1 (arcsIn_net HB.out) k (by omega)
        rw [← hks] at hi2
        have HKS := Lib.hid hks
        have HKL := Lib.hid hkl
        have HKI := Lib.hid hkin
        clear hv hks hkl hkin
        by_cases hlt : k < Y
        · have y0 : (k : Int) < (Y : Int) := by omega
          go_wp2
          go_loopw [6, 7, 8] (fun bb nn i wq => ∃ j : Nat, j ≤ M ∧ i = .int .i64 j ∧ bb = .int .i64 (pickTo M xs ks j).2 ∧ nn = .int .i64 (pickTo M xs ks j).1 ∧ Past wr wq) (fun _ _ i _ => M - (intOf i).toNat)
          case atStart => exact ⟨0, by omega, rfl, rfl, rfl, Past.refl _⟩
          case round =>
            obtain ⟨j, hj, rfl, rfl, rfl, hbq⟩ := hrel
            have hbz := hb.trans hbq
            have b0 := cell_in hbz B0.out
            have b1 := cell_in hbz B1.out
            by_cases hjl : j < M
            · have j0 : (0 : Int) ≤ (j : Int) := by omega
              have j1 : (j : Int) < (M : Int) := by omega
              go_wp2_with fail
              refine (l12Way_any M A n c xs A2 k c2 ks (j : Int) _ h8 h1 h16 HX.out ((hx.below hpW).below hbz) HB.out (by omega) HKL.out (hi2.below hbq) HKI.out ⟨j0, j1⟩).mono ?_
              rintro e w4 ⟨rfl, hb4⟩
              have hbq := hbq.trans hb4
              have b0 := cell_in hb4 b0
              obtain ⟨z, hz⟩ : ∃ z, z = nearestI M xs ks (j : Int) := ⟨_, rfl⟩
              obtain ⟨X, hX⟩ : ∃ X, X = (pickTo M xs ks j).1 := ⟨_, rfl⟩
              obtain ⟨C, hC⟩ : ∃ C, C = (pickTo M xs ks j).2 := ⟨_, rfl⟩
              have HYES : Hid (inL ks (j : Int) = false → C < z → pickTo M xs ks (j + 1) = ((j : Int), z)) := fun q1 q2 => by rw [hz]; exact pickTo_yes q1 (by rw [← hC, ← hz]; exact q2)
              have HNO : Hid ((inL ks (j : Int) = true ∨ ¬ C < z) → pickTo M xs ks (j + 1) = (X, C)) := fun q => by rw [pickTo_no (by rw [← hC, ← hz]; exact q), hX, hC]
              rw [← hz, ← hX, ← hC]
              clear hz hX hC hb4
              go_wp2_with fail
              refine (l12In_any A2 k c2 ks (j : Int) _ (by omega) HKL.out (hi2.below hbq)).mono ?_
              rintro e w5 ⟨rfl, hb5⟩
              have hbq := hbq.trans hb5
              have b0 := cell_in hb5 b0
              clear hb5
              cases hin : inL ks (j : Int) with
              | true =>
                have HM := Lib.hid (HNO.out (.inl hin))
                clear hin
                go_wp2
                go_roundw
                case rel => exact ⟨j + 1, by omega, by go_num, by rw [HM.out], by rw [HM.out], hbq⟩
                case measure => simp [intOf]; omega
              | false =>
                by_cases hcz : C < z
                · have HM := Lib.hid (HYES.out hin hcz)
                  clear hin
                  go_wp2
                  go_roundw
                  case rel => exact ⟨j + 1, by omega, by go_num, by rw [HM.out], by rw [HM.out], hbq⟩
                  case measure => simp [intOf]; omega
                · have HM := Lib.hid (HNO.out (.inr (by omega)))
                  clear hin
                  go_wp2
                  go_roundw
                  case rel => exact ⟨j + 1, by omega, by go_num, by rw [HM.out], by rw [HM.out], hbq⟩
                  case measure => simp [intOf]; omega
            · obtain rfl : j = M := by omega
              have hv := HV.out.below hbq
              obtain ⟨X, hX⟩ : ∃ X, X = (pickTo j xs ks j).1 := ⟨_, rfl⟩
              have HN : Hid (pickL j xs (k + 1) = pickL j xs k ++ [X]) := by rw [Hid, pickL, hX, HKS.out]
              have hzs := hbz.size
              rw [hsz] at hzs
              unfold Res at hv
              rw [pickL_len] at hv
              rw [← hX]
              clear hX
              go_wp2_with (first | (at_builtin; refine wpList_append_own _ rfl _ _ 28 rfl (w.heap.size + 1) 3 i0 (.int .i64 0) 1 8 Try.underlying28 hi hz0 hz1 hz2 rfl (by decide) _ _ _ rfl (hv.alloc _) ⟨wr.heap.size, 0, none⟩ 1 1 [.int .i64 X] rfl rfl (cell_one_new _ _ _) (one_cell X) (by unfold maxLen; omega) (by omega) (by simp; omega) ?_; intro v' w6 hown' hgrow6 hnil6))
              go_roundw
              case rel => exact ⟨k + 1, by omega, Res.step hown' (by rw [pickL_len]) HN.out, Past.grown (hbz.alloc _) (hv.alloc _) hgrow6 (by omega)⟩
              case measure =>
                obtain ⟨gv, cv, hvf, _, _⟩ := World.ownsRow.form hown' (by omega)
                rw [hvf]
                simp [lenOf]
                omega
        · obtain rfl : k = Y := by omega
          have hv := HV.out
          go_wp2
          go_ret
          exact ⟨_, rfl, by rw [HRES.out]; exact hv.lower (by omega), hpW.trans hb⟩

end Go.Proofs.Ytgeoheeibebmcab

namespace Go.Proofs.Ytgeoheeibebmcab
open Go.RowKit

/-- What it costs from the nearest of the first k, while the first j nodes are of one more. -/
def wayRow (M : Nat) (xs : List ArcD) (ks : List Int) (k j : Nat) : List Int := (List.range M).map fun v => if v < j then wayTo M xs ks (v : Int) (k + 1) else wayTo M xs ks (v : Int) k
theorem wayRow_len (M : Nat) (xs : List ArcD) (ks : List Int) (k j : Nat) : (wayRow M xs ks k j).length = M := by simp [wayRow]
theorem wayRow_get {M : Nat} {xs : List ArcD} {ks : List Int} {k j v : Nat} (hv : v < M) : (wayRow M xs ks k j)[v]? = some (if v < j then wayTo M xs ks (v : Int) (k + 1) else wayTo M xs ks (v : Int) k) := by simp [wayRow, hv]
theorem wayRow_zero (M : Nat) (xs : List ArcD) (ks : List Int) : wayRow M xs ks 0 0 = List.replicate M 99999 := by
  apply List.ext_getElem?
  intro v
  by_cases hv : v < M
  · rw [wayRow_get hv]; simp [wayTo, hv]
  · rw [List.getElem?_eq_none (by rw [wayRow_len]; omega), List.getElem?_eq_none (by simp; omega)]
theorem wayRow_step {M : Nat} {xs : List ArcD} {ks : List Int} {k j : Nat} : (wayRow M xs ks k j).set j (wayTo M xs ks (j : Int) (k + 1)) = wayRow M xs ks k (j + 1) := by
  apply List.ext_getElem?
  intro v
  by_cases hv : v < M
  · rw [List.getElem?_set, wayRow_get hv, wayRow_get hv, wayRow_len]
    by_cases e : j = v
    · subst e; simp [hv]
    · rw [if_neg e]
      by_cases h : v < j
      · rw [if_pos h, if_pos (by omega)]
      · rw [if_neg h, if_neg (by omega)]
  · rw [List.getElem?_eq_none (by rw [List.length_set, wayRow_len]; omega), List.getElem?_eq_none (by rw [wayRow_len]; omega)]
theorem wayRow_next (M : Nat) (xs : List ArcD) (ks : List Int) (k : Nat) : wayRow M xs ks k M = wayRow M xs ks (k + 1) 0 := by
  apply List.ext_getElem?
  intro v
  by_cases hv : v < M
  · rw [wayRow_get hv, wayRow_get hv, if_pos hv, if_neg (by omega)]
  · rw [List.getElem?_eq_none (by rw [wayRow_len]; omega), List.getElem?_eq_none (by rw [wayRow_len]; omega)]

set_option maxRecDepth 100000 in
set_option maxHeartbeats 4000000 in
theorem farthest_any (M : Nat) (A : Option Addr) (n c : Nat) (xs : List ArcD) (P : Option Addr) (p cp : Nat) (ps : List Int) (B : Option Addr) (l cb : Nat) (ks : List Int) (w : World) (h8 : M ≤ 8) (h1 : 1 ≤ M) (hn : n ≤ 16) (hnx : xs.length = n) (hx : ArcsAt w A xs) (hB : netB (M : Int) xs = true) (hp : p ≤ 8) (hps : ps.length = p) (hpa : IntsAt w P ps) (hse : seeds ks = ps) (hl : l ≤ 8) (hlk : ks.length = l) (hk : IntsAt w B ks) (hin : ∀ y ∈ ks, 0 ≤ y ∧ y < (M : Int)) :
    Calls Try.prog 84 #[.agg #[.int .i64 (M : Int), .slice A n c], .slice P p cp, .slice B l cb] w fun e w' => e = .returned (.int .i64 (pickTo M xs ks M).1) ∧ Below w.heap.size w w' := by
  have HX := Lib.hid hnx
  have HB := Lib.hid hB
  have HPS := Lib.hid hps
  have HKL := Lib.hid hlk
  have HSE := Lib.hid hse
  have HIN1 : Hid (∀ y ∈ ps, 0 ≤ y ∧ y < (M : Int)) := by rw [← hse]; exact seeds_in h1 hin
  clear hnx hB hps hlk hse
  obtain ⟨W0, hW0⟩ : ∃ W0, W0 = w.alloc (.cells #[.int .i64 (M : Int), .slice A n c] 25) := ⟨_, rfl⟩
  have hpW : Past w W0 := by rw [hW0]; exact (Past.refl _).alloc _
  have hsz : W0.heap.size = w.heap.size + 1 := by rw [hW0]; simp
  have b0 : W0.cell? ⟨w.heap.size, 0, none⟩ = some (.int .i64 (M : Int)) := by rw [hW0]; go_simp
  have b1 : W0.cell? ⟨w.heap.size, 1, none⟩ = some (.slice A n c) := by rw [hW0]; go_simp
  have HW := Lib.hid hW0
  have B0 := Lib.hid b0
  have B1 := Lib.hid b1
  have b0A := fun (o : Obj) => cell_in ((Past.refl W0).alloc o) b0
  clear hW0
  have hW1s : (W0.alloc (.cells #[.int .i64 99999] 3)).heap.size = w.heap.size + 1 + 1 := by rw [World.size_alloc, hsz]
  have hc9 : (W0.alloc (.cells #[.int .i64 99999] 3)).cell? ⟨w.heap.size + 1, 0, none⟩ = some (.int .i64 99999) := by rw [← hsz]; go_simp
  go_enter Try.func84, Try.ntmps84
  go_wp2_with fail
  clear b0A
  rw [← HW.out]
  clear HW
  refine (repeatI_any (w.heap.size + 1) M 99999 _ (by omega) hc9).mono ?_
  rintro e w2 ⟨rfl, hrep, hb2⟩
  rw [hW1s] at hrep ⊢
  obtain ⟨W1, hW1⟩ : ∃ W1, W1 = W0.alloc (.cells #[.int .i64 99999] 3) := ⟨_, rfl⟩
  have hp01 : Past W0 W1 := by rw [hW1]; exact (Past.refl _).alloc _
  rw [← hW1] at hb2 hW1s
  have hrow0 := RowI.of_rep hrep
  rw [← wayRow_zero M xs ps] at hrow0
  have hb2 : Past W1 w2 := hb2
  clear hrep hc9 hW1
  go_wp2
  go_loopw [22] (fun i wr => ∃ k : Nat, k ≤ p ∧ i = .int .i64 k ∧ RowI wr (w.heap.size + 1 + 1) (wayRow M xs ps k 0) ∧ Past W1 wr) (fun i _ => p - (intOf i).toNat)
  case atStart => exact ⟨0, by omega, rfl, hrow0, hb2⟩
  case round =>
    obtain ⟨k, hkp, rfl, hrow, hb⟩ := hrel
    have hbw := (hpW.trans hp01).trans hb
    have b0 := cell_in (hp01.trans hb) B0.out
    have b1 := cell_in (hp01.trans hb) B1.out
    by_cases hlt : k < p
    · obtain ⟨y, ha⟩ : ∃ a, ps[k]? = some a := ⟨_, List.getElem?_eq_getElem (by have := HPS.out; omega)⟩
      obtain ⟨gy, oy, rfl, c0⟩ := (hpa.below hbw) k _ ha
      have hyb := HIN1.out y (List.mem_of_getElem? ha)
      have HY : Hid (at_ ps (k : Int) = y) := by rw [Hid, at_, Int.toNat_natCast, List.getD_eq_getElem?_getD, ha]; rfl
      have i0 : (0 : Int) ≤ (k : Int) := by omega
      have i1 : (k : Int) < (p : Int) := by omega
      have hH : hereB (M : Int) xs y = true := (hereB_iff _ _ _).2 ⟨HB.out, hyb⟩
      have hN1 : nearI (M : Int) xs y = nearL M xs y := by rw [nearI, if_pos hH, Int.toNat_natCast]
      have HN1 := Lib.hid hN1
      clear ha hH hN1
      go_wp2_with fail
      refine (implNearAll_any (M : Int) A n c xs y _ (by omega) HX.out (hx.below hbw)).mono ?_
      rintro e w4 ⟨v4, rfl, hv4, hb4⟩
      rw [HN1.out] at hv4
      obtain ⟨D, cd, rfl, hd4, ho4⟩ := hv4.form
      rw [nearL_length] at ho4 ⊢
      obtain ⟨d, hd⟩ : ∃ d, d = nearL M xs y := ⟨_, rfl⟩
      rw [← hd] at hd4
      have hdl : d.length = M := by rw [hd, nearL_length]
      have hgr := hrow.1.lt
      have hneD : blk D ≠ some (w.heap.size + 1 + 1) := ho4.ne_blk hgr
      have hrow4 := hrow.below hb4
      have hbb := hb.trans hb4
      have HDL := Lib.hid hdl
      have HST : Hid (∀ v : Nat, v < M → wayTo M xs ps (v : Int) (k + 1) = min (wayTo M xs ps (v : Int) k) (at_ d (v : Int))) := fun v hv => by
        rw [wayTo, HY.out, ← hd]
        split <;> omega
      clear hv4 ho4 hd hdl hrow hb4 c0
      go_wp2
      go_loopw [30] (fun i wr => ∃ j : Nat, j ≤ M ∧ i = .int .i64 j ∧ RowI wr (w.heap.size + 1 + 1) (wayRow M xs ps k j) ∧ w4.grownBy wr (some (w.heap.size + 1 + 1)) ∧ Past W1 wr) (fun i _ => M - (intOf i).toNat)
      case atStart => exact ⟨0, by omega, rfl, hrow4, grown_refl _ _, hbb⟩
      case round =>
        obtain ⟨j, hj, rfl, hrow, hg, hb⟩ := hrel
        by_cases hlj : j < M
        · obtain ⟨x, hx0⟩ : ∃ x, x = at_ d (j : Int) := ⟨_, rfl⟩
          obtain ⟨gd, od, rfl, d0⟩ := (hd4.grown hg (fun b e => by injection e with e; rw [← e]; exact hneD)) j x (by rw [hx0]; exact getElem_at d j (by rw [HDL.out]; exact hlj))
          obtain ⟨z, hz⟩ : ∃ z, z = wayTo M xs ps (j : Int) k := ⟨_, rfl⟩
          obtain ⟨gr, og, er, c0⟩ := hrow.2 j z (by rw [wayRow_get hlj, if_neg (by omega), hz])
          injection er with er
          injection er with er1 er2
          subst er1 er2
          rw [Nat.zero_add] at c0
          have z0 := hrow.1.frozen j
          have HS := HST.out j hlj
          rw [← hx0, ← hz] at HS
          have hset := hrow.set j (wayTo M xs ps (j : Int) (k + 1)) (by rw [wayRow_len]; exact hlj)
          rw [wayRow_step, HS] at hset
          have HSET := Lib.hid hset
          have HG2 := Lib.hid (grown_set hg j (.int .i64 (min z x)))
          have HB2 := Lib.hid (show Past W1 (wr.setCell ⟨w.heap.size + 1 + 1, j, none⟩ (.int .i64 (min z x))) from Below.setCell hb (by simp only; omega) _)
          have j0 : (0 : Int) ≤ (j : Int) := by omega
          have j1 : (j : Int) < (M : Int) := by omega
          clear hx0 hz hset HS
          go_wp2
          go_roundw
          case rel => exact ⟨j + 1, by omega, by go_num, HSET.out, HG2.out, HB2.out⟩
          case measure => simp [intOf]; omega
        · obtain rfl : j = M := by omega
          go_wp2
          go_roundw
          case rel => exact ⟨k + 1, by omega, by go_num, by rw [← wayRow_next]; exact hrow, hb⟩
          case measure => simp [intOf]; omega
    · obtain rfl : k = p := by omega
      have hkq := hk.below hbw
      have HNE : Hid (∀ v : Nat, nearestI M xs ks (v : Int) = capI (wayTo M xs ps (v : Int) k)) := fun v => by rw [nearestI, HSE.out, HPS.out]
      have HROW := Lib.hid hrow
      clear hrow
      go_wp2
      go_loopw [12, 13, 48] (fun nn bb i wq => ∃ j : Nat, j ≤ M ∧ i = .int .i64 j ∧ bb = .int .i64 (pickTo M xs ks j).2 ∧ nn = .int .i64 (pickTo M xs ks j).1 ∧ Past wr wq) (fun _ _ i _ => M - (intOf i).toNat)
      case atStart => exact ⟨0, by omega, rfl, rfl, rfl, Past.refl _⟩
      case round =>
        obtain ⟨j, hj, rfl, rfl, rfl, hbq⟩ := hrel
        by_cases hjl : j < M
        · obtain ⟨x, hx0⟩ : ∃ x, x = wayTo M xs ps (j : Int) k := ⟨_, rfl⟩
          obtain ⟨gr, og, er, c0⟩ := (HROW.out.below hbq).2 j x (by rw [wayRow_get hjl, if_neg (by omega), hx0])
          injection er with er
          injection er with er1 er2
          subst er1 er2
          rw [Nat.zero_add] at c0
          obtain ⟨X, hX⟩ : ∃ X, X = (pickTo M xs ks j).1 := ⟨_, rfl⟩
          obtain ⟨C, hC⟩ : ∃ C, C = (pickTo M xs ks j).2 := ⟨_, rfl⟩
          have HYES : Hid (inL ks (j : Int) = false → C < capI x → pickTo M xs ks (j + 1) = ((j : Int), capI x)) := fun q1 q2 => by rw [hx0, ← HNE.out]; exact pickTo_yes q1 (by rw [← hC, HNE.out, ← hx0]; exact q2)
          have HNO : Hid ((inL ks (j : Int) = true ∨ ¬ C < capI x) → pickTo M xs ks (j + 1) = (X, C)) := fun q => by rw [pickTo_no (by rw [← hC, HNE.out, ← hx0]; exact q), hX, hC]
          have j0 : (0 : Int) ≤ (j : Int) := by omega
          have j1 : (j : Int) < (M : Int) := by omega
          rw [← hX, ← hC]
          clear hx0 hX hC
          by_cases hx9 : x = 99999
          · subst hx9
            have HCAP : Hid (capI 99999 = 0) := rfl
            by_cases hcz : C < (0 : Int)
            · go_wp2_with fail
              refine (contains_any B l cb ks (j : Int) _ (by omega) HKL.out (hkq.below hbq)).mono ?_
              rintro e w7 ⟨rfl, hb7⟩
              have hbq7 := hbq.trans hb7
              cases hin : inL ks (j : Int) with
              | true =>
                have HM := Lib.hid (HNO.out (.inl hin))
                clear hin
                go_wp2
                go_roundw
                case rel => exact ⟨j + 1, by omega, by go_num, by rw [HM.out], by rw [HM.out], hbq7⟩
                case measure => simp [intOf]; omega
              | false =>
                have HM := Lib.hid (HYES.out hin (by rw [HCAP.out]; exact hcz))
                clear hin
                go_wp2
                go_roundw
                case rel => exact ⟨j + 1, by omega, by go_num, by rw [HM.out, HCAP.out], by rw [HM.out], hbq7⟩
                case measure => simp [intOf]; omega
            · have HM := Lib.hid (HNO.out (.inr (by rw [HCAP.out]; exact hcz)))
              go_wp2
              go_roundw
              case rel => exact ⟨j + 1, by omega, by go_num, by rw [HM.out], by rw [HM.out], hbq⟩
              case measure => simp [intOf]; omega
          · have HCAP : Hid (capI x = x) := by rw [Hid, capI, if_neg hx9]
            by_cases hcz : C < x
            · go_wp2_with fail
              refine (contains_any B l cb ks (j : Int) _ (by omega) HKL.out (hkq.below hbq)).mono ?_
              rintro e w7 ⟨rfl, hb7⟩
              have hbq7 := hbq.trans hb7
              cases hin : inL ks (j : Int) with
              | true =>
                have HM := Lib.hid (HNO.out (.inl hin))
                clear hin
                go_wp2
                go_roundw
                case rel => exact ⟨j + 1, by omega, by go_num, by rw [HM.out], by rw [HM.out], hbq7⟩
                case measure => simp [intOf]; omega
              | false =>
                have HM := Lib.hid (HYES.out hin (by rw [HCAP.out]; exact hcz))
                clear hin
                go_wp2
                go_roundw
                case rel => exact ⟨j + 1, by omega, by go_num, by rw [HM.out, HCAP.out], by rw [HM.out], hbq7⟩
                case measure => simp [intOf]; omega
            · have HM := Lib.hid (HNO.out (.inr (by rw [HCAP.out]; exact hcz)))
              go_wp2
              go_roundw
              case rel => exact ⟨j + 1, by omega, by go_num, by rw [HM.out], by rw [HM.out], hbq⟩
              case measure => simp [intOf]; omega
        · obtain rfl : j = M := by omega
          go_wp2
          go_ret
          exact ⟨rfl, hbw.trans hbq⟩

end Go.Proofs.Ytgeoheeibebmcab

namespace Go.Proofs.Ytgeoheeibebmcab
open Go.RowKit

set_option maxRecDepth 100000 in
set_option maxHeartbeats 4000000 in
theorem implMarkPick_any (m : Int) (A : Option Addr) (n c : Nat) (xs : List ArcD) (many : Int) (w : World) (hn : n ≤ 1048576) (hnx : xs.length = n) (hx : ArcsAt w A xs) :
    Calls Try.prog 40 #[.agg #[.int .i64 m, .slice A n c], .int .i64 many] w (Gives w (choseI m xs many)) := by
  have HX := Lib.hid hnx
  clear hnx
  obtain ⟨i0, hi, hz0, hz1, hz2⟩ := info_parts infoInt
  have hb0 : Past w (w.alloc (.cells #[.int .i64 m, .slice A n c] 25)) := (Past.refl _).alloc _
  go_enter Try.func40, Try.ntmps40
  go_wp2_with fail
  refine (implNetOk_any m A n c xs _ hn HX.out (hx.below hb0)).mono ?_
  rintro e w1 ⟨rfl, hb1⟩
  have b0 := cell_in (p := ⟨w.heap.size, 0, none⟩) (v := .int .i64 m) hb1 (by go_simp)
  have b1 := cell_in (p := ⟨w.heap.size, 1, none⟩) (v := .slice A n c) hb1 (by go_simp)
  have hp1 := hb0.trans hb1
  have hws : w.heap.size < w1.heap.size := lt_of_cell b0
  clear hb0 hb1
  cases hB : netB m xs with
  | false =>
    have HB := Lib.hid hB
    clear hB
    go_wp2
    go_ret
    exact ⟨_, rfl, by rw [choseI, HB.out]; exact Res.nil _ _, hp1⟩
  | true =>
    obtain ⟨M, rfl, h1, h8⟩ := here_nat hB
    have h16 := ((netB_iff _ _).1 hB).2.1
    rw [HX.out] at h16
    have HB := Lib.hid hB
    clear hB
    go_wp2_with fail
    refine (within_any _ _ _).mono ?_
    rintro e w2 ⟨rfl, rfl⟩
    cases hI : inB many 0 (M : Int) with
    | false =>
      have HI := Lib.hid hI
      clear hI
      go_wp2
      go_ret
      exact ⟨_, rfl, by rw [choseI, HB.out, HI.out]; exact Res.nil _ _, hp1⟩
    | true =>
      have hmb := (inB_iff _ _ _).1 hI
      obtain ⟨Y, rfl⟩ : ∃ Y : Nat, many = (Y : Int) := ⟨many.toNat, by omega⟩
      have hYM : Y ≤ M := by omega
      have HRES : Hid (choseI (M : Int) xs (Y : Int) = pickL M xs Y) := by rw [Hid, choseI, HB.out, hI, if_pos (by rfl), Int.toNat_natCast, Int.toNat_natCast]
      have B0 := Lib.hid b0
      have B1 := Lib.hid b1
      clear hI hmb b0 b1
      go_wp2
      obtain ⟨W2, hW2⟩ : ∃ W2, W2 = w1.alloc (.cells #[.int .i64 0] 3) := ⟨_, rfl⟩
      have hp2 : Past w1 W2 := by rw [hW2]; exact (Past.refl _).alloc _
      have hz : IntsAt W2 (some ⟨w1.heap.size, 0, none⟩) [0] := fun k y hk => by
        cases k with
        | zero => simp at hk; subst hk; exact ⟨_, _, rfl, by rw [hW2]; go_simp⟩
        | succ k => simp at hk
      rw [← hW2]
      clear hW2
      go_loopw [5, 6] (fun v u wr => ∃ k : Nat, k ≤ Y ∧ Res wr w1.heap.size v (pickL M xs k) ∧ Past w1 wr ∧ ((k = 0 ∧ u = .slice (some ⟨w1.heap.size, 0, none⟩) 1 1 ∧ IntsAt wr (some ⟨w1.heap.size, 0, none⟩) [0]) ∨ (0 < k ∧ u = v))) (fun v _ _ => Y - lenOf v)
      case atStart => exact ⟨0, by omega, Res.nil _ _, hp2, .inl ⟨rfl, rfl, hz⟩⟩
      case round =>
        obtain ⟨k, hk, hv, hb, hu⟩ := hrel
        have HV := Lib.hid hv
        obtain ⟨A2, c2, e2, hi2, _⟩ := hv.form
        rw [pickL_len] at e2
        subst e2
        obtain ⟨ks, hks⟩ : ∃ ks, ks = pickL M xs k := ⟨_, rfl⟩
        have hkl : ks.length = k := by rw [hks, pickL_len]
        have hkin : ∀ y ∈ ks, 0 ≤ y ∧ y < (M : Int) := by rw [hks]; exact pickL_in h1 (arcsIn_net HB.out) k (by omega)
        rw [← hks] at hi2
        obtain ⟨P, p, cp, ps, rfl, hpl, hp8, hpa, hse⟩ : ∃ (P : Option Addr) (p cp : Nat) (ps : List Int), u6 = .slice P p cp ∧ ps.length = p ∧ p ≤ 8 ∧ IntsAt wr P ps ∧ seeds ks = ps := by
          rcases hu with ⟨h0, rfl, hz0⟩ | ⟨h0, rfl⟩
          · exact ⟨_, _, _, [0], rfl, rfl, by omega, hz0, by
              have : ks = [] := List.eq_nil_of_length_eq_zero (by omega)
              rw [this]; rfl⟩
          · exact ⟨_, _, _, ks, rfl, hkl, by omega, hi2, by
              unfold seeds
              rw [if_neg (fun e => by rw [e] at hkl; simp at hkl; omega)]⟩
        have HKS := Lib.hid hks
        have HKL := Lib.hid hkl
        have HKI := Lib.hid hkin
        have HPL := Lib.hid hpl
        have HSE := Lib.hid hse
        have b0 := cell_in hb B0.out
        have b1 := cell_in hb B1.out
        have hs2 := hb.size
        clear hv hks hkl hkin hpl hse hu
        by_cases hlt : k < Y
        · have y0 : (k : Int) < (Y : Int) := by omega
          go_wp2_with fail
          refine (farthest_any M A n c xs P p cp ps A2 k c2 ks _ h8 h1 h16 HX.out ((hx.below hp1).below hb) HB.out hp8 HPL.out hpa HSE.out (by omega) HKL.out hi2 HKI.out).mono ?_
          rintro e w4 ⟨rfl, hb4⟩
          have hv := HV.out.below hb4
          have hbz := hb.trans hb4
          have hzs := hbz.size
          obtain ⟨X, hX⟩ : ∃ X, X = (pickTo M xs ks M).1 := ⟨_, rfl⟩
          have HN : Hid (pickL M xs (k + 1) = pickL M xs k ++ [X]) := by rw [Hid, pickL, hX, HKS.out]
          unfold Res at hv
          rw [pickL_len] at hv
          rw [← hX]
          clear hX
          go_wp2_with (first | (at_builtin; refine wpList_append_own _ rfl _ _ 28 rfl w1.heap.size 3 i0 (.int .i64 0) 1 8 Try.underlying28 hi hz0 hz1 hz2 rfl (by decide) _ _ _ rfl (hv.alloc _) ⟨w4.heap.size, 0, none⟩ 1 1 [.int .i64 X] rfl rfl (cell_one_new _ _ _) (one_cell X) (by unfold maxLen; omega) (by omega) (by simp; omega) ?_; intro v' w6 hown' hgrow6 hnil6))
          go_roundw
          case rel => exact ⟨k + 1, by omega, Res.step hown' (by rw [pickL_len]) HN.out, Past.grown (hbz.alloc _) (hv.alloc _) hgrow6 (Nat.le_refl _), .inr ⟨by omega, rfl⟩⟩
          case measure =>
            obtain ⟨gv, cv, hvf, _, _⟩ := World.ownsRow.form hown' (by omega)
            rw [hvf]
            simp [lenOf]
            omega
        · obtain rfl : k = Y := by omega
          have hv := HV.out
          go_wp2
          go_ret
          exact ⟨_, rfl, by rw [HRES.out]; exact hv.lower (by omega), hp1.trans hb⟩

end Go.Proofs.Ytgeoheeibebmcab

namespace Go.Proofs.Ytgeoheeibebmcab
open Go.RowKit

theorem Res.form2 {w : World} {lo : Nat} {v : Value} {zs : List Int} (h : Res w lo v zs) : ∃ A c, v = .slice A zs.length c ∧ IntsAt w A zs ∧ zs.length ≤ c ∧ c ≤ maxLen ∧ ((A = none ∧ zs.length = 0 ∧ c = 0) ∨ ∃ g, A = some ⟨g, 0, none⟩) := by
  obtain ⟨A, c, rfl, hi, _⟩ := h.form
  rcases h.2 with ⟨e, h0⟩ | ⟨g, cap, cur, e, hlo, hh, hn, hm, hs, ht⟩
  · injection e with e1 e2 e3
    subst e1 e3
    exact ⟨_, _, rfl, hi, by omega, by omega, .inl ⟨rfl, h0, rfl⟩⟩
  · injection e with e1 e2 e3
    subst e1 e3
    exact ⟨_, _, rfl, hi, hn, hm, .inr ⟨g, rfl⟩⟩


end Go.Proofs.Ytgeoheeibebmcab

namespace Go.Proofs.Ytgeoheeibebmcab
open Go.RowKit

set_option maxRecDepth 100000 in
set_option maxHeartbeats 1000000 in
theorem wkIn_not (A : Option Addr) (n c : Nat) (xs : List Int) (x : Int) (w : World) (hn : n ≤ 1048576) (hl : xs.length = n) (hx : IntsAt w A xs) (hno : x ∉ xs) :
    Calls Try.prog 21 #[.slice A n c, .int .i64 x] w fun e w' => e = .returned (.bool false) ∧ Below w.heap.size w w' := by
  go_enter Try.func21, Try.ntmps21
  go_wp2
  go_loopw [5] (fun i wr => ∃ k : Nat, k ≤ n ∧ i = .int .i64 k ∧ Past w wr) (fun i _ => n - (intOf i).toNat)
  case atStart => exact ⟨0, by omega, rfl, Past.refl _⟩
  case round =>
    obtain ⟨k, hk, rfl, hb⟩ := hrel
    by_cases hlt : k < n
    · obtain ⟨x0, ha⟩ : ∃ a, xs[k]? = some a := ⟨_, List.getElem?_eq_getElem (by omega)⟩
      obtain ⟨g, o, rfl, c0⟩ := (hx.below hb) k _ ha
      have hi : (k : Int) < (n : Int) := by omega
      have h0 : (0 : Int) ≤ (k : Int) := by omega
      have hne : ¬ (x0 = x) := fun e => hno (by rw [← e]; exact List.mem_of_getElem? ha)
      clear ha hl hno
      go_wp2
      go_roundw
      case rel => exact ⟨k + 1, by omega, by go_num, hb⟩
      case measure => simp [intOf]; omega
    · go_wp2
      go_ret
      exact ⟨rfl, hb⟩

end Go.Proofs.Ytgeoheeibebmcab

namespace Go.Proofs.Ytgeoheeibebmcab
open Go.ChangeShapes Go.WideShapes Go.ChangeAt Go.RowKit

/-- What is read. -/
structure PickS (w0 W : World) (nb : Nat) (m : Int) (B : Option Addr) (k cap : Nat) (xs : List ArcD) (X : Option Addr) (ps : List Int) : Prop where
  past : Past w0 W
  arcs : ArcsAt W B xs
  n0 : W.cell? ⟨nb, 0, none⟩ = some (.int .i64 m)
  n1 : W.cell? ⟨nb, 1, none⟩ = some (.slice B k cap)
  list : IntsAt W X ps
theorem PickS.below {w0 W W' : World} {nb : Nat} {m : Int} {B : Option Addr} {k cap : Nat} {xs : List ArcD} {X : Option Addr} {ps : List Int} (h : PickS w0 W nb m B k cap xs X ps) (hb : Past W W') : PickS w0 W' nb m B k cap xs X ps :=
  ⟨h.past.trans hb, h.arcs.below hb, cell_in hb h.n0, cell_in hb h.n1, h.list.below hb⟩
theorem IntsAt.takeN {w : World} {A : Option Addr} {zs : List Int} (h : IntsAt w A zs) (i : Nat) : IntsAt w A (zs.take i) := fun k a hk => by
  rw [List.getElem?_take] at hk
  split at hk
  · exact h k a hk
  · cases hk

set_option maxRecDepth 100000 in
set_option maxHeartbeats 4000000 in
theorem fnMarkPick_walk (A : Option Addr) (n c : Nat) (w : World) (hn : n ≤ c) (hc : c ≤ maxLen) (hb : BytesAt w A n) :
    Calls Try.prog 10 #[.slice A n c] w fun e w' => e = .returned (.bool true) ∧ Below w.heap.size w w' := by
  by_cases h1 : 1048576 < n
  · have h1' : (1048576 : Int) < (n : Int) := by omega
    go_enter Try.func10, Try.ntmps10
    go_wp2
    go_ret
    exact ⟨rfl, Below.refl _ _⟩
  have h1' : ¬ (1048576 : Int) < (n : Int) := by omega
  go_enter Try.func10, Try.ntmps10
  go_wp2_with fail
  refine (drawMarkPick_any A n c w hn hc hb).mono ?_
  rintro e w1 ⟨m, B, k, cap, xs, y, rfl, hxk, hk, hx1, hform, hy0, hb1⟩
  have HX := Lib.hid hxk
  clear hxk hb hn hc
  have hpW : Past w1 (w1.alloc (.cells #[.int .i64 m, .slice B k cap] 25)) := (Past.refl w1).alloc _
  have hkk : k ≤ 1048576 := by omega
  go_wp2_with fail
  refine (implMarkPick_any m B k cap xs y _ hkk HX.out (hx1.below hpW)).mono ?_
  rintro e w2 ⟨v2, rfl, hv2, hb2⟩
  have b0 := cell_in (p := ⟨w1.heap.size, 0, none⟩) (v := .int .i64 m) hb2 (by go_simp)
  have b1 := cell_in (p := ⟨w1.heap.size, 1, none⟩) (v := .slice B k cap) hb2 (by go_simp)
  have hx2 := (hx1.below hpW).below hb2
  have hp2 : Past w w2 := Past.trans hb1 (hpW.trans hb2)
  obtain ⟨X, cx, rfl, hs2, hcx, hcm, _⟩ := hv2.form2
  obtain ⟨ps, hps⟩ : ∃ ps, ps = choseI m xs y := ⟨_, rfl⟩
  rw [← hps] at hs2 hcx ⊢
  obtain ⟨R, hR⟩ : ∃ R, R = ps.length := ⟨_, rfl⟩
  have hR1 : R ≤ 1048576 := by rw [hR, hps]; exact choseI_len m xs y
  rw [← hR] at hcx ⊢
  have HPS := Lib.hid hps
  have HR := Lib.hid hR.symm
  clear hps hR hv2 hx1 hb1 hb2 hpW
  go_wp2_with fail
  refine (specMarkPick_any m B k cap xs y _ hkk HX.out hx2).mono ?_
  rintro e w3 ⟨v3, rfl, hv3, hb3⟩
  obtain ⟨F, cf, rfl, hs3, _⟩ := hv3.form
  rw [← HPS.out] at hs3 ⊢
  rw [HR.out]
  have b0 := cell_in hb3 b0
  have b1 := cell_in hb3 b1
  have hx3 := hx2.below hb3
  have hs23 := hs2.below hb3
  have hp3 := Past.trans hp2 hb3
  clear hv3 hx2 hs2 hb3 hp2
  go_wp2_with fail
  refine (wkInts_same X F R cx cf ps _ hR1 HR.out hs23 hs3).mono ?_
  rintro e w4 ⟨rfl, hb4⟩
  have b0 := cell_in hb4 b0
  have b1 := cell_in hb4 b1
  have hx4 := hx3.below hb4
  have hs4 := hs23.below hb4
  have hp4 := Past.trans hp3 hb4
  clear hx3 hs23 hs3 hb4 hp3
  go_wp2_with fail
  refine (implNetOk_any m B k cap xs _ hkk HX.out hx4).mono ?_
  rintro e w5 ⟨rfl, hb5⟩
  have b0 := cell_in hb5 b0
  have b1 := cell_in hb5 b1
  have hx5 := hx4.below hb5
  have hs5 := hs4.below hb5
  have hp5 := Past.trans hp4 hb5
  clear hx4 hs4 hb5 hp4
  cases hN : netB m xs with
  | false =>
    clear hN
    go_wp2_with fail
    refine (specMarkPick_any m B k cap xs y _ hkk HX.out hx5).mono ?_
    rintro e w6 ⟨v6, rfl, hv6, hb6⟩
    obtain ⟨G, cg, rfl, hs6, _⟩ := hv6.form
    rw [← HPS.out] at hs6 ⊢
    rw [HR.out]
    go_wp2_with fail
    refine (wkInts_same X G R cx cg ps _ hR1 HR.out (hs5.below hb6) hs6).mono ?_
    rintro e w7 ⟨rfl, hb7⟩
    go_wp2
    go_ret
    exact ⟨rfl, (Past.trans hp5 hb6).trans hb7⟩
  | true =>
    by_cases hym : m < y
    · clear hN
      go_wp2_with fail
      refine (specMarkPick_any m B k cap xs y _ hkk HX.out hx5).mono ?_
      rintro e w6 ⟨v6, rfl, hv6, hb6⟩
      obtain ⟨G, cg, rfl, hs6, _⟩ := hv6.form
      rw [← HPS.out] at hs6 ⊢
      rw [HR.out]
      go_wp2_with fail
      refine (wkInts_same X G R cx cg ps _ hR1 HR.out (hs5.below hb6) hs6).mono ?_
      rintro e w7 ⟨rfl, hb7⟩
      go_wp2
      go_ret
      exact ⟨rfl, (Past.trans hp5 hb6).trans hb7⟩
    · obtain ⟨M, rfl, hM1, hM8⟩ := here_nat hN
      obtain ⟨Y, rfl⟩ : ∃ Y : Nat, y = (Y : Int) := ⟨y.toNat, by omega⟩
      have hYM : Y ≤ M := by omega
      have hpl : ps = pickL M xs Y := by rw [HPS.out, choseI, hN, (inB_iff _ _ _).2 ⟨by omega, by omega⟩, if_pos (by rfl), Int.toNat_natCast, Int.toNat_natCast]
      obtain rfl : R = Y := by rw [← HR.out, hpl, pickL_len]
      have hfew : ∀ q : Nat, q ≤ R → choseI (M : Int) xs (q : Int) = ps.take q := fun q hq => by
        rw [choseI, hN, (inB_iff _ _ _).2 ⟨by omega, by omega⟩, if_pos (by rfl), Int.toNat_natCast, Int.toNat_natCast, hpl, pickL_take M xs R q hq]
      have hnew : ∀ (i : Nat) (x : Int), ps[i]? = some x → x ∉ ps.take i ∧ 0 ≤ x ∧ x < (M : Int) := fun i x hx => by
        have hi : i < R := by rw [← HR.out]; exact (List.getElem?_eq_some_iff.1 hx).1
        have hin := pickL_in hM1 (arcsIn_net hN) i (by omega)
        have hw := pickTo_new (xs := xs) hM1 (arcsIn_net hN) hin (by rw [pickL_len]; omega)
        have e1 : ps.take (i + 1) = pickL M xs i ++ [(pickTo M xs (pickL M xs i) M).1] := by rw [hpl, pickL_take M xs R (i + 1) (by omega)]; rfl
        have e2 : ps.take i = pickL M xs i := by rw [hpl, pickL_take M xs R i (by omega)]
        have e3 : ps.take (i + 1) = ps.take i ++ [x] := by rw [List.take_add_one, hx]; rfl
        rw [e1, e2] at e3
        have := List.append_cancel_left e3
        simp at this
        rw [e2, ← this]
        exact ⟨hw.2.2, hw.1, hw.2.1⟩
      have HN := Lib.hid hN
      have HFEW := Lib.hid hfew
      have HNEW := Lib.hid hnew
      have hym' : ¬ (M : Int) < (R : Int) := by omega
      have hymn : ¬ M < R := by omega
      have gq : decide (M < R) = false := decide_eq_false hymn
      clear hN hpl hfew hnew hym
      go_wp2
      go_loopw [6] (fun i wr => ∃ j : Nat, j ≤ R ∧ i = .int .i64 j ∧ Past w5 wr) (fun i _ => R - (intOf i).toNat)
      case atStart => exact ⟨0, by omega, rfl, Past.refl _⟩
      case round =>
        obtain ⟨j, hj, rfl, hbr⟩ := hrel
        by_cases hlt : j < R
        · obtain ⟨x, hx⟩ : ∃ a, ps[j]? = some a := ⟨_, List.getElem?_eq_getElem (by have := HR.out; omega)⟩
          obtain ⟨hno, hx0, hxM⟩ := HNEW.out j x hx
          obtain ⟨g, o, rfl, c0⟩ := (hs5.below hbr) j x hx
          have j0 : (0 : Int) ≤ (j : Int) := by omega
          have j1 : (j : Int) < (R : Int) := by omega
          have j2 : (j : Int) ≤ (cx : Int) := by omega
          have hxn : ¬ x < 0 := by omega
          have g1 : decide (x < 0) = false := decide_eq_false hxn
          have hxm : ¬ (M : Int) ≤ x := by omega
          have hli := (hs5.below hbr).takeN j
          have C1 := Lib.hid (fun q : PastOf wr => wkIn_not (some ⟨g, o, none⟩) j cx (ps.take j) x q.W (by omega) (by rw [List.length_take, HR.out]; omega) (hli.below q.h) hno)
          have B0 := past_cell (cell_in hbr b0)
          have C0 := past_cell c0
          clear hx hno c0
          go_wp2_with fail
          refine wp_region_past (by kernel_rfl) (by kernel_rfl) ?_
          repeat (go_big_quiet_step (with_reducible exact rfl))
          go_big_quiet_step ((go_at_call 21; exact past_call (C1.out _)))
          repeat (go_big_quiet_step (with_reducible exact rfl))
          refine wpQuiet_nil ?_
          rintro _ ⟨⟨W8, hW8⟩, rfl⟩
          go_wp2
          go_roundw
          case rel => exact ⟨j + 1, by omega, by go_num, hbr.trans hW8⟩
          case measure => simp [intOf]; omega
        · obtain rfl : j = R := by omega
          have hpz := hp5.trans hbr
          by_cases hj0 : j = 0
          · subst hj0
            go_wp2_with fail
            go_quiet (fail)
            go_wp2
            go_ret
            exact ⟨rfl, hpz.drewN _⟩
          · have hj1 : ¬ (j : Int) = 0 := by omega
            have hjb : ((j : Int) == 0) = false := by simpa using hj1
            obtain ⟨q, hq⟩ : ∃ q, q = j - 1 := ⟨_, rfl⟩
            have hw1 : IntKind.i64.wrap ((j : Int) - 1) = (q : Int) := by rw [IntWalk.i64_in _ (by omega)]; omega
            have q0 : (0 : Int) ≤ (q : Int) := by omega
            have q2 : (q : Int) ≤ (cx : Int) := by omega
            have hfq := HFEW.out q (by omega)
            have hlq : (ps.take q).length = q := by rw [List.length_take, HR.out]; omega
            have HFQ := Lib.hid hfq
            have HLQ := Lib.hid hlq
            have hq1 : q ≤ 1048576 := by omega
            have hS : PickS w wr.drew w1.heap.size (M : Int) B k cap xs X ps := ⟨hpz.drew, hx5.below hbr.drew, cell_in hbr.drew b0, cell_in hbr.drew b1, hs5.below hbr.drew⟩
            have b0 := hS.n0
            have b1 := hS.n1
            clear hfq hlq hq
            go_wp2_with fail
            go_region_held3 (fun w' => w'.cell? ⟨w1.heap.size, 0, none⟩ = some (.int .i64 (M : Int)) ∧ w'.cell? ⟨w1.heap.size, 1, none⟩ = some (.slice B k cap)) (go_keep)
              (first
                | (go_at_call 40; refine (implMarkPick_any (M : Int) B k cap xs (q : Int) _ hkk HX.out hS.arcs).mono ?_; rintro e w9 ⟨v9, rfl, hv9, hb9⟩; rw [HFQ.out] at hv9; obtain ⟨Z, cz, rfl, hz9, _⟩ := hv9.form; rw [HLQ.out]; have hS := hS.below hb9; have b0 := hS.n0; have b1 := hS.n1)
                | (go_at_call 17; refine (wkInts_same Z X q cz cx (ps.take q) _ hq1 HLQ.out hz9 (hS.list.takeN q)).mono ?_; rintro e w10 ⟨rfl, hb10⟩; have hS := hS.below hb10; have b0 := hS.n0; have b1 := hS.n1))
            go_wp2
            go_ret
            exact ⟨rfl, hS.past⟩

set_option maxRecDepth 100000 in
theorem fnMarkPick_lifted (os : Os) (started : os.Started) (H : Type) (enc : TypeId × Value → H) :
    ReturnsInHanded {} Try.checked os 10 .any (Rows.fnMarkPickSpec.pre6 enc Try.prog Try.f10 Rows.fnMarkPickRow.domain false) (Rows.fnMarkPickSpec.post enc Try.prog Try.f10 false true false false) := by
  refine returnsInHanded_of_change (C := Try.checked) own started (by kernel_rfl) Try.func10
    (ChangeSpec.witness6 (enc := enc) (C := Try.checked) false ⟨#[], #[.slice none 0 0], []⟩ 8 (by kernel_rfl) (by kernel_rfl) (by kernel_rfl) (by kernel_rfl)) ?_
  intro W base args ds gs before hval0 hW hcnd _
  have hval : ∀ (j : Nat) t v, Try.f10.params[j]? = some t → args[j]? = some v → Value.okWide Try.prog W .any base t v := hval0
  have hW' := hW
  obtain ⟨p, q, hA0, hV, rfl, hfz, hnd⟩ := hW
  have hA : DataW.TrodAll enc Try.prog W 0 (fun _ => true) true Try.f10.params.toList args.toList ds p := hA0
  rw [Try.params10] at hA hval
  obtain ⟨v0, vs0, d0, ds0, p0, q0, hargs, rfl, rfl, h0, r0⟩ := trodAll_cons hA
  obtain ⟨rfl, rfl, rfl⟩ := trodAll_nil r0
  obtain rfl : args = #[v0] := by cases args; simp_all
  obtain ⟨rfl, rfl⟩ := trodVars_none hV
  have k0 := h0
  have lt0 := places_lt k0
  obtain ⟨A0, n0, c0, rfl, hn0, hc0, hb0⟩ := open_bytes (hval 0 22 v0 rfl rfl) h0
  clear hA0 hval0
  refine (fnMarkPick_walk A0 n0 c0 W hn0 hc0 hb0).mono fun e W' ⟨he, bel⟩ => ?_
  subst he
  exact ⟨_, rfl, _, _, _, [], _, [], hW', trodAll_mk1 (shut_bool Try.underlying4 _), (trodAll_cons_mk (Below.trod laidOut (by kernel_rfl) (of_decide_eq_true (by kernel_rfl)) k0 bel lt0) trodAll_mk0), rfl, bel.frame _, fun h => by cases h⟩

/-- The given statement. -/
theorem fnMarkPick_proved : Rows.FnMarkPickSaid :=
  OpenClaim.holds_of_wide 10 Try.f10 rfl rfl rfl rfl rfl rfl rfl ⟨rfl, rfl, rfl, rfl, rfl⟩ rfl rfl rfl rfl rfl (by kernel_rfl) Try.func10 (by kernel_rfl)
    (of_decide_eq_true (by kernel_rfl)) (by unfold Func.isWrapper; first | (rw [if_pos (by decide +kernel)]; kernel_rfl) | (rw [if_neg (by decide +kernel)]; exact ⟨rfl, rfl⟩))
    (fun os started H enc _ => fnMarkPick_lifted os started H enc)

end Go.Proofs.Ytgeoheeibebmcab
