/-
  FnReachIn answers true at every input: told are those nodes that are near enough, and with one more of cost no fewer. No condition.
-/
import Derived.Test.YtgeoheeibebmcabDrawNetOut
import Derived.Test.YtgeoheeibebmcabCost
import Derived.Test.YtgeoheeibebmcabOpenB
import Derived.Test.YtgeoheeibebmcabRInI
import Derived.Test.YtgeoheeibebmcabRInS
import Derived.Test.YtgeoheeibebmcabNAll
import Derived.Test.YtgeoheeibebmcabPWay
import Derived.Test.YtgeoheeibebmcabWkInts
import Derived.Test.YtgeoheeibebmcabQPast
namespace Go.Proofs.Ytgeoheeibebmcab
open Go.RowKit

/-- What is known between the draws of one statement. -/
structure CoI (w0 : World) (R lo : Nat) (A : Option Addr) (n c f rb nb : Nat) (m : Int) (B : Option Addr) (k cap : Nat) (xs : List ArcD) (u : World) : Prop where
  rd : RdF u R lo A n c f
  n0 : u.cell? ⟨nb, 0, none⟩ = some (.int .i64 m)
  n1 : u.cell? ⟨nb, 1, none⟩ = some (.slice B k cap)
  row : RowN u rb 25 2
  arcs : ArcsAt u B xs
  gr : w0.grownBy u (some R)

theorem CoI.alloc {w0 u : World} {R lo n c f rb nb k cap : Nat} {A B : Option Addr} {m : Int} {xs : List ArcD} (h : CoI w0 R lo A n c f rb nb m B k cap xs u) (o : Obj) : CoI w0 R lo A n c f rb nb m B k cap xs (u.alloc o) :=
  ⟨h.rd.alloc o, cell_in ((Past.refl u).alloc o) h.n0, cell_in ((Past.refl u).alloc o) h.n1, h.row.keep (Below.heap_alloc u o _ h.row.lt), h.arcs.below ((Past.refl u).alloc o), grown_trans h.gr (World.grownBy_alloc u o _)⟩
theorem CoI.drew {w0 u : World} {R lo n c f rb nb k cap : Nat} {A B : Option Addr} {m : Int} {xs : List ArcD} (h : CoI w0 R lo A n c f rb nb m B k cap xs u) : CoI w0 R lo A n c f rb nb m B k cap xs u.drew :=
  ⟨h.rd.drew, h.n0, h.n1, h.row, h.arcs, ⟨h.gr.os, h.gr.tape, h.gr.output, h.gr.size, h.gr.block⟩⟩
theorem CoI.step {w0 u u' : World} {R lo n c f f' rb nb k cap : Nat} {A B : Option Addr} {m : Int} {xs : List ArcD} (h : CoI w0 R lo A n c f rb nb m B k cap xs u) (hr : RdF u' R lo A n c f') (hg : u.grownBy u' (some R)) (h1 : nb ≠ R) (h2 : rb ≠ R) (h3 : blk B ≠ some R) : CoI w0 R lo A n c f' rb nb m B k cap xs u' :=
  ⟨hr, cell_far hg h.n0 h1, cell_far hg h.n1 h1, h.row.young hg h2, h.arcs.grown hg (fun b e => by injection e with e; rw [← e]; exact h3), grown_trans h.gr hg⟩

end Go.Proofs.Ytgeoheeibebmcab

namespace Go.Proofs.Ytgeoheeibebmcab
open Go.RowKit

/-- A net, a node and a cost were drawn. -/
def DrawReachG (w : World) (e : Ending) (w' : World) : Prop :=
  ∃ (m : Int) (B : Option Addr) (k cap : Nat) (xs : List ArcD) (a b : Int), e = .returned (.tuple #[.agg #[.int .i64 m, .slice B k cap], .int .i64 a, .int .i64 b]) ∧ xs.length = k ∧ k ≤ 13 ∧ ArcsAt w' B xs ∧ ((B = none ∧ k = 0) ∨ ∃ g o, B = some ⟨g, o, none⟩) ∧ b ∈ [0, 3, 10, 50, -1, 999] ∧ Below w.heap.size w w' ∧ ∀ g, g < w.heap.size → blk B ≠ some g

set_option maxRecDepth 100000 in
set_option maxHeartbeats 4000000 in
theorem drawReachIn_any (A : Option Addr) (n c : Nat) (w : World) (hn : n ≤ c) (hc : c ≤ maxLen) (hb : BytesAt w A n) :
    Calls Try.prog 15 #[.slice A n c] w (DrawReachG w) := by
  have hpV : Past w (w.alloc (.cells #[.int .i64 0, .slice none 0 0] 25)) := (Past.refl w).alloc _
  go_enter Try.func15, Try.ntmps15
  go_wp2_with fail
  refine (open_any A n c _ hn hc (hb.below hpV)).mono ?_
  rintro e w1 ⟨R, n', c', rfl, hR, hrd, hb1⟩
  rw [World.size_alloc] at hR
  have hF : RdF w1 R _ A n' c' (26 + 83) := ⟨0, by omega, hrd⟩
  have r0 : RowN w1 w.heap.size 25 2 := by
    have r : RowN (w.alloc (.cells #[.int .i64 0, .slice none 0 0] 25)) w.heap.size 25 2 := ⟨_, heap_alloc_new w _, rfl⟩
    exact r.keep (hb1.block _ r.lt)
  have hp1 := hpV.trans hb1
  have hR1 := hF.at_
  clear hrd hb1 hpV
  go_wp2_with fail
  refine (l30AnyNet_any R _ A n' c' 26 w1 hF).mono ?_
  rintro e w2 ⟨m, B, k, cap, xs, rfl, hxk, hk, hxB, hoB, hr2, hg2⟩
  have hp2 : Past w w2 := Below.grown hp1 hg2 hp1.size (fun k e => by injection e with e; omega)
  have r2 := r0.young hg2 (by omega)
  have hBR : blk B ≠ some R := hoB.ne_blk hR1
  have hform := ownForm hoB
  have hfar : ∀ g, g < w.heap.size → blk B ≠ some g := fun g hg => hoB.ne_blk (Nat.lt_of_lt_of_le hg hp1.size)
  have hneB : blk B ≠ some w.heap.size := hoB.ne_blk (by omega)
  have s12 := hg2.size
  have hs2 : w.heap.size < w2.heap.size := r2.lt
  have hNR : w2.heap.size ≠ R := by omega
  have hwR : w.heap.size ≠ R := by omega
  obtain ⟨V, hV⟩ : ∃ V, V = w2.alloc (.cells #[.int .i64 m, .slice B k cap] 25) := ⟨_, rfl⟩
  have hpV : Past w2 V := by rw [hV]; exact (Past.refl w2).alloc _
  obtain ⟨lo, hV0⟩ : ∃ lo, CoI V R lo A n' c' (24 + 2) w.heap.size w2.heap.size m B k cap xs V := by
    rw [hV]
    exact ⟨_, hr2.alloc _, by go_simp, by go_simp, r2.keep (Below.heap_alloc _ _ _ r2.lt), hxB.below ((Past.refl w2).alloc _), grown_refl _ _⟩
  have hpV3 := hp2.trans hpV
  have hsV := hpV.size
  go_upto_region 3 with (fail)
  rw [← hV]
  clear hV hoB hr2 hg2 hxB r0 r2 hF hpV
  have b0 := hV0.n0
  have b1 := hV0.n1
  go_wp2_with fail
  refine (l30Node_any R _ A B n' c' 24 k cap m _ hV0.rd).mono ?_
  rintro e W ⟨zA, rfl, hr4, hg4⟩
  have hp3 : Past w W := Below.grown hpV3 hg4 hpV3.size (fun k e => by injection e with e; omega)
  have hI0 := hV0.step hr4 hg4 hNR hwR hBR
  have hI : CoI W R _ A n' c' 24 w.heap.size w2.heap.size m B k cap xs W := ⟨hI0.rd, hI0.n0, hI0.n1, hI0.row, hI0.arcs, grown_refl _ _⟩
  have hRW : R < W.heap.size := hI.rd.at_
  have hsW := hg4.size
  obtain ⟨W4, hW4⟩ : ∃ W4, W4 = W := ⟨_, rfl⟩
  subst hW4
  have b0 := hI.n0
  have b1 := hI.n1
  clear hI0 hr4 hg4 hV0 hpV3
  go_upto_region 4 with (fail)
  have hq0 : ∀ (u : World) (j : Nat) (x : Value), (u.setCell ⟨w.heap.size, j, none⟩ x).cell? ⟨w2.heap.size, 0, none⟩ = u.cell? ⟨w2.heap.size, 0, none⟩ := fun u j x => World.cell?_setCell_other _ _ _ _ (by intro e; injection e; omega)
  have hq1 : ∀ (u : World) (j : Nat) (x : Value), (u.setCell ⟨w.heap.size, j, none⟩ x).cell? ⟨w2.heap.size, 1, none⟩ = u.cell? ⟨w2.heap.size, 1, none⟩ := fun u j x => World.cell?_setCell_other _ _ _ _ (by intro e; injection e; omega)
  have nb0 := World.new_ne W4 _ b0
  have nb1 := World.new_ne W4 _ b1
  have hIa := (hI.alloc (.cells #[.int .i64 0, .int .i64 3, .int .i64 10, .int .i64 50, .int .i64 (-1), .int .i64 999] 3)).drew
  have ia1 : IntsAt (W4.alloc (.cells #[.int .i64 0, .int .i64 3, .int .i64 10, .int .i64 50, .int .i64 (-1), .int .i64 999] 3)).drew (some ⟨W4.heap.size, 0, none⟩) [0, 3, 10, 50, -1, 999] := ints_new W4 [0, 3, 10, 50, -1, 999] rfl _
  have cA := oneF (f := 23) (l := 6) (cb := 6) [0, 3, 10, 50, -1, 999] hIa.rd rfl (by omega) (by omega) ia1 (by omega)
  clear ia1 hI
  go_region_held3 (fun w' => w'.cell? ⟨w2.heap.size, 0, none⟩ = some (.int .i64 m) ∧ w'.cell? ⟨w2.heap.size, 1, none⟩ = some (.slice B k cap))
    (first | go_keep | (simp only [hq0, hq1]; assumption))
    (first
      | (go_at_call 55; (with_reducible refine cA.mono ?_); rintro e w7 ⟨q, rfl, hqm, hr7, hg7⟩; have hI := hIa.step hr7 hg7 hNR hwR hBR; clear cA hIa; have b0 := hI.n0; have b1 := hI.n1; obtain ⟨y0, e0⟩ := hI.row.cell (i := 0) (by omega); obtain ⟨y1, e1⟩ := hI.row.cell (i := 1) (by omega); have z0 := hI.row.frozen 0; have z1 := hI.row.frozen 1))
  all_goals (
    have hp7 : Past w w7 := Below.grown hp3 hI.gr hp3.size (fun k e => by injection e with e; omega)
    have hx5 := (hI.arcs.far ⟨w.heap.size, 0, none⟩ (.int .i64 m) hneB).far ⟨w.heap.size, 1, none⟩ (.slice B k cap) hneB
    have hbel := Below.setCell (Below.setCell hp7 (p := ⟨w.heap.size, 0, none⟩) (by simp) (.int .i64 m)) (p := ⟨w.heap.size, 1, none⟩) (by simp) (.slice B k cap)
    go_wp2
    exact bodyPost_ret (v := .tuple #[.agg #[.int .i64 m, .slice B k cap], .int .i64 zA, .int .i64 q]) (by simp [results, Try.results15, go_sem, e0, e1]) rfl ⟨m, B, k, cap, xs, zA, q, rfl, hxk, hk, hx5, hform, hqm, hbel, hfar⟩)

end Go.Proofs.Ytgeoheeibebmcab

namespace Go.Proofs.Ytgeoheeibebmcab
open Go.RowKit

/-- A number is in a list. -/
def inL (ys : List Int) (x : Int) : Bool := decide (x ∈ ys)
theorem inL_iff (ys : List Int) (x : Int) : inL ys x = true ↔ x ∈ ys := by simp [inL]
theorem inL_no (ys : List Int) (x : Int) : inL ys x = false ↔ x ∉ ys := by simp [inL]
/-- What the first k arcs cost, those that are in another list. -/
def shareTo (xs : List ArcD) (ys zs : List Int) : Nat → Int
  | 0 => 0
  | k + 1 => if inL zs (numOf ys k) then shareTo xs ys zs k + (arcOf xs (numOf ys k)).c else shareTo xs ys zs k
def shareI (m : Int) (xs : List ArcD) (ys zs : List Int) : Int := if okB m xs ys && okB m xs zs then shareTo xs ys zs ys.length else -1
theorem shareTo_bd {m : Int} {xs : List ArcD} {ys zs : List Int} (h : okB m xs ys = true) : ∀ k, k ≤ ys.length → 0 ≤ shareTo xs ys zs k ∧ shareTo xs ys zs k ≤ 99 * k
  | 0, _ => by simp [shareTo]
  | k + 1, hk => by
    have ih := shareTo_bd (zs := zs) h k (by omega)
    obtain ⟨j, a, _, _, h0, h1, e⟩ := ok_arc h (List.getElem?_eq_getElem (show k < ys.length by omega))
    unfold shareTo
    split
    · rw [e]; omega
    · omega
theorem numOf_get {ys : List Int} {k : Nat} {y : Int} (h : ys[k]? = some y) : numOf ys k = y := by simp [numOf, List.getD_eq_getElem?_getD, h]

end Go.Proofs.Ytgeoheeibebmcab

namespace Go.Proofs.Ytgeoheeibebmcab
open Go.RowKit

theorem inL_take {ys : List Int} {x y : Int} {k : Nat} (h : x ∉ ys.take k) (hy : ys[k]? = some y) (hne : y ≠ x) : x ∉ ys.take (k + 1) := by
  rw [List.take_add_one, hy]
  simp
  exact ⟨h, fun e => hne e.symm⟩

set_option maxRecDepth 100000 in
set_option maxHeartbeats 1000000 in
theorem l12In_any (A : Option Addr) (n c : Nat) (ys : List Int) (x : Int) (w : World) (hn : n ≤ 1048576) (hl : ys.length = n) (hx : IntsAt w A ys) :
    Calls Try.prog 86 #[.slice A n c, .int .i64 x] w fun e w' => e = .returned (.bool (inL ys x)) ∧ Below w.heap.size w w' := by
  have HL := Lib.hid hl
  clear hl
  go_enter Try.func86, Try.ntmps86
  go_wp2
  go_loopw [5] (fun i wr => ∃ k : Nat, k ≤ n ∧ i = .int .i64 k ∧ x ∉ ys.take k ∧ Past w wr) (fun i _ => n - (intOf i).toNat)
  case atStart => exact ⟨0, by omega, rfl, by simp, Past.refl _⟩
  case round =>
    obtain ⟨k, hk, rfl, hno, hb⟩ := hrel
    have HN := Lib.hid hno
    clear hno
    by_cases hlt : k < n
    · obtain ⟨y, ha⟩ : ∃ a, ys[k]? = some a := ⟨_, List.getElem?_eq_getElem (by have := HL.out; omega)⟩
      obtain ⟨g, o, rfl, c0⟩ := (hx.below hb) k _ ha
      have HA := Lib.hid ha
      have i0 : (0 : Int) ≤ (k : Int) := by omega
      have i1 : (k : Int) < (n : Int) := by omega
      clear ha
      by_cases e : y = x
      · subst e
        go_wp2
        go_ret
        exact ⟨ret_bool ((inL_iff _ _).2 (List.mem_of_getElem? HA.out)).symm, hb⟩
      · go_wp2
        go_roundw
        case rel => exact ⟨k + 1, by omega, by go_num, inL_take HN.out HA.out e, hb⟩
        case measure => simp [intOf]; omega
    · obtain rfl : n = k := by omega
      go_wp2
      go_ret
      exact ⟨ret_bool ((inL_no _ _).2 (by have := HN.out; rwa [List.take_of_length_le (by have := HL.out; omega)] at this)).symm, hb⟩

/-- Where a number is in a list: -1, if it isn't. -/
def Found (ys : List Int) (x j : Int) : Prop := (j = -1 ∧ x ∉ ys) ∨ ∃ k : Nat, j = k ∧ ys[k]? = some x ∧ x ∉ ys.take k

set_option maxRecDepth 100000 in
set_option maxHeartbeats 1000000 in
theorem index_any (A : Option Addr) (n c : Nat) (ys : List Int) (x : Int) (w : World) (hn : n ≤ 1048576) (hl : ys.length = n) (hx : IntsAt w A ys) :
    Calls Try.prog 124 #[.slice A n c, .int .i64 x] w fun e w' => ∃ j : Int, e = .returned (.int .i64 j) ∧ Found ys x j ∧ Below w.heap.size w w' := by
  have HL := Lib.hid hl
  clear hl
  go_enter Try.func124, Try.ntmps124
  go_wp2
  go_loopw [8] (fun i wr => ∃ k : Nat, k ≤ n ∧ i = .int .i64 k ∧ x ∉ ys.take k ∧ Past w wr) (fun i _ => n - (intOf i).toNat)
  case atStart => exact ⟨0, by omega, rfl, by simp, Past.refl _⟩
  case round =>
    obtain ⟨k, hk, rfl, hno, hb⟩ := hrel
    have HN := Lib.hid hno
    clear hno
    by_cases hlt : k < n
    · obtain ⟨y, ha⟩ : ∃ a, ys[k]? = some a := ⟨_, List.getElem?_eq_getElem (by have := HL.out; omega)⟩
      obtain ⟨g, o, rfl, c0⟩ := (hx.below hb) k _ ha
      have HA := Lib.hid ha
      have i0 : (0 : Int) ≤ (k : Int) := by omega
      have i1 : (k : Int) < (n : Int) := by omega
      clear ha
      by_cases e : x = y
      · subst e
        go_wp2
        go_ret
        exact ⟨_, rfl, .inr ⟨k, rfl, HA.out, HN.out⟩, hb⟩
      · go_wp2
        go_roundw
        case rel => exact ⟨k + 1, by omega, by go_num, inL_take HN.out HA.out (fun h => e h.symm), hb⟩
        case measure => simp [intOf]; omega
    · obtain rfl : n = k := by omega
      go_wp2
      go_ret
      exact ⟨_, rfl, .inl ⟨rfl, by have := HN.out; rwa [List.take_of_length_le (by have := HL.out; omega)] at this⟩, hb⟩

set_option maxRecDepth 100000 in
set_option maxHeartbeats 1000000 in
theorem contains_any (A : Option Addr) (n c : Nat) (ys : List Int) (x : Int) (w : World) (hn : n ≤ 1048576) (hl : ys.length = n) (hx : IntsAt w A ys) :
    Calls Try.prog 89 #[.slice A n c, .int .i64 x] w fun e w' => e = .returned (.bool (inL ys x)) ∧ Below w.heap.size w w' := by
  go_enter Try.func89, Try.ntmps89
  go_wp2_with fail
  refine (index_any A n c ys x _ hn hl hx).mono ?_
  rintro e w1 ⟨j, rfl, hj, hb1⟩
  rcases hj with ⟨rfl, hno⟩ | ⟨k, rfl, hk, _⟩
  · have HN := Lib.hid hno
    clear hno
    go_wp2
    go_ret
    exact ⟨ret_bool ((inL_no _ _).2 HN.out).symm, hb1⟩
  · have HK := Lib.hid hk
    have i0 : (0 : Int) ≤ (k : Int) := by omega
    clear hk
    go_wp2
    go_ret
    exact ⟨ret_bool ((inL_iff _ _).2 (List.mem_of_getElem? HK.out)).symm, hb1⟩

end Go.Proofs.Ytgeoheeibebmcab

namespace Go.Proofs.Ytgeoheeibebmcab
open Go.RowKit

set_option maxRecDepth 100000 in
set_option maxHeartbeats 1000000 in
theorem wkIn_any (A : Option Addr) (n c : Nat) (ys : List Int) (x : Int) (w : World) (hn : n ≤ 1048576) (hl : ys.length = n) (hx : IntsAt w A ys) :
    Calls Try.prog 21 #[.slice A n c, .int .i64 x] w fun e w' => e = .returned (.bool (inL ys x)) ∧ Below w.heap.size w w' := by
  have HL := Lib.hid hl
  clear hl
  go_enter Try.func21, Try.ntmps21
  go_wp2
  go_loopw [5] (fun i wr => ∃ k : Nat, k ≤ n ∧ i = .int .i64 k ∧ x ∉ ys.take k ∧ Past w wr) (fun i _ => n - (intOf i).toNat)
  case atStart => exact ⟨0, by omega, rfl, by simp, Past.refl _⟩
  case round =>
    obtain ⟨k, hk, rfl, hno, hb⟩ := hrel
    have HN := Lib.hid hno
    clear hno
    by_cases hlt : k < n
    · obtain ⟨y, ha⟩ : ∃ a, ys[k]? = some a := ⟨_, List.getElem?_eq_getElem (by have := HL.out; omega)⟩
      obtain ⟨g, o, rfl, c0⟩ := (hx.below hb) k _ ha
      have HA := Lib.hid ha
      have i0 : (0 : Int) ≤ (k : Int) := by omega
      have i1 : (k : Int) < (n : Int) := by omega
      clear ha
      by_cases e : y = x
      · subst e
        go_wp2
        go_ret
        exact ⟨ret_bool ((inL_iff _ _).2 (List.mem_of_getElem? HA.out)).symm, hb⟩
      · go_wp2
        go_roundw
        case rel => exact ⟨k + 1, by omega, by go_num, inL_take HN.out HA.out e, hb⟩
        case measure => simp [intOf]; omega
    · obtain rfl : n = k := by omega
      go_wp2
      go_ret
      exact ⟨ret_bool ((inL_no _ _).2 (by have := HN.out; rwa [List.take_of_length_le (by have := HL.out; omega)] at this)).symm, hb⟩

end Go.Proofs.Ytgeoheeibebmcab

namespace Go.Proofs.Ytgeoheeibebmcab
open Go.ChangeShapes Go.WideShapes Go.ChangeAt Go.RowKit

set_option maxRecDepth 100000 in
set_option maxHeartbeats 20000000 in
theorem fnReachIn_walk (A : Option Addr) (n c : Nat) (w : World) (hn : n ≤ c) (hc : c ≤ maxLen) (hb : BytesAt w A n) :
    Calls Try.prog 3 #[.slice A n c] w fun e w' => e = .returned (.bool true) ∧ Below w.heap.size w w' := by
  by_cases h1 : 1048576 < n
  · have h1' : (1048576 : Int) < (n : Int) := by omega
    go_enter Try.func3, Try.ntmps3
    go_wp2
    go_ret
    exact ⟨rfl, Below.refl _ _⟩
  have h1' : ¬ (1048576 : Int) < (n : Int) := by omega
  go_enter Try.func3, Try.ntmps3
  go_wp2_with fail
  refine (drawReachIn_any A n c w hn hc hb).mono ?_
  rintro e w1 ⟨m, B, k, cap, xs, nd, mo, rfl, hxk, hk, hx1, _, hmo, hb1, _⟩
  have HX := Lib.hid hxk
  have hmb : -1 ≤ mo ∧ mo ≤ 999 := by simp at hmo; omega
  clear hxk hb hn hc hmo
  have hkk : k ≤ 1048576 := by omega
  have hpW : Past w1 (w1.alloc (.cells #[.int .i64 m, .slice B k cap] 25)) := (Past.refl w1).alloc _
  go_wp2_with fail
  refine (implReachIn_any m B k cap xs nd mo _ hkk HX.out (hx1.below hpW)).mono ?_
  rintro e w2 ⟨v2, rfl, hv2, hb2⟩
  have b0 := cell_in (p := ⟨w1.heap.size, 0, none⟩) (v := .int .i64 m) hb2 (by go_simp)
  have b1 := cell_in (p := ⟨w1.heap.size, 1, none⟩) (v := .slice B k cap) hb2 (by go_simp)
  have hx2 := (hx1.below hpW).below hb2
  have hp2 : Past w w2 := Past.trans hb1 (hpW.trans hb2)
  obtain ⟨X, cx, rfl, hs2, _⟩ := hv2.form
  obtain ⟨ps, hps⟩ : ∃ ps, ps = reachI m xs nd mo := ⟨_, rfl⟩
  rw [← hps] at hs2 ⊢
  obtain ⟨R, hR⟩ : ∃ R, R = ps.length := ⟨_, rfl⟩
  have hR1 : R ≤ 1048576 := by rw [hR, hps]; exact reachI_len m xs nd mo
  rw [← hR]
  have HPS := Lib.hid hps
  have HR := Lib.hid hR.symm
  clear hps hR hv2 hx1 hb1 hb2 hpW
  go_wp2_with fail
  refine (specReachIn_any m B k cap xs nd mo _ hkk HX.out hx2).mono ?_
  rintro e w3 ⟨v3, rfl, hv3, hb3⟩
  obtain ⟨F, cf, rfl, hs3, _⟩ := hv3.form
  rw [← HPS.out] at hs3 ⊢
  rw [HR.out]
  have b0 := cell_in hb3 b0
  have b1 := cell_in hb3 b1
  have hx3 := hx2.below hb3
  have hs23 := hs2.below hb3
  have hp3 := Past.trans hp2 hb3
  clear hv3 hx2 hs2 hb3 hp2
  go_wp2_with fail
  refine (wkInts_same X F R cx cf ps _ hR1 HR.out hs23 hs3).mono ?_
  rintro e w4 ⟨rfl, hb4⟩
  have b0 := cell_in hb4 b0
  have b1 := cell_in hb4 b1
  have hx4 := hx3.below hb4
  have hs4 := hs23.below hb4
  have hp4 := Past.trans hp3 hb4
  clear hx3 hs23 hs3 hb4 hp3
  go_wp2_with fail
  refine (implNetOk_any m B k cap xs _ hkk HX.out hx4).mono ?_
  rintro e w5 ⟨rfl, hb5⟩
  have b0 := cell_in hb5 b0
  have b1 := cell_in hb5 b1
  have hx5 := hx4.below hb5
  have hs5 := hs4.below hb5
  have hp5 := Past.trans hp4 hb5
  clear hx4 hs4 hb5 hp4
  by_cases hO : ¬ (netB m xs = true ∧ 0 ≤ nd ∧ nd < m)
  · cases hN : netB m xs with
    | false =>
      clear hO hN
      go_wp2_with fail
      refine (specReachIn_any m B k cap xs nd mo _ hkk HX.out hx5).mono ?_
      rintro e w6 ⟨v6, rfl, hv6, hb6⟩
      obtain ⟨G, cg, rfl, hs6, _⟩ := hv6.form
      rw [← HPS.out] at hs6 ⊢
      rw [HR.out]
      go_wp2_with fail
      refine (wkInts_same X G R cx cg ps _ hR1 HR.out (hs5.below hb6) hs6).mono ?_
      rintro e w7 ⟨rfl, hb7⟩
      go_wp2
      go_ret
      exact ⟨rfl, (Past.trans hp5 hb6).trans hb7⟩
    | true =>
      simp only [hN, true_and] at hO
      have hO' : nd < 0 ∨ ¬ (nd < m) := by omega
      clear hO hN
      by_cases h3 : nd < 0
      all_goals (
        (try have h4 : m ≤ nd := by omega)
        go_wp2_with fail
        refine (specReachIn_any m B k cap xs nd mo _ hkk HX.out hx5).mono ?_
        rintro e w6 ⟨v6, rfl, hv6, hb6⟩
        obtain ⟨G, cg, rfl, hs6, _⟩ := hv6.form
        rw [← HPS.out] at hs6 ⊢
        rw [HR.out]
        go_wp2_with fail
        refine (wkInts_same X G R cx cg ps _ hR1 HR.out (hs5.below hb6) hs6).mono ?_
        rintro e w7 ⟨rfl, hb7⟩
        go_wp2
        go_ret
        exact ⟨rfl, (Past.trans hp5 hb6).trans hb7⟩)
  · obtain ⟨hN, hn0, hn1⟩ := Classical.not_not.1 hO
    clear hO
    rw [hN]
    obtain ⟨M, rfl, hM1, hM8⟩ := here_nat hN
    have hnb : 0 ≤ nd ∧ nd < (M : Int) := ⟨hn0, hn1⟩
    have hH : hereB (M : Int) xs nd = true := (hereB_iff _ _ _).2 ⟨hN, hn0, hn1⟩
    obtain ⟨ds, hds⟩ : ∃ ds, ds = nearL M xs nd := ⟨_, rfl⟩
    have hne : nearI (M : Int) xs nd = ds := by rw [nearI, if_pos hH, Int.toNat_natCast, hds]
    have hpl : ps = inTo ds mo M := by rw [HPS.out, reachI, if_pos hH, Int.toNat_natCast, hds]
    have hqe : reachI (M : Int) xs nd (mo + 1) = inTo ds (mo + 1) M := by rw [reachI, if_pos hH, Int.toNat_natCast, hds]
    have hst : at_ ds nd = 0 := by rw [hds]; exact nearL_start (by omega) (arcsIn_net hN) hnb
    have hdl : ds.length = M := by rw [hds, nearL_length]
    have h3 : ¬ nd < 0 := by omega
    have h4 : ¬ (M : Int) ≤ nd := by omega
    have hmem : ∀ i : Int, 0 ≤ i → i < M → inL ps i = rchB mo (at_ ds i) := fun i h0 h1 => by
      cases hr : rchB mo (at_ ds i) with
      | true => rw [inL_iff, hpl, mem_inTo]; exact ⟨h0, h1, hr⟩
      | false => rw [inL_no, hpl, mem_inTo]; rintro ⟨_, _, h⟩; rw [hr] at h; cases h
    have hRQ : R ≤ (inTo ds (mo + 1) M).length := by rw [← HR.out, hpl]; exact inTo_more (by omega) M
    have hQM : (inTo ds (mo + 1) M).length ≤ M := inTo_len _ _ _
    have HMEM := Lib.hid hmem
    have HNE := Lib.hid hne
    have HQE := Lib.hid hqe
    have HST := Lib.hid hst
    have HDL := Lib.hid hdl
    have HRQ := Lib.hid hRQ
    have HQM := Lib.hid hQM
    clear hN hH hds hne hpl hqe hst hdl hmem hRQ hQM hnb
    go_wp2_with fail
    refine (implNearAll_any (M : Int) B k cap xs nd _ hkk HX.out hx5).mono ?_
    rintro e w6 ⟨v6, rfl, hv6, hb6⟩
    rw [HNE.out] at hv6
    obtain ⟨D, cd, rfl, hd6, _⟩ := hv6.form
    rw [HDL.out]
    have b0 := cell_in hb6 b0
    have b1 := cell_in hb6 b1
    have hx6 := hx5.below hb6
    have hs6 := hs5.below hb6
    have hp6 := Past.trans hp5 hb6
    clear hv6 hx5 hs5 hb6 hp5
    go_wp2
    go_loopw [8] (fun i wr => ∃ j : Nat, j ≤ M ∧ i = .int .i64 j ∧ Past w6 wr) (fun i _ => M - (intOf i).toNat)
    case atStart => exact ⟨0, by omega, rfl, Past.refl _⟩
    case round =>
      obtain ⟨j, hj, rfl, hbr⟩ := hrel
      have b0 := cell_in hbr b0
      have b1 := cell_in hbr b1
      by_cases hlt : j < M
      · obtain ⟨x, hx⟩ : ∃ x, x = at_ ds (j : Int) := ⟨_, rfl⟩
        obtain ⟨g, o, rfl, c0⟩ := (hd6.below hbr) j x (by rw [hx]; exact getElem_at ds j (by rw [HDL.out]; exact hlt))
        have j0 : (0 : Int) ≤ (j : Int) := by omega
        have j1 : (j : Int) < (M : Int) := by omega
        have hI := HMEM.out (j : Int) j0 j1
        rw [← hx] at hI
        have C1 := Lib.hid (fun q : PastOf wr => wkIn_any X R cx ps (j : Int) q.W hR1 HR.out ((hs6.below hbr).below q.h))
        rw [hI] at C1
        have C0 := past_cell c0
        clear hI hx c0
        by_cases x1 : x < 99999
        · have g1 : decide (x < 99999) = true := decide_eq_true x1
          by_cases x2 : x ≤ mo
          · have g2 : decide (x ≤ mo) = true := decide_eq_true x2
            have hr : rchB mo x = true := (rchB_iff _ _).2 ⟨x1, x2⟩
            rw [hr] at C1
            clear hr
            go_wp2_with fail
            refine wp_region_past (by kernel_rfl) (by kernel_rfl) ?_
            repeat (go_big_quiet_step (with_reducible exact rfl))
            go_big_quiet_step ((go_at_call 21; exact past_call (C1.out _)))
            repeat (go_big_quiet_step (with_reducible exact rfl))
            refine wpQuiet_nil ?_
            rintro _ ⟨⟨W8, hW8⟩, rfl⟩
            go_wp2
            go_roundw
            case rel => exact ⟨j + 1, by omega, by go_num, hbr.trans hW8⟩
            case measure => simp [intOf]; omega
          · have g2 : decide (x ≤ mo) = false := decide_eq_false x2
            have hr : rchB mo x = false := (rchB_no _ _).2 (fun h => x2 h.2)
            rw [hr] at C1
            clear hr
            go_wp2_with fail
            refine wp_region_past (by kernel_rfl) (by kernel_rfl) ?_
            repeat (go_big_quiet_step (with_reducible exact rfl))
            go_big_quiet_step ((go_at_call 21; exact past_call (C1.out _)))
            repeat (go_big_quiet_step (with_reducible exact rfl))
            refine wpQuiet_nil ?_
            rintro _ ⟨⟨W8, hW8⟩, rfl⟩
            go_wp2
            go_roundw
            case rel => exact ⟨j + 1, by omega, by go_num, hbr.trans hW8⟩
            case measure => simp [intOf]; omega
        · have g1 : decide (x < 99999) = false := decide_eq_false x1
          have hr : rchB mo x = false := (rchB_no _ _).2 (fun h => x1 h.1)
          rw [hr] at C1
          clear hr
          go_wp2_with fail
          refine wp_region_past (by kernel_rfl) (by kernel_rfl) ?_
          repeat (go_big_quiet_step (with_reducible exact rfl))
          go_big_quiet_step ((go_at_call 21; exact past_call (C1.out _)))
          repeat (go_big_quiet_step (with_reducible exact rfl))
          refine wpQuiet_nil ?_
          rintro _ ⟨⟨W8, hW8⟩, rfl⟩
          go_wp2
          go_roundw
          case rel => exact ⟨j + 1, by omega, by go_num, hbr.trans hW8⟩
          case measure => simp [intOf]; omega
      · obtain rfl : j = M := by omega
        have hw1 : IntKind.i64.wrap (mo + 1) = mo + 1 := IntWalk.i64_in _ (by omega)
        have hpz := hp6.trans hbr
        go_wp2_with fail
        refine (implReachIn_any (j : Int) B k cap xs nd (mo + 1) _ hkk HX.out (hx6.below hbr)).mono ?_
        rintro e w7 ⟨v7, rfl, hv7, hb7⟩
        rw [HQE.out] at hv7
        obtain ⟨Z, cz, rfl, hz7, _⟩ := hv7.form
        obtain ⟨Q, hQ⟩ : ∃ Q, Q = (inTo ds (mo + 1) j).length := ⟨_, rfl⟩
        rw [← hQ]
        have hRQ : (R : Int) ≤ (Q : Int) := by have := HRQ.out; omega
        have hRQn : R ≤ Q := by omega
        have gR : decide (R ≤ Q) = true := decide_eq_true hRQn
        have hI := HMEM.out nd hn0 hn1
        rw [HST.out] at hI
        clear hQ hv7
        by_cases hm0 : 0 ≤ mo
        · have gm : decide (0 ≤ mo) = true := decide_eq_true hm0
          have hr : rchB mo 0 = true := (rchB_iff _ _).2 ⟨by omega, hm0⟩
          rw [hr] at hI
          have HI := Lib.hid hI
          clear hr hI
          go_wp2_with fail
          refine (wkIn_any X R cx ps nd _ hR1 HR.out ((hs6.below hbr).below hb7)).mono ?_
          rintro e w8 ⟨rfl, hb8⟩
          rw [HI.out]
          go_wp2
          go_ret
          exact ⟨by simp, (hpz.trans hb7).trans hb8⟩
        · have gm : decide (0 ≤ mo) = false := decide_eq_false hm0
          have hr : rchB mo 0 = false := (rchB_no _ _).2 (fun h => hm0 h.2)
          rw [hr] at hI
          have HI := Lib.hid hI
          clear hr hI
          go_wp2_with fail
          refine (wkIn_any X R cx ps nd _ hR1 HR.out ((hs6.below hbr).below hb7)).mono ?_
          rintro e w8 ⟨rfl, hb8⟩
          rw [HI.out]
          go_wp2
          go_ret
          exact ⟨by simp, (hpz.trans hb7).trans hb8⟩

set_option maxRecDepth 100000 in
theorem fnReachIn_lifted (os : Os) (started : os.Started) (H : Type) (enc : TypeId × Value → H) :
    ReturnsInHanded {} Try.checked os 3 .any (Rows.fnReachInSpec.pre6 enc Try.prog Try.f3 Rows.fnReachInRow.domain false) (Rows.fnReachInSpec.post enc Try.prog Try.f3 false true false false) := by
  refine returnsInHanded_of_change (C := Try.checked) own started (by kernel_rfl) Try.func3
    (ChangeSpec.witness6 (enc := enc) (C := Try.checked) false ⟨#[], #[.slice none 0 0], []⟩ 8 (by kernel_rfl) (by kernel_rfl) (by kernel_rfl) (by kernel_rfl)) ?_
  intro W base args ds gs before hval0 hW hcnd _
  have hval : ∀ (j : Nat) t v, Try.f3.params[j]? = some t → args[j]? = some v → Value.okWide Try.prog W .any base t v := hval0
  have hW' := hW
  obtain ⟨p, q, hA0, hV, rfl, hfz, hnd⟩ := hW
  have hA : DataW.TrodAll enc Try.prog W 0 (fun _ => true) true Try.f3.params.toList args.toList ds p := hA0
  rw [Try.params3] at hA hval
  obtain ⟨v0, vs0, d0, ds0, p0, q0, hargs, rfl, rfl, h0, r0⟩ := trodAll_cons hA
  obtain ⟨rfl, rfl, rfl⟩ := trodAll_nil r0
  obtain rfl : args = #[v0] := by cases args; simp_all
  obtain ⟨rfl, rfl⟩ := trodVars_none hV
  have k0 := h0
  have lt0 := places_lt k0
  obtain ⟨A0, n0, c0, rfl, hn0, hc0, hb0⟩ := open_bytes (hval 0 22 v0 rfl rfl) h0
  clear hA0 hval0
  refine (fnReachIn_walk A0 n0 c0 W hn0 hc0 hb0).mono fun e W' ⟨he, bel⟩ => ?_
  subst he
  exact ⟨_, rfl, _, _, _, [], _, [], hW', trodAll_mk1 (shut_bool Try.underlying4 _), (trodAll_cons_mk (Below.trod laidOut (by kernel_rfl) (of_decide_eq_true (by kernel_rfl)) k0 bel lt0) trodAll_mk0), rfl, bel.frame _, fun h => by cases h⟩

/-- The given statement. -/
theorem fnReachIn_proved : Rows.FnReachInSaid :=
  OpenClaim.holds_of_wide 3 Try.f3 rfl rfl rfl rfl rfl rfl rfl ⟨rfl, rfl, rfl, rfl, rfl⟩ rfl rfl rfl rfl rfl (by kernel_rfl) Try.func3 (by kernel_rfl)
    (of_decide_eq_true (by kernel_rfl)) (by unfold Func.isWrapper; first | (rw [if_pos (by decide +kernel)]; kernel_rfl) | (rw [if_neg (by decide +kernel)]; exact ⟨rfl, rfl⟩))
    (fun os started H enc _ => fnReachIn_lifted os started H enc)

end Go.Proofs.Ytgeoheeibebmcab
