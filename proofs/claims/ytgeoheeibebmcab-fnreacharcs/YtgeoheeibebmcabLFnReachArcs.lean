/-
  FnReachArcs answers true at every input: of each arc so much is told as can be gone. No condition.
-/
import Derived.Test.YtgeoheeibebmcabDrawNetOut
import Derived.Test.YtgeoheeibebmcabPNear
import Derived.Test.YtgeoheeibebmcabPWay
import Derived.Test.YtgeoheeibebmcabBack
import Derived.Test.YtgeoheeibebmcabCost
import Derived.Test.YtgeoheeibebmcabIn
import Derived.Test.YtgeoheeibebmcabOpenB
import Derived.Test.YtgeoheeibebmcabRInI
import Derived.Test.YtgeoheeibebmcabRInS
import Derived.Test.YtgeoheeibebmcabRArcI
import Derived.Test.YtgeoheeibebmcabRArcS
import Derived.Test.YtgeoheeibebmcabNAll
import Derived.Test.YtgeoheeibebmcabQPast
namespace Go.Proofs.Ytgeoheeibebmcab
open Go.RowKit

/-- What is known between the draws of one statement. -/
structure CoI (w0 : World) (R lo : Nat) (A : Option Addr) (n c f rb nb : Nat) (m : Int) (B : Option Addr) (k cap : Nat) (xs : List ArcD) (u : World) : Prop where
  rd : RdF u R lo A n c f
  n0 : u.cell? ⟨nb, 0, none⟩ = some (.int .i64 m)
  n1 : u.cell? ⟨nb, 1, none⟩ = some (.slice B k cap)
  row : RowN u rb 25 2
  arcs : ArcsAt u B xs
  gr : w0.grownBy u (some R)

theorem CoI.alloc {w0 u : World} {R lo n c f rb nb k cap : Nat} {A B : Option Addr} {m : Int} {xs : List ArcD} (h : CoI w0 R lo A n c f rb nb m B k cap xs u) (o : Obj) : CoI w0 R lo A n c f rb nb m B k cap xs (u.alloc o) :=
  ⟨h.rd.alloc o, cell_in ((Past.refl u).alloc o) h.n0, cell_in ((Past.refl u).alloc o) h.n1, h.row.keep (Below.heap_alloc u o _ h.row.lt), h.arcs.below ((Past.refl u).alloc o), grown_trans h.gr (World.grownBy_alloc u o _)⟩
theorem CoI.drew {w0 u : World} {R lo n c f rb nb k cap : Nat} {A B : Option Addr} {m : Int} {xs : List ArcD} (h : CoI w0 R lo A n c f rb nb m B k cap xs u) : CoI w0 R lo A n c f rb nb m B k cap xs u.drew :=
  ⟨h.rd.drew, h.n0, h.n1, h.row, h.arcs, ⟨h.gr.os, h.gr.tape, h.gr.output, h.gr.size, h.gr.block⟩⟩
theorem CoI.step {w0 u u' : World} {R lo n c f f' rb nb k cap : Nat} {A B : Option Addr} {m : Int} {xs : List ArcD} (h : CoI w0 R lo A n c f rb nb m B k cap xs u) (hr : RdF u' R lo A n c f') (hg : u.grownBy u' (some R)) (h1 : nb ≠ R) (h2 : rb ≠ R) (h3 : blk B ≠ some R) : CoI w0 R lo A n c f' rb nb m B k cap xs u' :=
  ⟨hr, cell_far hg h.n0 h1, cell_far hg h.n1 h1, h.row.young hg h2, h.arcs.grown hg (fun b e => by injection e with e; rw [← e]; exact h3), grown_trans h.gr hg⟩

end Go.Proofs.Ytgeoheeibebmcab

namespace Go.Proofs.Ytgeoheeibebmcab
open Go.RowKit

/-- A net, a node and a cost were drawn. -/
def DrawReachG (w : World) (e : Ending) (w' : World) : Prop :=
  ∃ (m : Int) (B : Option Addr) (k cap : Nat) (xs : List ArcD) (a b : Int), e = .returned (.tuple #[.agg #[.int .i64 m, .slice B k cap], .int .i64 a, .int .i64 b]) ∧ xs.length = k ∧ k ≤ 13 ∧ ArcsAt w' B xs ∧ ((B = none ∧ k = 0) ∨ ∃ g o, B = some ⟨g, o, none⟩) ∧ b ∈ [0, 3, 10, 50, -1, 999] ∧ Below w.heap.size w w' ∧ ∀ g, g < w.heap.size → blk B ≠ some g

set_option maxRecDepth 100000 in
set_option maxHeartbeats 4000000 in
theorem drawReachIn_any (A : Option Addr) (n c : Nat) (w : World) (hn : n ≤ c) (hc : c ≤ maxLen) (hb : BytesAt w A n) :
    Calls Try.prog 15 #[.slice A n c] w (DrawReachG w) := by
  have hpV : Past w (w.alloc (.cells #[.int .i64 0, .slice none 0 0] 25)) := (Past.refl w).alloc _
  go_enter Try.func15, Try.ntmps15
  go_wp2_with fail
  refine (open_any A n c _ hn hc (hb.below hpV)).mono ?_
  rintro e w1 ⟨R, n', c', rfl, hR, hrd, hb1⟩
  rw [World.size_alloc] at hR
  have hF : RdF w1 R _ A n' c' (26 + 83) := ⟨0, by omega, hrd⟩
  have r0 : RowN w1 w.heap.size 25 2 := by
    have r : RowN (w.alloc (.cells #[.int .i64 0, .slice none 0 0] 25)) w.heap.size 25 2 := ⟨_, heap_alloc_new w _, rfl⟩
    exact r.keep (hb1.block _ r.lt)
  have hp1 := hpV.trans hb1
  have hR1 := hF.at_
  clear hrd hb1 hpV
  go_wp2_with fail
  refine (l30AnyNet_any R _ A n' c' 26 w1 hF).mono ?_
  rintro e w2 ⟨m, B, k, cap, xs, rfl, hxk, hk, hxB, hoB, hr2, hg2⟩
  have hp2 : Past w w2 := Below.grown hp1 hg2 hp1.size (fun k e => by injection e with e; omega)
  have r2 := r0.young hg2 (by omega)
  have hBR : blk B ≠ some R := hoB.ne_blk hR1
  have hform := ownForm hoB
  have hfar : ∀ g, g < w.heap.size → blk B ≠ some g := fun g hg => hoB.ne_blk (Nat.lt_of_lt_of_le hg hp1.size)
  have hneB : blk B ≠ some w.heap.size := hoB.ne_blk (by omega)
  have s12 := hg2.size
  have hs2 : w.heap.size < w2.heap.size := r2.lt
  have hNR : w2.heap.size ≠ R := by omega
  have hwR : w.heap.size ≠ R := by omega
  obtain ⟨V, hV⟩ : ∃ V, V = w2.alloc (.cells #[.int .i64 m, .slice B k cap] 25) := ⟨_, rfl⟩
  have hpV : Past w2 V := by rw [hV]; exact (Past.refl w2).alloc _
  obtain ⟨lo, hV0⟩ : ∃ lo, CoI V R lo A n' c' (24 + 2) w.heap.size w2.heap.size m B k cap xs V := by
    rw [hV]
    exact ⟨_, hr2.alloc _, by go_simp, by go_simp, r2.keep (Below.heap_alloc _ _ _ r2.lt), hxB.below ((Past.refl w2).alloc _), grown_refl _ _⟩
  have hpV3 := hp2.trans hpV
  have hsV := hpV.size
  go_upto_region 3 with (fail)
  rw [← hV]
  clear hV hoB hr2 hg2 hxB r0 r2 hF hpV
  have b0 := hV0.n0
  have b1 := hV0.n1
  go_wp2_with fail
  refine (l30Node_any R _ A B n' c' 24 k cap m _ hV0.rd).mono ?_
  rintro e W ⟨zA, rfl, hr4, hg4⟩
  have hp3 : Past w W := Below.grown hpV3 hg4 hpV3.size (fun k e => by injection e with e; omega)
  have hI0 := hV0.step hr4 hg4 hNR hwR hBR
  have hI : CoI W R _ A n' c' 24 w.heap.size w2.heap.size m B k cap xs W := ⟨hI0.rd, hI0.n0, hI0.n1, hI0.row, hI0.arcs, grown_refl _ _⟩
  have hRW : R < W.heap.size := hI.rd.at_
  have hsW := hg4.size
  obtain ⟨W4, hW4⟩ : ∃ W4, W4 = W := ⟨_, rfl⟩
  subst hW4
  have b0 := hI.n0
  have b1 := hI.n1
  clear hI0 hr4 hg4 hV0 hpV3
  go_upto_region 4 with (fail)
  have hq0 : ∀ (u : World) (j : Nat) (x : Value), (u.setCell ⟨w.heap.size, j, none⟩ x).cell? ⟨w2.heap.size, 0, none⟩ = u.cell? ⟨w2.heap.size, 0, none⟩ := fun u j x => World.cell?_setCell_other _ _ _ _ (by intro e; injection e; omega)
  have hq1 : ∀ (u : World) (j : Nat) (x : Value), (u.setCell ⟨w.heap.size, j, none⟩ x).cell? ⟨w2.heap.size, 1, none⟩ = u.cell? ⟨w2.heap.size, 1, none⟩ := fun u j x => World.cell?_setCell_other _ _ _ _ (by intro e; injection e; omega)
  have nb0 := World.new_ne W4 _ b0
  have nb1 := World.new_ne W4 _ b1
  have hIa := (hI.alloc (.cells #[.int .i64 0, .int .i64 3, .int .i64 10, .int .i64 50, .int .i64 (-1), .int .i64 999] 3)).drew
  have ia1 : IntsAt (W4.alloc (.cells #[.int .i64 0, .int .i64 3, .int .i64 10, .int .i64 50, .int .i64 (-1), .int .i64 999] 3)).drew (some ⟨W4.heap.size, 0, none⟩) [0, 3, 10, 50, -1, 999] := ints_new W4 [0, 3, 10, 50, -1, 999] rfl _
  have cA := oneF (f := 23) (l := 6) (cb := 6) [0, 3, 10, 50, -1, 999] hIa.rd rfl (by omega) (by omega) ia1 (by omega)
  clear ia1 hI
  go_region_held3 (fun w' => w'.cell? ⟨w2.heap.size, 0, none⟩ = some (.int .i64 m) ∧ w'.cell? ⟨w2.heap.size, 1, none⟩ = some (.slice B k cap))
    (first | go_keep | (simp only [hq0, hq1]; assumption))
    (first
      | (go_at_call 55; (with_reducible refine cA.mono ?_); rintro e w7 ⟨q, rfl, hqm, hr7, hg7⟩; have hI := hIa.step hr7 hg7 hNR hwR hBR; clear cA hIa; have b0 := hI.n0; have b1 := hI.n1; obtain ⟨y0, e0⟩ := hI.row.cell (i := 0) (by omega); obtain ⟨y1, e1⟩ := hI.row.cell (i := 1) (by omega); have z0 := hI.row.frozen 0; have z1 := hI.row.frozen 1))
  all_goals (
    have hp7 : Past w w7 := Below.grown hp3 hI.gr hp3.size (fun k e => by injection e with e; omega)
    have hx5 := (hI.arcs.far ⟨w.heap.size, 0, none⟩ (.int .i64 m) hneB).far ⟨w.heap.size, 1, none⟩ (.slice B k cap) hneB
    have hbel := Below.setCell (Below.setCell hp7 (p := ⟨w.heap.size, 0, none⟩) (by simp) (.int .i64 m)) (p := ⟨w.heap.size, 1, none⟩) (by simp) (.slice B k cap)
    go_wp2
    exact bodyPost_ret (v := .tuple #[.agg #[.int .i64 m, .slice B k cap], .int .i64 zA, .int .i64 q]) (by simp [results, Try.results15, go_sem, e0, e1]) rfl ⟨m, B, k, cap, xs, zA, q, rfl, hxk, hk, hx5, hform, hqm, hbel, hfar⟩)

end Go.Proofs.Ytgeoheeibebmcab

namespace Go.Proofs.Ytgeoheeibebmcab
open Go.RowKit

set_option maxRecDepth 100000 in
set_option maxHeartbeats 4000000 in
theorem drawReachArcs_any (A : Option Addr) (n c : Nat) (w : World) (hn : n ≤ c) (hc : c ≤ maxLen) (hb : BytesAt w A n) :
    Calls Try.prog 22 #[.slice A n c] w (DrawReachG w) := by
  have hpV : Past w (w.alloc (.cells #[.int .i64 0, .slice none 0 0] 25)) := (Past.refl w).alloc _
  go_enter Try.func22, Try.ntmps22
  go_wp2_with fail
  refine (drawReachIn_any A n c _ hn hc (hb.below hpV)).mono ?_
  rintro e w1 ⟨m, B, k, cap, xs, a, b, rfl, hxk, hk, hx1, hform, hbm, hb1, hfar⟩
  have r0 : RowN w1 w.heap.size 25 2 := by
    have r : RowN (w.alloc (.cells #[.int .i64 0, .slice none 0 0] 25)) w.heap.size 25 2 := ⟨_, heap_alloc_new w _, rfl⟩
    exact r.keep (hb1.block _ r.lt)
  have hneB : blk B ≠ some w.heap.size := hfar _ (by simp)
  have hp2 : Past w w1 := hpV.trans hb1
  obtain ⟨y0, e0⟩ := r0.cell (i := 0) (by omega)
  obtain ⟨y1, e1⟩ := r0.cell (i := 1) (by omega)
  have z0 := r0.frozen 0
  have z1 := r0.frozen 1
  have hx5 := (hx1.far ⟨w.heap.size, 0, none⟩ (.int .i64 m) hneB).far ⟨w.heap.size, 1, none⟩ (.slice B k cap) hneB
  have hbel := Below.setCell (Below.setCell hp2 (p := ⟨w.heap.size, 0, none⟩) (by simp) (.int .i64 m)) (p := ⟨w.heap.size, 1, none⟩) (by simp) (.slice B k cap)
  have hfr : ∀ g, g < w.heap.size → blk B ≠ some g := fun g hg => hfar g (by simp; omega)
  clear hb1 hfar
  go_wp2
  exact bodyPost_ret (v := .tuple #[.agg #[.int .i64 m, .slice B k cap], .int .i64 a, .int .i64 b]) (by simp [results, Try.results22, go_sem, e0, e1]) rfl ⟨m, B, k, cap, xs, a, b, rfl, hxk, hk, hx5, hform, hbm, hbel, hfr⟩

end Go.Proofs.Ytgeoheeibebmcab

namespace Go.Proofs.Ytgeoheeibebmcab

/-- Numbers are nodes of a net that is ok, and not too many. -/
def listB (m : Int) (xs : List ArcD) (ys : List Int) : Bool := netB m xs && (decide (ys.length ≤ 8) && ys.all (fun z => inB z 0 (m - 1)))

theorem listB_iff (m : Int) (xs : List ArcD) (ys : List Int) : listB m xs ys = true ↔ netB m xs = true ∧ ys.length ≤ 8 ∧ ∀ y ∈ ys, 0 ≤ y ∧ y < m := by
  simp only [listB, Bool.and_eq_true, decide_eq_true_eq, List.all_eq_true, inB_iff]
  constructor
  · rintro ⟨h1, h2, h3⟩
    exact ⟨h1, h2, fun y hy => by have := h3 y hy; omega⟩
  · rintro ⟨h1, h2, h3⟩
    exact ⟨h1, h2, fun y hy => by have := h3 y hy; omega⟩

/-- Which of the first k numbers is least, and how much that is: -1 and Far, if none is less than Far. -/
def least (cs : List Int) : Nat → Int × Int
  | 0 => (-1, 99999)
  | k + 1 => if at_ cs (k : Int) < (least cs k).2 then ((k : Int), at_ cs (k : Int)) else least cs k

theorem least_bd (cs : List Int) : ∀ k : Nat, -1 ≤ (least cs k).1 ∧ (least cs k).1 < k ∧ (least cs k).2 ≤ 99999
  | 0 => by simp [least]
  | k + 1 => by
    have ih := least_bd cs k
    unfold least
    split
    · simp only; omega
    · omega

theorem least_le (cs : List Int) : ∀ k i : Nat, i < k → (least cs k).2 ≤ at_ cs (i : Int)
  | 0, i, h => by omega
  | k + 1, i, h => by
    have ih := least_le cs k
    unfold least
    by_cases e : i = k
    · subst e
      split
      · exact Int.le_refl _
      · omega
    · have := ih i (by omega)
      split
      · simp only; omega
      · exact this

theorem least_first (cs : List Int) : ∀ k i : Nat, i < k → (i : Int) < (least cs k).1 → (least cs k).2 < at_ cs (i : Int)
  | 0, i, h => by omega
  | k + 1, i, h => by
    have ih := least_first cs k
    have hle := least_le cs k
    have hbd := least_bd cs k
    unfold least
    split
    · intro h2
      simp only at h2 ⊢
      have := hle i (by omega)
      omega
    · intro h2
      exact ih i (by omega) h2

theorem least_at (cs : List Int) : ∀ k : Nat, ((least cs k).1 = -1 ∧ (least cs k).2 = 99999) ∨ ∃ j : Nat, j < k ∧ (least cs k).1 = j ∧ at_ cs (j : Int) = (least cs k).2
  | 0 => by simp [least]
  | k + 1 => by
    have ih := least_at cs k
    unfold least
    split
    · exact .inr ⟨k, by omega, rfl, rfl⟩
    · rcases ih with h | ⟨j, h1, h2⟩
      · exact .inl h
      · exact .inr ⟨j, by omega, h2⟩

theorem least_next_lt {cs : List Int} {k : Nat} {z : Int} (hz : at_ cs (k : Int) = z) (h : z < (least cs k).2) : least cs (k + 1) = ((k : Int), z) := by
  subst hz
  simp only [least, if_pos h]
theorem least_next_ge {cs : List Int} {k : Nat} {z : Int} (hz : at_ cs (k : Int) = z) (h : ¬ z < (least cs k).2) : least cs (k + 1) = least cs k := by
  subst hz
  simp only [least, if_neg h]

/-- What it costs from a node to each of a list. -/
def costsL (m : Int) (xs : List ArcD) (s : Int) (ys : List Int) : List Int := ys.map (at_ (nearL m.toNat xs s))

theorem at_map {f : Int → Int} {ys : List Int} {k : Nat} {y : Int} (h : ys[k]? = some y) : at_ (ys.map f) (k : Int) = f y := by
  simp [at_, h]

/-- Which of a list of nodes is nearest, and what that costs. -/
def manyW (m : Int) (xs : List ArcD) (s : Int) (ys : List Int) : Int := if listB m xs ys && inB s 0 (m - 1) then (least (costsL m xs s ys) ys.length).1 else -1
def manyC (m : Int) (xs : List ArcD) (s : Int) (ys : List Int) : Int := if listB m xs ys && inB s 0 (m - 1) then (least (costsL m xs s ys) ys.length).2 else -1

end Go.Proofs.Ytgeoheeibebmcab

namespace Go.Proofs.Ytgeoheeibebmcab

theorem Way.one {xs : List ArcD} {a : ArcD} (ha : a ∈ xs) : Way xs a.f a.t a.c [a.f] := by
  have := Way.snoc (.nil : Way xs a.f a.f 0 []) ha rfl
  rw [Int.zero_add] at this
  exact this
theorem Way.back {xs : List ArcD} {s v c : Int} {l : List Int} (h : Way xs s v c l) : ∃ l', Way (xs.map flip) v s c l' := by
  induction h with
  | nil => exact ⟨_, .nil⟩
  | @snoc u c l a _ ha e ih =>
    obtain ⟨l', h'⟩ := ih
    subst e
    have h1 : Way (xs.map flip) a.t a.f a.c [a.t] := Way.one (a := flip a) (List.mem_map.2 ⟨a, ha, rfl⟩)
    obtain ⟨l2, h2⟩ := h1.join h'
    exact ⟨l2, by rw [Int.add_comm]; exact h2⟩
theorem flips_id (xs : List ArcD) : (xs.map flip).map flip = xs := by rw [List.map_map]; exact (List.map_congr_left fun _ _ => rfl).trans (List.map_id _)
theorem arcsIn_back {m : Int} {xs : List ArcD} (h : ArcsIn m xs) : ArcsIn m (xs.map flip) := fun a ha => by
  obtain ⟨b, hb, rfl⟩ := List.mem_map.1 ha
  have := h b hb
  simp only [flip]
  omega
theorem near_back {m : Nat} {xs : List ArcD} {s v : Int} (hm : m ≤ 17) (hx : ArcsIn m xs) (hs : 0 ≤ s ∧ s < m) (hv : 0 ≤ v ∧ v < m) : at_ (nearL m xs s) v = at_ (nearL m (xs.map flip) v) s := by
  have hy := arcsIn_back hx
  obtain ⟨a1, a2⟩ := (nearL_sound hx hs).2 v hv.1 hv.2
  obtain ⟨b1, b2⟩ := (nearL_sound hy hv).2 s hs.1 hs.2
  rcases a2 with a2 | ⟨l, a2⟩
  · rcases b2 with b2 | ⟨l', b2⟩
    · omega
    · obtain ⟨l2, h2⟩ := b2.back
      rw [flips_id] at h2
      have := nearL_le hm hx hs h2
      omega
  · obtain ⟨l2, h2⟩ := a2.back
    have h3 := nearL_le hm hy hv h2
    rcases b2 with b2 | ⟨l', b2⟩
    · omega
    · obtain ⟨l4, h4⟩ := b2.back
      rw [flips_id] at h4
      have := nearL_le hm hx hs h4
      omega

end Go.Proofs.Ytgeoheeibebmcab

namespace Go.Proofs.Ytgeoheeibebmcab
open Go.RowKit

/-- What can be reached costs little. -/
theorem nearL_small {m : Nat} {xs : List ArcD} {s v : Int} (hm : m ≤ 17) (hx : ArcsIn m xs) (hs : 0 ≤ s ∧ s < m) (hv : 0 ≤ v ∧ v < m) (h : at_ (nearL m xs s) v ≠ 99999) : at_ (nearL m xs s) v ≤ 11200 := by
  obtain ⟨_, h2⟩ := (nearL_sound hx hs).2 v hv.1 hv.2
  rcases h2 with h2 | ⟨l, h2⟩
  · exact absurd h2 h
  · obtain ⟨c2, l2, h1, _, _, h4⟩ := h2.simple hx
    have hf := h1.few hx hs h4
    have hc := h1.cost hx
    have := nearL_le hm hx hs h1
    omega

theorem near_tri {m : Nat} {xs : List ArcD} {s u v : Int} (hm : m ≤ 17) (hx : ArcsIn m xs) (hs : 0 ≤ s ∧ s < m) (hu : 0 ≤ u ∧ u < m) (hv : 0 ≤ v ∧ v < m) : at_ (nearL m xs s) v ≤ at_ (nearL m xs s) u + at_ (nearL m xs u) v := by
  have b1 := nearL_bound hx hs hu
  have b2 := nearL_bound hx hu hv
  have b3 := nearL_bound hx hs hv
  by_cases h1 : at_ (nearL m xs s) u < farI
  · by_cases h2 : at_ (nearL m xs u) v < farI
    · exact near_over hm hx hs hu hv h1 h2
    · omega
  · omega

/-- How much more one distance is than another one. -/
def surI (a b : Int) : Int := if b = 99999 then 0 else if 49999 < a - b then 99999 else a - b
/-- What is known of one mark: d from it, b to it. -/
def lessM (d b : List Int) (f t : Int) : Int :=
  let p := if at_ d f < 99999 ∧ 0 < at_ d t - at_ d f then at_ d t - at_ d f else 0
  let q := if at_ b t < 99999 ∧ p < at_ b f - at_ b t then at_ b f - at_ b t else p
  if 49999 < q then 99999 else q
theorem sur_less {d b : List Int} {f t z : Int} (h1 : 0 ≤ at_ d f ∧ at_ d f ≤ 99999) (h2 : 0 ≤ at_ d t ∧ at_ d t ≤ 99999) (h3 : 0 ≤ at_ b f ∧ at_ b f ≤ 99999) (h4 : 0 ≤ at_ b t ∧ at_ b t ≤ 99999) (hz : 0 ≤ z) :
    max (max z (surI (at_ d t) (at_ d f))) (surI (at_ b f) (at_ b t)) = max z (lessM d b f t) := by
  unfold surI lessM
  simp only
  split <;> split <;> (repeat' split) <;> omega
theorem lessM_bound {d b : List Int} {f t : Int} (_h1 : 0 ≤ at_ d f ∧ at_ d f ≤ 99999) (_h2 : 0 ≤ at_ d t ∧ at_ d t ≤ 99999) (_h3 : 0 ≤ at_ b f ∧ at_ b f ≤ 99999) (_h4 : 0 ≤ at_ b t ∧ at_ b t ≤ 99999) :
    0 ≤ lessM d b f t ∧ lessM d b f t ≤ 99999 := by
  unfold lessM
  simp only
  repeat' split
  all_goals omega

/-- What is known of the first k marks. -/
def boundTo (M : Nat) (xs : List ArcD) (ks : List Int) (f t : Int) : Nat → Int
  | 0 => 0
  | k + 1 => max (boundTo M xs ks f t k) (lessM (nearL M xs (at_ ks (k : Int))) (nearL M (xs.map flip) (at_ ks (k : Int))) f t)
def boundI (m : Int) (xs : List ArcD) (ks : List Int) (f t : Int) : Int := if listB m xs ks && (inB f 0 (m - 1) && inB t 0 (m - 1)) then boundTo m.toNat xs ks f t ks.length else -1

theorem at_mem {ks : List Int} {k : Nat} (h : k < ks.length) : at_ ks (k : Int) ∈ ks := by
  have : at_ ks (k : Int) = ks[k] := by simp [at_, h]
  rw [this]
  exact List.getElem_mem h

section
variable {M : Nat} {xs : List ArcD} {ks : List Int} {f t : Int}
theorem four (hx : ArcsIn M xs) (hf : 0 ≤ f ∧ f < M) (ht : 0 ≤ t ∧ t < M) {s : Int} (hs : 0 ≤ s ∧ s < M) :
    (0 ≤ at_ (nearL M xs s) f ∧ at_ (nearL M xs s) f ≤ 99999) ∧ (0 ≤ at_ (nearL M xs s) t ∧ at_ (nearL M xs s) t ≤ 99999) ∧ (0 ≤ at_ (nearL M (xs.map flip) s) f ∧ at_ (nearL M (xs.map flip) s) f ≤ 99999) ∧ (0 ≤ at_ (nearL M (xs.map flip) s) t ∧ at_ (nearL M (xs.map flip) s) t ≤ 99999) :=
  ⟨nearL_bound hx hs hf, nearL_bound hx hs ht, nearL_bound (arcsIn_back hx) hs hf, nearL_bound (arcsIn_back hx) hs ht⟩
theorem boundTo_bound (hx : ArcsIn M xs) (hk : ∀ y ∈ ks, 0 ≤ y ∧ y < M) (hf : 0 ≤ f ∧ f < M) (ht : 0 ≤ t ∧ t < M) : ∀ k, k ≤ ks.length → 0 ≤ boundTo M xs ks f t k ∧ boundTo M xs ks f t k ≤ 99999
  | 0, _ => by unfold boundTo; omega
  | k + 1, h => by
    have ih := boundTo_bound hx hk hf ht k (by omega)
    obtain ⟨h1, h2, h3, h4⟩ := four hx hf ht (hk _ (at_mem (ks := ks) (k := k) (by omega)))
    have := lessM_bound h1 h2 h3 h4
    unfold boundTo
    omega
/-- One mark says no more than what it costs. -/
theorem lessM_le (hM : M ≤ 17) (hx : ArcsIn M xs) (hf : 0 ≤ f ∧ f < M) (ht : 0 ≤ t ∧ t < M) {s : Int} (hs : 0 ≤ s ∧ s < M) :
    lessM (nearL M xs s) (nearL M (xs.map flip) s) f t ≤ at_ (nearL M xs f) t := by
  obtain ⟨h1, h2, h3, h4⟩ := four hx hf ht hs
  have c1 := near_tri hM hx hs hf ht
  have c2 := near_tri hM hx hf ht hs
  have e1 := near_back hM hx hf hs
  have e2 := near_back hM hx ht hs
  have b0 := nearL_bound hx hf ht
  have s1 := fun h => nearL_small hM hx hs hf h
  have s2 := fun h => nearL_small hM (arcsIn_back hx) hs ht h
  have s3 := fun h => nearL_small hM hx hf ht h
  unfold lessM
  simp only
  unfold farI at *
  rw [e1, e2] at c2
  repeat' split
  all_goals omega
theorem boundTo_le (hM : M ≤ 17) (hx : ArcsIn M xs) (hk : ∀ y ∈ ks, 0 ≤ y ∧ y < M) (hf : 0 ≤ f ∧ f < M) (ht : 0 ≤ t ∧ t < M) : ∀ k, k ≤ ks.length → boundTo M xs ks f t k ≤ at_ (nearL M xs f) t
  | 0, _ => by
    have := nearL_bound hx hf ht
    unfold boundTo
    omega
  | k + 1, h => by
    have ih := boundTo_le hM hx hk hf ht k (by omega)
    have := lessM_le hM hx hf ht (hk _ (at_mem (ks := ks) (k := k) (by omega)))
    unfold boundTo
    omega
/-- The first node as a mark says what it costs. -/
theorem lessM_self (hM : M ≤ 17) (hx : ArcsIn M xs) (hf : 0 ≤ f ∧ f < M) (ht : 0 ≤ t ∧ t < M) :
    lessM (nearL M xs f) (nearL M (xs.map flip) f) f t = at_ (nearL M xs f) t := by
  have hle := lessM_le hM hx hf ht hf
  obtain ⟨h1, h2, h3, h4⟩ := four hx hf ht hf
  have e0 := nearL_start hM hx hf
  have e1 := nearL_start hM (arcsIn_back hx) hf
  have s3 := fun h => nearL_small hM hx hf ht h
  unfold lessM at hle ⊢
  simp only at hle ⊢
  rw [e0, e1] at hle ⊢
  repeat' split at hle
  all_goals (repeat' split) <;> omega
theorem boundTo_app (js : List Int) : ∀ k, k ≤ ks.length → boundTo M xs (ks ++ js) f t k = boundTo M xs ks f t k
  | 0, _ => rfl
  | k + 1, h => by
    have ih := boundTo_app js k (by omega)
    have e : at_ (ks ++ js) (k : Int) = at_ ks (k : Int) := by simp [at_, List.getD_eq_getElem?_getD, List.getElem?_append_left (show k < ks.length by omega)]
    rw [boundTo, boundTo, ih, e]
theorem boundTo_with (hM : M ≤ 17) (hx : ArcsIn M xs) (hk : ∀ y ∈ ks, 0 ≤ y ∧ y < M) (hf : 0 ≤ f ∧ f < M) (ht : 0 ≤ t ∧ t < M) : boundTo M xs (ks ++ [f]) f t (ks.length + 1) = at_ (nearL M xs f) t := by
  have hle := boundTo_le hM hx hk hf ht ks.length (Nat.le_refl _)
  have e : at_ (ks ++ [f]) ((ks.length : Nat) : Int) = f := by simp [at_]
  rw [boundTo, boundTo_app _ _ (Nat.le_refl _), e, lessM_self hM hx hf ht]
  omega
/-- Over an arc. -/
theorem lessM_arc (hM : M ≤ 17) (hx : ArcsIn M xs) (ht : 0 ≤ t ∧ t < M) {s : Int} (hs : 0 ≤ s ∧ s < M) {a : ArcD} (ha : a ∈ xs) (hfar : lessM (nearL M xs s) (nearL M (xs.map flip) s) a.t t < 99999) :
    lessM (nearL M xs s) (nearL M (xs.map flip) s) a.f t ≤ a.c + lessM (nearL M xs s) (nearL M (xs.map flip) s) a.t t := by
  have hb := hx a ha
  have hf : 0 ≤ a.f ∧ a.f < M := ⟨hb.1, hb.2.1⟩
  have hg : 0 ≤ a.t ∧ a.t < M := ⟨hb.2.2.1, hb.2.2.2.1⟩
  obtain ⟨h1, h2, h3, h4⟩ := four hx hf ht hs
  obtain ⟨g1, _, g3, _⟩ := four hx hg ht hs
  have c1 : at_ (nearL M xs s) a.f < 99999 → at_ (nearL M xs s) a.t ≤ at_ (nearL M xs s) a.f + a.c := fun h => nearL_arc hM hx hs ha h
  have c2 : at_ (nearL M (xs.map flip) s) a.t < 99999 → at_ (nearL M (xs.map flip) s) a.f ≤ at_ (nearL M (xs.map flip) s) a.t + a.c := fun h => nearL_arc hM (arcsIn_back hx) hs (a := flip a) (List.mem_map_of_mem ha) h
  have s1 := fun h => nearL_small hM hx hs hf h
  have s2 := fun h => nearL_small hM hx hs hg h
  have s3 := fun h => nearL_small hM hx hs ht h
  have r1 := fun h => nearL_small hM (arcsIn_back hx) hs hf h
  have r2 := fun h => nearL_small hM (arcsIn_back hx) hs hg h
  have r3 := fun h => nearL_small hM (arcsIn_back hx) hs ht h
  unfold lessM at hfar ⊢
  simp only at hfar ⊢
  repeat' split at hfar
  all_goals (repeat' split) <;> omega
theorem boundTo_arc (hM : M ≤ 17) (hx : ArcsIn M xs) (hk : ∀ y ∈ ks, 0 ≤ y ∧ y < M) (ht : 0 ≤ t ∧ t < M) {a : ArcD} (ha : a ∈ xs) : ∀ k, k ≤ ks.length → boundTo M xs ks a.t t k < 99999 → boundTo M xs ks a.f t k ≤ a.c + boundTo M xs ks a.t t k
  | 0, _, _ => by
    have := hx a ha
    unfold boundTo
    omega
  | k + 1, h, hb => by
    have hs := hk _ (at_mem (ks := ks) (k := k) (by omega))
    unfold boundTo at hb ⊢
    have ih := boundTo_arc hM hx hk ht ha k (by omega) (by omega)
    have := lessM_arc hM hx ht hs ha (by omega)
    omega
theorem boundTo_self (hx : ArcsIn M xs) : ∀ k, boundTo M xs ks t t k = 0
  | 0 => rfl
  | k + 1 => by
    rw [boundTo, boundTo_self hx k]
    unfold lessM
    simp only [Int.sub_self]
    simp
end

end Go.Proofs.Ytgeoheeibebmcab

namespace Go.Proofs.Ytgeoheeibebmcab
open Go.RowKit

/-- A number is in a list. -/
def inL (ys : List Int) (x : Int) : Bool := decide (x ∈ ys)
theorem inL_iff (ys : List Int) (x : Int) : inL ys x = true ↔ x ∈ ys := by simp [inL]
theorem inL_no (ys : List Int) (x : Int) : inL ys x = false ↔ x ∉ ys := by simp [inL]
/-- What the first k arcs cost, those that are in another list. -/
def shareTo (xs : List ArcD) (ys zs : List Int) : Nat → Int
  | 0 => 0
  | k + 1 => if inL zs (numOf ys k) then shareTo xs ys zs k + (arcOf xs (numOf ys k)).c else shareTo xs ys zs k
def shareI (m : Int) (xs : List ArcD) (ys zs : List Int) : Int := if okB m xs ys && okB m xs zs then shareTo xs ys zs ys.length else -1
theorem shareTo_bd {m : Int} {xs : List ArcD} {ys zs : List Int} (h : okB m xs ys = true) : ∀ k, k ≤ ys.length → 0 ≤ shareTo xs ys zs k ∧ shareTo xs ys zs k ≤ 99 * k
  | 0, _ => by simp [shareTo]
  | k + 1, hk => by
    have ih := shareTo_bd (zs := zs) h k (by omega)
    obtain ⟨j, a, _, _, h0, h1, e⟩ := ok_arc h (List.getElem?_eq_getElem (show k < ys.length by omega))
    unfold shareTo
    split
    · rw [e]; omega
    · omega
theorem numOf_get {ys : List Int} {k : Nat} {y : Int} (h : ys[k]? = some y) : numOf ys k = y := by simp [numOf, List.getD_eq_getElem?_getD, h]

end Go.Proofs.Ytgeoheeibebmcab

namespace Go.Proofs.Ytgeoheeibebmcab
open Go.RowKit

theorem inL_take {ys : List Int} {x y : Int} {k : Nat} (h : x ∉ ys.take k) (hy : ys[k]? = some y) (hne : y ≠ x) : x ∉ ys.take (k + 1) := by
  rw [List.take_add_one, hy]
  simp
  exact ⟨h, fun e => hne e.symm⟩

set_option maxRecDepth 100000 in
set_option maxHeartbeats 1000000 in
theorem l12In_any (A : Option Addr) (n c : Nat) (ys : List Int) (x : Int) (w : World) (hn : n ≤ 1048576) (hl : ys.length = n) (hx : IntsAt w A ys) :
    Calls Try.prog 86 #[.slice A n c, .int .i64 x] w fun e w' => e = .returned (.bool (inL ys x)) ∧ Below w.heap.size w w' := by
  have HL := Lib.hid hl
  clear hl
  go_enter Try.func86, Try.ntmps86
  go_wp2
  go_loopw [5] (fun i wr => ∃ k : Nat, k ≤ n ∧ i = .int .i64 k ∧ x ∉ ys.take k ∧ Past w wr) (fun i _ => n - (intOf i).toNat)
  case atStart => exact ⟨0, by omega, rfl, by simp, Past.refl _⟩
  case round =>
    obtain ⟨k, hk, rfl, hno, hb⟩ := hrel
    have HN := Lib.hid hno
    clear hno
    by_cases hlt : k < n
    · obtain ⟨y, ha⟩ : ∃ a, ys[k]? = some a := ⟨_, List.getElem?_eq_getElem (by have := HL.out; omega)⟩
      obtain ⟨g, o, rfl, c0⟩ := (hx.below hb) k _ ha
      have HA := Lib.hid ha
      have i0 : (0 : Int) ≤ (k : Int) := by omega
      have i1 : (k : Int) < (n : Int) := by omega
      clear ha
      by_cases e : y = x
      · subst e
        go_wp2
        go_ret
        exact ⟨ret_bool ((inL_iff _ _).2 (List.mem_of_getElem? HA.out)).symm, hb⟩
      · go_wp2
        go_roundw
        case rel => exact ⟨k + 1, by omega, by go_num, inL_take HN.out HA.out e, hb⟩
        case measure => simp [intOf]; omega
    · obtain rfl : n = k := by omega
      go_wp2
      go_ret
      exact ⟨ret_bool ((inL_no _ _).2 (by have := HN.out; rwa [List.take_of_length_le (by have := HL.out; omega)] at this)).symm, hb⟩

/-- Where a number is in a list: -1, if it isn't. -/
def Found (ys : List Int) (x j : Int) : Prop := (j = -1 ∧ x ∉ ys) ∨ ∃ k : Nat, j = k ∧ ys[k]? = some x ∧ x ∉ ys.take k

set_option maxRecDepth 100000 in
set_option maxHeartbeats 1000000 in
theorem index_any (A : Option Addr) (n c : Nat) (ys : List Int) (x : Int) (w : World) (hn : n ≤ 1048576) (hl : ys.length = n) (hx : IntsAt w A ys) :
    Calls Try.prog 124 #[.slice A n c, .int .i64 x] w fun e w' => ∃ j : Int, e = .returned (.int .i64 j) ∧ Found ys x j ∧ Below w.heap.size w w' := by
  have HL := Lib.hid hl
  clear hl
  go_enter Try.func124, Try.ntmps124
  go_wp2
  go_loopw [8] (fun i wr => ∃ k : Nat, k ≤ n ∧ i = .int .i64 k ∧ x ∉ ys.take k ∧ Past w wr) (fun i _ => n - (intOf i).toNat)
  case atStart => exact ⟨0, by omega, rfl, by simp, Past.refl _⟩
  case round =>
    obtain ⟨k, hk, rfl, hno, hb⟩ := hrel
    have HN := Lib.hid hno
    clear hno
    by_cases hlt : k < n
    · obtain ⟨y, ha⟩ : ∃ a, ys[k]? = some a := ⟨_, List.getElem?_eq_getElem (by have := HL.out; omega)⟩
      obtain ⟨g, o, rfl, c0⟩ := (hx.below hb) k _ ha
      have HA := Lib.hid ha
      have i0 : (0 : Int) ≤ (k : Int) := by omega
      have i1 : (k : Int) < (n : Int) := by omega
      clear ha
      by_cases e : x = y
      · subst e
        go_wp2
        go_ret
        exact ⟨_, rfl, .inr ⟨k, rfl, HA.out, HN.out⟩, hb⟩
      · go_wp2
        go_roundw
        case rel => exact ⟨k + 1, by omega, by go_num, inL_take HN.out HA.out (fun h => e h.symm), hb⟩
        case measure => simp [intOf]; omega
    · obtain rfl : n = k := by omega
      go_wp2
      go_ret
      exact ⟨_, rfl, .inl ⟨rfl, by have := HN.out; rwa [List.take_of_length_le (by have := HL.out; omega)] at this⟩, hb⟩

set_option maxRecDepth 100000 in
set_option maxHeartbeats 1000000 in
theorem contains_any (A : Option Addr) (n c : Nat) (ys : List Int) (x : Int) (w : World) (hn : n ≤ 1048576) (hl : ys.length = n) (hx : IntsAt w A ys) :
    Calls Try.prog 89 #[.slice A n c, .int .i64 x] w fun e w' => e = .returned (.bool (inL ys x)) ∧ Below w.heap.size w w' := by
  go_enter Try.func89, Try.ntmps89
  go_wp2_with fail
  refine (index_any A n c ys x _ hn hl hx).mono ?_
  rintro e w1 ⟨j, rfl, hj, hb1⟩
  rcases hj with ⟨rfl, hno⟩ | ⟨k, rfl, hk, _⟩
  · have HN := Lib.hid hno
    clear hno
    go_wp2
    go_ret
    exact ⟨ret_bool ((inL_no _ _).2 HN.out).symm, hb1⟩
  · have HK := Lib.hid hk
    have i0 : (0 : Int) ≤ (k : Int) := by omega
    clear hk
    go_wp2
    go_ret
    exact ⟨ret_bool ((inL_iff _ _).2 (List.mem_of_getElem? HK.out)).symm, hb1⟩

end Go.Proofs.Ytgeoheeibebmcab

namespace Go.Proofs.Ytgeoheeibebmcab
open Go.RowKit

set_option maxRecDepth 100000 in
set_option maxHeartbeats 1000000 in
theorem wkIn_any (A : Option Addr) (n c : Nat) (ys : List Int) (x : Int) (w : World) (hn : n ≤ 1048576) (hl : ys.length = n) (hx : IntsAt w A ys) :
    Calls Try.prog 21 #[.slice A n c, .int .i64 x] w fun e w' => e = .returned (.bool (inL ys x)) ∧ Below w.heap.size w w' := by
  have HL := Lib.hid hl
  clear hl
  go_enter Try.func21, Try.ntmps21
  go_wp2
  go_loopw [5] (fun i wr => ∃ k : Nat, k ≤ n ∧ i = .int .i64 k ∧ x ∉ ys.take k ∧ Past w wr) (fun i _ => n - (intOf i).toNat)
  case atStart => exact ⟨0, by omega, rfl, by simp, Past.refl _⟩
  case round =>
    obtain ⟨k, hk, rfl, hno, hb⟩ := hrel
    have HN := Lib.hid hno
    clear hno
    by_cases hlt : k < n
    · obtain ⟨y, ha⟩ : ∃ a, ys[k]? = some a := ⟨_, List.getElem?_eq_getElem (by have := HL.out; omega)⟩
      obtain ⟨g, o, rfl, c0⟩ := (hx.below hb) k _ ha
      have HA := Lib.hid ha
      have i0 : (0 : Int) ≤ (k : Int) := by omega
      have i1 : (k : Int) < (n : Int) := by omega
      clear ha
      by_cases e : y = x
      · subst e
        go_wp2
        go_ret
        exact ⟨ret_bool ((inL_iff _ _).2 (List.mem_of_getElem? HA.out)).symm, hb⟩
      · go_wp2
        go_roundw
        case rel => exact ⟨k + 1, by omega, by go_num, inL_take HN.out HA.out e, hb⟩
        case measure => simp [intOf]; omega
    · obtain rfl : n = k := by omega
      go_wp2
      go_ret
      exact ⟨ret_bool ((inL_no _ _).2 (by have := HN.out; rwa [List.take_of_length_le (by have := HL.out; omega)] at this)).symm, hb⟩

end Go.Proofs.Ytgeoheeibebmcab

namespace Go.Proofs.Ytgeoheeibebmcab
open Go.RowKit

set_option maxRecDepth 100000 in
set_option maxHeartbeats 1000000 in
theorem wkInts_same (A B : Option Addr) (n c c' : Nat) (xs : List Int) (w : World) (hn : n ≤ 1048576) (hl : xs.length = n) (hx : IntsAt w A xs) (hy : IntsAt w B xs) :
    Calls Try.prog 17 #[.slice A n c, .slice B n c'] w fun e w' => e = .returned (.bool true) ∧ Below w.heap.size w w' := by
  go_enter Try.func17, Try.ntmps17
  go_wp2
  go_loopw [5] (fun i wr => ∃ k : Nat, k ≤ n ∧ i = .int .i64 k ∧ Past w wr) (fun i _ => n - (intOf i).toNat)
  case atStart => exact ⟨0, by omega, rfl, Past.refl _⟩
  case round =>
    obtain ⟨k, hk, rfl, hb⟩ := hrel
    by_cases hlt : k < n
    · obtain ⟨x0, ha⟩ : ∃ a, xs[k]? = some a := ⟨_, List.getElem?_eq_getElem (by omega)⟩
      obtain ⟨g, o, rfl, c0⟩ := (hx.below hb) k _ ha
      obtain ⟨g', o', rfl, d0⟩ := (hy.below hb) k _ ha
      have hi : (k : Int) < (n : Int) := by omega
      have h0 : (0 : Int) ≤ (k : Int) := by omega
      clear ha hl
      go_wp2_with fail
      go_quiet (fail)
      go_wp2
      go_roundw
      case rel => exact ⟨k + 1, by omega, by go_num, hb.drewN _⟩
      case measure => simp [intOf]; omega
    · go_wp2
      go_ret
      exact ⟨rfl, hb⟩

end Go.Proofs.Ytgeoheeibebmcab

namespace Go.Proofs.Ytgeoheeibebmcab
open Go.ChangeShapes Go.WideShapes Go.ChangeAt Go.RowKit

set_option maxRecDepth 100000 in
set_option maxHeartbeats 20000000 in
theorem fnReachArcs_walk (A : Option Addr) (n c : Nat) (w : World) (hn : n ≤ c) (hc : c ≤ maxLen) (hb : BytesAt w A n) :
    Calls Try.prog 4 #[.slice A n c] w fun e w' => e = .returned (.bool true) ∧ Below w.heap.size w w' := by
  by_cases h1 : 1048576 < n
  · have h1' : (1048576 : Int) < (n : Int) := by omega
    go_enter Try.func4, Try.ntmps4
    go_wp2
    go_ret
    exact ⟨rfl, Below.refl _ _⟩
  have h1' : ¬ (1048576 : Int) < (n : Int) := by omega
  go_enter Try.func4, Try.ntmps4
  go_wp2_with fail
  refine (drawReachArcs_any A n c w hn hc hb).mono ?_
  rintro e w1 ⟨m, B, k, cap, xs, nd, mo, rfl, hxk, hk, hx1, _, hmo, hb1, _⟩
  have HX := Lib.hid hxk
  have hmb : -1 ≤ mo ∧ mo ≤ 999 := by simp at hmo; omega
  clear hxk hb hn hc hmo
  have hkk : k ≤ 1048576 := by omega
  have hpW : Past w1 (w1.alloc (.cells #[.int .i64 m, .slice B k cap] 25)) := (Past.refl w1).alloc _
  go_wp2_with fail
  refine (implReachArcs_any m B k cap xs nd mo _ hkk HX.out (hx1.below hpW) (by omega)).mono ?_
  rintro e w2 ⟨v2, rfl, hv2, hb2⟩
  have b0 := cell_in (p := ⟨w1.heap.size, 0, none⟩) (v := .int .i64 m) hb2 (by go_simp)
  have b1 := cell_in (p := ⟨w1.heap.size, 1, none⟩) (v := .slice B k cap) hb2 (by go_simp)
  have hx2 := (hx1.below hpW).below hb2
  have hp2 : Past w w2 := Past.trans hb1 (hpW.trans hb2)
  obtain ⟨X, cx, rfl, hs2, _⟩ := hv2.form
  obtain ⟨ps, hps⟩ : ∃ ps, ps = goneI m xs nd mo := ⟨_, rfl⟩
  rw [← hps] at hs2 ⊢
  obtain ⟨R, hR⟩ : ∃ R, R = ps.length := ⟨_, rfl⟩
  have hR1 : R ≤ 1048576 := by rw [hR, hps]; exact goneI_len m xs nd mo
  rw [← hR]
  have HPS := Lib.hid hps
  have HR := Lib.hid hR.symm
  clear hps hR hv2 hx1 hb1 hb2 hpW
  go_wp2_with fail
  refine (specReachArcs_any m B k cap xs nd mo _ hkk HX.out hx2 (by omega)).mono ?_
  rintro e w3 ⟨v3, rfl, hv3, hb3⟩
  obtain ⟨F, cf, rfl, hs3, _⟩ := hv3.form
  rw [← HPS.out] at hs3 ⊢
  rw [HR.out]
  have b0 := cell_in hb3 b0
  have b1 := cell_in hb3 b1
  have hx3 := hx2.below hb3
  have hs23 := hs2.below hb3
  have hp3 := Past.trans hp2 hb3
  clear hv3 hx2 hs2 hb3 hp2
  go_wp2_with fail
  refine (wkInts_same X F R cx cf ps _ hR1 HR.out hs23 hs3).mono ?_
  rintro e w4 ⟨rfl, hb4⟩
  have b0 := cell_in hb4 b0
  have b1 := cell_in hb4 b1
  have hx4 := hx3.below hb4
  have hs4 := hs23.below hb4
  have hp4 := Past.trans hp3 hb4
  clear hx3 hs23 hs3 hb4 hp3
  by_cases hR0 : R = 0
  · subst hR0
    go_wp2_with fail
    refine (specReachArcs_any m B k cap xs nd mo _ hkk HX.out hx4 (by omega)).mono ?_
    rintro e w6 ⟨v6, rfl, hv6, hb6⟩
    obtain ⟨G, cg, rfl, hs6, _⟩ := hv6.form
    rw [← HPS.out] at hs6 ⊢
    rw [HR.out]
    go_wp2_with fail
    refine (wkInts_same X G 0 cx cg ps _ hR1 HR.out (hs4.below hb6) hs6).mono ?_
    rintro e w7 ⟨rfl, hb7⟩
    go_wp2
    go_ret
    exact ⟨rfl, (Past.trans hp4 hb6).trans hb7⟩
  · cases hH : hereB m xs nd with
    | false => exact absurd (by rw [← HR.out, HPS.out, goneI, hH]; rfl) hR0
    | true =>
    obtain ⟨hN, hn0, hn1⟩ := (hereB_iff _ _ _).1 hH
    obtain ⟨M, rfl, hM1, hM8⟩ := here_nat hN
    have hnb : 0 ≤ nd ∧ nd < (M : Int) := ⟨hn0, hn1⟩
    obtain ⟨ds, hds⟩ : ∃ ds, ds = nearL M xs nd := ⟨_, rfl⟩
    have hpl : ps = xs.map (partI ds mo) := by rw [HPS.out, goneI, if_pos hH, Int.toNat_natCast, hds]
    have hRk : R = k := by rw [← HR.out, hpl, List.length_map, HX.out]
    subst hRk
    have hre : reachI (M : Int) xs nd mo = inTo ds mo M := by rw [reachI, if_pos hH, Int.toNat_natCast, hds]
    have hR0' : ¬ (R : Int) = 0 := by omega
    have hRb : ((R : Int) == 0) = false := by simpa using hR0'
    have hin := arcsIn_net hN
    have harc : ∀ a ∈ xs, at_ ds a.f < 99999 → at_ ds a.f ≤ 11200 ∧ at_ ds a.t ≤ at_ ds a.f + a.c := fun a ha h => by
      have hab := hin _ ha
      rw [hds] at h ⊢
      exact ⟨nearL_small (by omega) hin hnb ⟨hab.1, hab.2.1⟩ (by omega), nearL_arc (by omega) hin hnb ha h⟩
    have hdb : ∀ v : Int, 0 ≤ v → v < M → 0 ≤ at_ ds v := fun v h0 h1 => by rw [hds]; exact (nearL_bound hin hnb ⟨h0, h1⟩).1
    have HPL := Lib.hid hpl
    have HIN := Lib.hid hin
    have HARC := Lib.hid harc
    have HDB := Lib.hid hdb
    have HRE := Lib.hid hre
    clear hN hH hds hpl hre hin harc hdb hnb
    go_wp2_with fail
    refine (implReachIn_any (M : Int) B R cap xs nd mo _ hkk HX.out hx4).mono ?_
    rintro e w6 ⟨v6, rfl, hv6, hb6⟩
    obtain ⟨rs, hrs⟩ : ∃ rs, rs = reachI (M : Int) xs nd mo := ⟨_, rfl⟩
    rw [← hrs] at hv6
    have hT1 : rs.length ≤ 1048576 := by rw [hrs]; exact reachI_len (M : Int) xs nd mo
    have hmem : ∀ i : Int, 0 ≤ i → i < M → inL rs i = rchB mo (at_ ds i) := fun i h0 h1 => by
      cases hr : rchB mo (at_ ds i) with
      | true => rw [inL_iff, hrs, HRE.out, mem_inTo]; exact ⟨h0, h1, hr⟩
      | false => rw [inL_no, hrs, HRE.out, mem_inTo]; rintro ⟨_, _, h⟩; rw [hr] at h; cases h
    obtain ⟨Y, cy, rfl, hr6, _⟩ := hv6.form
    obtain ⟨T, hT⟩ : ∃ T, T = rs.length := ⟨_, rfl⟩
    rw [← hT] at hT1 ⊢
    have HT := Lib.hid hT.symm
    have HMEM := Lib.hid hmem
    have b0 := cell_in hb6 b0
    have b1 := cell_in hb6 b1
    have hx6 := hx4.below hb6
    have hs6 := hs4.below hb6
    have hp6 := Past.trans hp4 hb6
    clear hv6 hx4 hs4 hb6 hp4 hrs hT hmem
    go_wp2
    go_loopw [8] (fun i wr => ∃ j : Nat, j ≤ R ∧ i = .int .i64 j ∧ Past w6 wr) (fun i _ => R - (intOf i).toNat)
    case atStart => exact ⟨0, by omega, rfl, Past.refl _⟩
    case round =>
      obtain ⟨j, hj, rfl, hbr⟩ := hrel
      have b0 := cell_in hbr b0
      have b1 := cell_in hbr b1
      by_cases hlt : j < R
      · obtain ⟨⟨f, t, c', l', d⟩, ha⟩ : ∃ a, xs[j]? = some a := ⟨_, List.getElem?_eq_getElem (by have := HX.out; omega)⟩
        obtain ⟨g, o, rfl, c0, c1, c2, c3, c4⟩ := (hx6.below hbr) j _ ha
        have hm := List.mem_of_getElem? ha
        have hab := HIN.out _ hm
        have hstep := HARC.out _ hm
        simp only at hab hstep
        obtain ⟨x, hx⟩ : ∃ x, x = at_ ds f := ⟨_, rfl⟩
        obtain ⟨y, hy⟩ : ∃ y, y = at_ ds t := ⟨_, rfl⟩
        obtain ⟨z, hz⟩ : ∃ z, z = partI ds mo ⟨f, t, c', l', d⟩ := ⟨_, rfl⟩
        have hzj : ps[j]? = some z := by rw [HPL.out, List.getElem?_map, ha, hz]; rfl
        obtain ⟨g2, o2, rfl, cz⟩ := (hs6.below hbr) j z hzj
        have hx0 := HDB.out f (by omega) (by omega)
        have hIf := HMEM.out f (by omega) (by omega)
        have hIt := HMEM.out t (by omega) (by omega)
        rw [← hx] at hIf hstep hx0
        rw [← hy] at hIt hstep
        have j0 : (0 : Int) ≤ (j : Int) := by omega
        have j1 : (j : Int) < (R : Int) := by omega
        obtain ⟨W1, hW1⟩ : ∃ W1, W1 = wr.alloc (.cells #[.int .i64 f, .int .i64 t, .int .i64 c', .int .i64 l', .int .i64 d] 36) := ⟨_, rfl⟩
        have hpA : Past wr W1 := by rw [hW1]; exact (Past.refl wr).alloc _
        have d0 := past_cell (w := W1) (p := ⟨wr.heap.size, 0, none⟩) (v := .int .i64 f) (by rw [hW1]; go_simp)
        have d1 := past_cell (w := W1) (p := ⟨wr.heap.size, 1, none⟩) (v := .int .i64 t) (by rw [hW1]; go_simp)
        have d2 := past_cell (w := W1) (p := ⟨wr.heap.size, 2, none⟩) (v := .int .i64 c') (by rw [hW1]; go_simp)
        have dz := past_cell (cell_in hpA cz)
        have hrW := (hr6.below hbr).below hpA
        have C1 := Lib.hid (fun q : PastOf W1 => wkIn_any Y T cy rs f q.W hT1 HT.out (hrW.below q.h))
        have C2 := Lib.hid (fun q : PastOf W1 => wkIn_any Y T cy rs t q.W hT1 HT.out (hrW.below q.h))
        rw [hIf] at C1
        rw [hIt] at C2
        have HW1 := Lib.hid hW1
        have hc0 : 0 ≤ c' := by omega
        rw [partI] at hz
        simp only at hz
        rw [← hx] at hz
        clear hx hy ha hm hW1 hIf hIt hrW hzj
        cases hr : rchB mo x with
        | false =>
          rw [hr] at hz C1
          obtain rfl : z = -1 := by simpa using hz
          have gc : decide (c' < -1) = false := decide_eq_false (by omega)
          have ge : ¬ (-1 : Int) = c' := by omega
          have ge' : decide ((-1 : Int) = c') = false := decide_eq_false ge
          have ge2 : ((-1 : Int) == c') = false := by simpa using ge
          clear hz hab hstep hr
          go_wp2_with fail
          rw [← HW1.out]
          refine wp_region_past (by kernel_rfl) (by kernel_rfl) ?_
          repeat (go_big_quiet_step (with_reducible exact rfl))
          go_big_quiet_step ((go_at_call 21; exact past_call (C1.out _)))
          repeat (go_big_quiet_step (with_reducible exact rfl))
          refine wpQuiet_nil ?_
          rintro _ ⟨⟨W8, hW8⟩, rfl⟩
          go_wp2
          go_roundw
          case rel => exact ⟨j + 1, by omega, by go_num, (hbr.trans hpA).trans hW8⟩
          case measure => simp [intOf]; omega
        | true =>
          obtain ⟨x1, x2⟩ := (rchB_iff _ _).1 hr
          obtain ⟨x3, x4⟩ := hstep x1
          rw [hr, if_pos rfl] at hz
          rw [hr] at C1
          by_cases hs : mo - x < c'
          · rw [if_pos hs] at hz
            have z0 : 0 ≤ z := by omega
            have gz : decide (0 ≤ z) = true := decide_eq_true z0
            have zc : ¬ c' < z := by omega
            have gc : decide (c' < z) = false := decide_eq_false zc
            have ge : ¬ z = c' := by omega
            have ge' : decide (z = c') = false := decide_eq_false ge
            have ge2 : (z == c') = false := by simpa using ge
            clear hz hab hstep hr
            go_wp2_with fail
            rw [← HW1.out]
            refine wp_region_past (by kernel_rfl) (by kernel_rfl) ?_
            repeat (go_big_quiet_step (with_reducible exact rfl))
            go_big_quiet_step ((go_at_call 21; exact past_call (C1.out _)))
            repeat (go_big_quiet_step (with_reducible exact rfl))
            refine wpQuiet_nil ?_
            rintro _ ⟨⟨W8, hW8⟩, rfl⟩
            go_wp2
            go_roundw
            case rel => exact ⟨j + 1, by omega, by go_num, (hbr.trans hpA).trans hW8⟩
            case measure => simp [intOf]; omega
          · rw [if_neg hs] at hz
            subst hz
            have hyr : rchB mo y = true := (rchB_iff _ _).2 ⟨by omega, by omega⟩
            rw [hyr] at C2
            have gz : decide (0 ≤ z) = true := decide_eq_true hc0
            have zc : ¬ z < z := by omega
            have gc : decide (z < z) = false := decide_eq_false zc
            have ge' : decide (z = z) = true := decide_eq_true rfl
            have ge2 : (z == z) = true := by simp
            clear hab hstep hr hyr
            go_wp2_with fail
            rw [← HW1.out]
            refine wp_region_past (by kernel_rfl) (by kernel_rfl) ?_
            repeat (go_big_quiet_step (with_reducible exact rfl))
            go_big_quiet_step ((go_at_call 21; exact past_call (C1.out _)))
            repeat (go_big_quiet_step (with_reducible exact rfl))
            go_big_quiet_step ((go_at_call 21; exact past_call (C2.out _)))
            repeat (go_big_quiet_step (with_reducible exact rfl))
            refine wpQuiet_nil ?_
            rintro _ ⟨⟨W8, hW8⟩, rfl⟩
            go_wp2
            go_roundw
            case rel => exact ⟨j + 1, by omega, by go_num, (hbr.trans hpA).trans hW8⟩
            case measure => simp [intOf]; omega
      · obtain rfl : j = R := by omega
        go_wp2
        go_ret
        exact ⟨by simp, hp6.trans hbr⟩

set_option maxRecDepth 100000 in
theorem fnReachArcs_lifted (os : Os) (started : os.Started) (H : Type) (enc : TypeId × Value → H) :
    ReturnsInHanded {} Try.checked os 4 .any (Rows.fnReachArcsSpec.pre6 enc Try.prog Try.f4 Rows.fnReachArcsRow.domain false) (Rows.fnReachArcsSpec.post enc Try.prog Try.f4 false true false false) := by
  refine returnsInHanded_of_change (C := Try.checked) own started (by kernel_rfl) Try.func4
    (ChangeSpec.witness6 (enc := enc) (C := Try.checked) false ⟨#[], #[.slice none 0 0], []⟩ 8 (by kernel_rfl) (by kernel_rfl) (by kernel_rfl) (by kernel_rfl)) ?_
  intro W base args ds gs before hval0 hW hcnd _
  have hval : ∀ (j : Nat) t v, Try.f4.params[j]? = some t → args[j]? = some v → Value.okWide Try.prog W .any base t v := hval0
  have hW' := hW
  obtain ⟨p, q, hA0, hV, rfl, hfz, hnd⟩ := hW
  have hA : DataW.TrodAll enc Try.prog W 0 (fun _ => true) true Try.f4.params.toList args.toList ds p := hA0
  rw [Try.params4] at hA hval
  obtain ⟨v0, vs0, d0, ds0, p0, q0, hargs, rfl, rfl, h0, r0⟩ := trodAll_cons hA
  obtain ⟨rfl, rfl, rfl⟩ := trodAll_nil r0
  obtain rfl : args = #[v0] := by cases args; simp_all
  obtain ⟨rfl, rfl⟩ := trodVars_none hV
  have k0 := h0
  have lt0 := places_lt k0
  obtain ⟨A0, n0, c0, rfl, hn0, hc0, hb0⟩ := open_bytes (hval 0 22 v0 rfl rfl) h0
  clear hA0 hval0
  refine (fnReachArcs_walk A0 n0 c0 W hn0 hc0 hb0).mono fun e W' ⟨he, bel⟩ => ?_
  subst he
  exact ⟨_, rfl, _, _, _, [], _, [], hW', trodAll_mk1 (shut_bool Try.underlying4 _), (trodAll_cons_mk (Below.trod laidOut (by kernel_rfl) (of_decide_eq_true (by kernel_rfl)) k0 bel lt0) trodAll_mk0), rfl, bel.frame _, fun h => by cases h⟩

/-- The given statement. -/
theorem fnReachArcs_proved : Rows.FnReachArcsSaid :=
  OpenClaim.holds_of_wide 4 Try.f4 rfl rfl rfl rfl rfl rfl rfl ⟨rfl, rfl, rfl, rfl, rfl⟩ rfl rfl rfl rfl rfl (by kernel_rfl) Try.func4 (by kernel_rfl)
    (of_decide_eq_true (by kernel_rfl)) (by unfold Func.isWrapper; first | (rw [if_pos (by decide +kernel)]; kernel_rfl) | (rw [if_neg (by decide +kernel)]; exact ⟨rfl, rfl⟩))
    (fun os started H enc _ => fnReachArcs_lifted os started H enc)

end Go.Proofs.Ytgeoheeibebmcab
