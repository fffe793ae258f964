/-
  DrawWalkJoin: a net and two lists of numbers, in new memory.
-/
import Derived.Test.YtokljfeoignbcaaDraw6
import Derived.Test.YtokljfeoignbcaaForm2
import Derived.Test.YtokljfeoignbcaaCost
namespace Go.Proofs.Ytokljfeoignbcaa
open Go.RowKit

theorem NN.form {w : World} {lo : Nat} {v : Value} {zs : List Int} (h : Res w lo v zs) (hn : NN v) : ∃ g c, v = .slice (some ⟨g, 0, none⟩) zs.length c ∧ IntsAt w (some ⟨g, 0, none⟩) zs ∧ zs.length ≤ c ∧ c ≤ maxLen := by
  obtain ⟨A, c, rfl, hi, hlc, hcm, hA⟩ := h.form2
  rcases hA with ⟨rfl, h0, rfl⟩ | ⟨g, rfl⟩
  · exact absurd (by rw [h0]) hn
  · exact ⟨g, c, rfl, hi, hlc, hcm⟩

/-- A net and two lists were drawn into new memory. -/
def JoinG (w : World) (e : Ending) (w' : World) : Prop :=
  ∃ (m : Int) (B : Option Addr) (k cap : Nat) (xs : List ArcD) (va : Value) (za : List Int) (vb : Value) (zb : List Int), e = .returned (.tuple #[.agg #[.int .i64 m, .slice B k cap], va, vb]) ∧ xs.length = k ∧ k ≤ 13 ∧ ArcsAt w' B xs ∧ za.length ≤ 22 ∧ Res w' w.heap.size va za ∧ NN va ∧ zb.length ≤ 22 ∧ Res w' w.heap.size vb zb ∧ NN vb ∧ Below w.heap.size w w'

/-- What is handed back, once the result's own block is written. -/
theorem drawn_end {w W4 w5 : World} {R lo lo2 : Nat} {va vb : Value} {za zb : List Int} {xs : List ArcD} {B : Option Addr} (hp4 : Past w W4) (hg5 : W4.drew.grownBy w5 (some R)) (hva : Res W4 lo va za) (hvb : Res w5 lo2 vb zb) (hx : ArcsAt W4 B xs) (hBR : blk B ≠ some R) (hneB : blk B ≠ some w.heap.size) (hRW : w.heap.size ≤ R ∧ R < lo) (hwW : w.heap.size < lo) (h2 : lo ≤ lo2) (m : Int) (B' : Option Addr) (k cap : Nat) :
    ArcsAt ((w5.setCell ⟨w.heap.size, 0, none⟩ (.int .i64 m)).setCell ⟨w.heap.size, 1, none⟩ (.slice B' k cap)) B xs ∧ Res ((w5.setCell ⟨w.heap.size, 0, none⟩ (.int .i64 m)).setCell ⟨w.heap.size, 1, none⟩ (.slice B' k cap)) w.heap.size va za ∧
      Res ((w5.setCell ⟨w.heap.size, 0, none⟩ (.int .i64 m)).setCell ⟨w.heap.size, 1, none⟩ (.slice B' k cap)) w.heap.size vb zb ∧ Below w.heap.size w ((w5.setCell ⟨w.heap.size, 0, none⟩ (.int .i64 m)).setCell ⟨w.heap.size, 1, none⟩ (.slice B' k cap)) := by
  have hp5 : Past w w5 := Below.grown hp4.drew hg5 hp4.size (fun k e => by injection e with e; omega)
  have hva5 := hva.drew.young hg5 hRW.2
  have na : va.ownBlock ≠ some w.heap.size := fun e => own_ne hva5 (g := w.heap.size) hwW e.symm
  have nb : vb.ownBlock ≠ some w.heap.size := fun e => own_ne hvb (g := w.heap.size) (by omega) e.symm
  exact ⟨((hx.drew.grown hg5 (fun b e => by injection e with e; rw [← e]; exact hBR)).far ⟨w.heap.size, 0, none⟩ (.int .i64 m) hneB).far ⟨w.heap.size, 1, none⟩ (.slice B' k cap) hneB,
    Res.lower (own_far (own_far hva5 na _) na _) (Nat.le_of_lt hwW), Res.lower (own_far (own_far hvb nb _) nb _) (by omega),
    Below.setCell (Below.setCell hp5 (p := ⟨w.heap.size, 0, none⟩) (by simp) (.int .i64 m)) (p := ⟨w.heap.size, 1, none⟩) (by simp) (.slice B' k cap)⟩

set_option maxRecDepth 100000 in
set_option maxHeartbeats 4000000 in
theorem drawWalkJoin_any (A : Option Addr) (n c : Nat) (w : World) (hn : n ≤ c) (hc : c ≤ maxLen) (hb : BytesAt w A n) :
    Calls Try.prog 39 #[.slice A n c] w (JoinG w) := by
  have hpV : Past w (w.alloc (.cells #[.int .i64 0, .slice none 0 0] 30)) := (Past.refl w).alloc _
  go_enter Try.func39, Try.ntmps39
  go_wp2_with fail
  refine (open_any A n c _ hn hc (hb.below hpV)).mono ?_
  rintro e w1 ⟨R, n', c', rfl, hR, hrd, hb1⟩
  rw [World.size_alloc] at hR
  have hF : RdF w1 R _ A n' c' (53 + 83) := ⟨0, by omega, hrd⟩
  have r0 : RowN w1 w.heap.size 30 2 := by
    have r : RowN (w.alloc (.cells #[.int .i64 0, .slice none 0 0] 30)) w.heap.size 30 2 := ⟨_, heap_alloc_new w _, rfl⟩
    exact r.keep (hb1.block _ r.lt)
  have hp1 := hpV.trans hb1
  have hR1 := hF.at_
  clear hrd hb1 hpV
  go_wp2_with fail
  refine (l30AnyNet_any R _ A n' c' 53 w1 hF).mono ?_
  rintro e w2 ⟨m, B, k, cap, xs, rfl, hxk, hk, hxB, hoB, hr2, hg2⟩
  have HX := Lib.hid hxk
  have hp2 : Past w w2 := Below.grown hp1 hg2 hp1.size (fun k e => by injection e with e; omega)
  have r2 := r0.young hg2 (by omega)
  have hBR : blk B ≠ some R := hoB.ne_blk hR1
  have hneB : blk B ≠ some w.heap.size := hoB.ne_blk (by omega)
  have s12 := hg2.size
  obtain ⟨W, hW⟩ : ∃ W, W = w2.alloc (.cells #[.int .i64 m, .slice B k cap] 30) := ⟨_, rfl⟩
  have hpW : Past w2 W := by rw [hW]; exact (Past.refl w2).alloc _
  have b0 : W.cell? ⟨w2.heap.size, 0, none⟩ = some (.int .i64 m) := by rw [hW]; go_simp
  have b1 : W.cell? ⟨w2.heap.size, 1, none⟩ = some (.slice B k cap) := by rw [hW]; go_simp
  have hWs : W.heap.size = w2.heap.size + 1 := by rw [hW]; simp
  have hxW := hxB.below hpW
  have hrW := hr2.below hpW
  have r3 := r2.keep (hpW.block _ r2.lt)
  have hp3 := hp2.trans hpW
  have hs2 : w.heap.size < w2.heap.size := r2.lt
  have hNR : w2.heap.size ≠ R := by omega
  have hq0 : ∀ (u : World) (j : Nat) (x : Value), (u.setCell ⟨w.heap.size, j, none⟩ x).cell? ⟨w2.heap.size, 0, none⟩ = u.cell? ⟨w2.heap.size, 0, none⟩ := fun u j x => World.cell?_setCell_other _ _ _ _ (by intro e; injection e; omega)
  have hq1 : ∀ (u : World) (j : Nat) (x : Value), (u.setCell ⟨w.heap.size, j, none⟩ x).cell? ⟨w2.heap.size, 1, none⟩ = u.cell? ⟨w2.heap.size, 1, none⟩ := fun u j x => World.cell?_setCell_other _ _ _ _ (by intro e; injection e; omega)
  go_wp2_with fail
  rw [← hW]
  refine (l30AnyWalk_any R _ A B n' c' 27 k cap m xs W hrW hk HX.out hxW hBR).mono ?_
  rintro e w3 ⟨va, za, rfl, hal, hva, hr3, hg3, hna⟩
  have b0 := cell_far hg3 b0 hNR
  have b1 := cell_far hg3 b1 hNR
  have r3 := r3.young hg3 (by omega)
  have hx3 := hxW.grown hg3 (fun b e => by injection e with e; rw [← e]; exact hBR)
  have hp3 : Past w w3 := Below.grown hp3 hg3 hp3.size (fun k e => by injection e with e; omega)
  have hRW : w.heap.size ≤ R ∧ R < W.heap.size := by omega
  have hwW : w.heap.size < W.heap.size := by omega
  have hs3 := hg3.size
  obtain ⟨ga, ca, rfl, ha3, hac, hcma⟩ := hna.form hva
  obtain ⟨la, hla⟩ : ∃ L, L = za.length := ⟨_, rfl⟩
  rw [← hla] at hal hac hva ⊢
  have HA : Hid (za.length ≤ 22) := by rw [Hid, ← hla]; exact hal
  have HL := Lib.hid hla.symm
  have hv3 : Res w3 W.heap.size (.slice (some ⟨ga, 0, none⟩) la ca) za := hva
  have HXX := Lib.hid hx3
  clear hW hoB hr2 hg2 hxB r0 hF hrW hxW hg3 hpW hxk hva hna hla hcma
  go_wp2_with fail
  refine (l1Ok_any m B k cap xs _ (by omega) HX.out hx3).mono ?_
  rintro e w4 ⟨rfl, hb4⟩
  have b0 := cell_in hb4 b0
  have b1 := cell_in hb4 b1
  have r4 := r3.keep (hb4.block _ r3.lt)
  have hx4 := hx3.below hb4
  have hp4 := hp3.trans hb4
  have hv4 := hv3.below hb4
  have ha4 := ha3.below hb4
  have hr4 := hr3.below hb4
  have hg4 : W.heap.size ≤ w4.heap.size := Nat.le_trans hs3 hb4.size
  clear hx3 hp3 hv3 ha3 hr3 hb4 r3
  cases hN : netB m xs with
  | false =>
    clear hN
    have hsz4 := hg4
    have hrW := hr4.less (f' := 26) (by omega)
    have hxW := hx4
    have r3 := r4
    clear hr4 hx4 r4
    go_upto_region 6 with (fail)
    go_region_held3 (fun w' => w'.cell? ⟨w2.heap.size, 0, none⟩ = some (.int .i64 m) ∧ w'.cell? ⟨w2.heap.size, 1, none⟩ = some (.slice B k cap))
      (first | go_keep | (simp only [hq0, hq1]; assumption))
      (first
        | (go_at_call 66; refine (l30AnyWalk_any R _ A B n' c' 0 k cap m xs _ hrW.drew hk HX.out hxW.drew hBR).mono ?_; rintro e w5 ⟨v5, zs, rfl, hzl, hv5, hr5, hg5, hn5⟩; have b0 := cell_far hg5 b0 hNR; have b1 := cell_far hg5 b1 hNR; have r5 : RowN w5 w.heap.size 30 2 := RowN.young (w := w4.drew) r3 hg5 (by omega); obtain ⟨y0, e0⟩ := r5.cell (i := 0) (by omega); obtain ⟨y1, e1⟩ := r5.cell (i := 1) (by omega); have z0 := r5.frozen 0; have z1 := r5.frozen 1))
    have hres := drawn_end hp4 hg5 hv4 hv5 hxW hBR hneB hRW hwW hsz4 m B k cap
    clear hv5 hg5 hr5
    go_wp2
    exact bodyPost_ret (v := .tuple #[.agg #[.int .i64 m, .slice B k cap], .slice (some ⟨ga, 0, none⟩) la ca, v5]) (by simp [results, Try.results39, go_sem, e0, e1]) rfl ⟨m, B, k, cap, xs, _, za, v5, zs, rfl, HX.out, hk, hres.1, HA.out, hres.2.1, by simp [NN], hzl, hres.2.2.1, hn5, hres.2.2.2⟩
  | true =>
    have HN := Lib.hid hN
    clear hN
    go_wp2_with fail
    refine (l2Ok_any m B (some ⟨ga, 0, none⟩) k cap la ca xs za _ (by omega) (by omega) HX.out HL.out hx4 ha4).mono ?_
    rintro e w6 ⟨rfl, hb6⟩
    have b0 := cell_in hb6 b0
    have b1 := cell_in hb6 b1
    have r6 := r4.keep (hb6.block _ r4.lt)
    have hx6 := hx4.below hb6
    have hp6 := hp4.trans hb6
    have hv6 := hv4.below hb6
    have ha6 := ha4.below hb6
    have hr6 := hr4.below hb6
    have hg6 : W.heap.size ≤ w6.heap.size := Nat.le_trans hg4 hb6.size
    clear hx4 hp4 hv4 ha4 hr4 hb6 r4 hg4
    cases hK : walkB xs za with
    | false =>
      clear hK
      have hsz4 := hg6
      have hr4 := hr6
      have hx4 := hx6
      have r4 := r6
      have hp4 := hp6
      have hv4 := hv6
      have hrW := hr4.less (f' := 26) (by omega)
      have hxW := hx4
      have r3 := r4
      clear hr4 hx4 r4
      go_upto_region 6 with (fail)
      go_region_held3 (fun w' => w'.cell? ⟨w2.heap.size, 0, none⟩ = some (.int .i64 m) ∧ w'.cell? ⟨w2.heap.size, 1, none⟩ = some (.slice B k cap))
        (first | go_keep | (simp only [hq0, hq1]; assumption))
        (first
          | (go_at_call 66; refine (l30AnyWalk_any R _ A B n' c' 0 k cap m xs _ hrW.drew hk HX.out hxW.drew hBR).mono ?_; rintro e w5 ⟨v5, zs, rfl, hzl, hv5, hr5, hg5, hn5⟩; have b0 := cell_far hg5 b0 hNR; have b1 := cell_far hg5 b1 hNR; have r5 : RowN w5 w.heap.size 30 2 := RowN.young (w := w6.drew) r3 hg5 (by omega); obtain ⟨y0, e0⟩ := r5.cell (i := 0) (by omega); obtain ⟨y1, e1⟩ := r5.cell (i := 1) (by omega); have z0 := r5.frozen 0; have z1 := r5.frozen 1))
      have hres := drawn_end hp4 hg5 hv4 hv5 hxW hBR hneB hRW hwW hsz4 m B k cap
      clear hv5 hg5 hr5
      go_wp2
      exact bodyPost_ret (v := .tuple #[.agg #[.int .i64 m, .slice B k cap], .slice (some ⟨ga, 0, none⟩) la ca, v5]) (by simp [results, Try.results39, go_sem, e0, e1]) rfl ⟨m, B, k, cap, xs, _, za, v5, zs, rfl, HX.out, hk, hres.1, HA.out, hres.2.1, by simp [NN], hzl, hres.2.2.1, hn5, hres.2.2.2⟩
    | true =>
      have HK := Lib.hid hK
      clear hK
      by_cases hl0 : la = 0
      · subst hl0
        have hsz4 := hg6
        have hr4 := hr6
        have hx4 := hx6
        have r4 := r6
        have hp4 := hp6
        have hv4 := hv6
        have hrW := hr4.less (f' := 26) (by omega)
        have hxW := hx4
        have r3 := r4
        clear hr4 hx4 r4
        go_upto_region 6 with (fail)
        go_region_held3 (fun w' => w'.cell? ⟨w2.heap.size, 0, none⟩ = some (.int .i64 m) ∧ w'.cell? ⟨w2.heap.size, 1, none⟩ = some (.slice B k cap))
          (first | go_keep | (simp only [hq0, hq1]; assumption))
          (first
            | (go_at_call 66; refine (l30AnyWalk_any R _ A B n' c' 0 k cap m xs _ hrW.drew hk HX.out hxW.drew hBR).mono ?_; rintro e w5 ⟨v5, zs, rfl, hzl, hv5, hr5, hg5, hn5⟩; have b0 := cell_far hg5 b0 hNR; have b1 := cell_far hg5 b1 hNR; have r5 : RowN w5 w.heap.size 30 2 := RowN.young (w := w6.drew) r3 hg5 (by omega); obtain ⟨y0, e0⟩ := r5.cell (i := 0) (by omega); obtain ⟨y1, e1⟩ := r5.cell (i := 1) (by omega); have z0 := r5.frozen 0; have z1 := r5.frozen 1))
        have hres := drawn_end hp4 hg5 hv4 hv5 hxW hBR hneB hRW hwW hsz4 m B k cap
        clear hv5 hg5 hr5
        go_wp2
        exact bodyPost_ret (v := .tuple #[.agg #[.int .i64 m, .slice B k cap], .slice (some ⟨ga, 0, none⟩) 0 ca, v5]) (by simp [results, Try.results39, go_sem, e0, e1]) rfl ⟨m, B, k, cap, xs, _, za, v5, zs, rfl, HX.out, hk, hres.1, HA.out, hres.2.1, by simp [NN], hzl, hres.2.2.1, hn5, hres.2.2.2⟩
      · have hl0' : 0 < (la : Int) := by omega
        have hok : okB m xs za = true := by rw [okB, HN.out, HK.out]; rfl
        obtain ⟨q, hq⟩ : ∃ q, q = la - 1 := ⟨_, rfl⟩
        obtain ⟨y, hy⟩ : ∃ a, za[q]? = some a := ⟨_, List.getElem?_eq_getElem (by have := HL.out; omega)⟩
        obtain ⟨p, ⟨f, t, cc, l', d⟩, rfl, hp, _, _, _⟩ := ok_arc hok hy
        have hpk : p < k := by rw [← HX.out]; exact (List.getElem?_eq_some_iff.1 hp).1
        have hw : IntKind.i64.wrap ((la : Int) - 1) = (q : Int) := by rw [IntWalk.i64_in _ (by omega)]; omega
        have i0 : (0 : Int) ≤ (q : Int) := by omega
        have i1 : (q : Int) < (la : Int) := by omega
        have i1' : q < la := by omega
        have hl0n : 0 < la := by omega
        have j0 : (0 : Int) ≤ (p : Int) := by omega
        have j1 : (p : Int) < (k : Int) := by omega
        have HY := Lib.hid hy
        have HP := Lib.hid hp
        clear hok hq hy hp hpk
        go_wp2_with fail
        refine (pickF (f := 26) _ hr6).mono ?_
        rintro e w7 ⟨k7, rfl, k70, k71, hr7, hg7⟩
        have b0 := cell_far hg7 b0 hNR
        have b1 := cell_far hg7 b1 hNR
        have r7 := r6.young hg7 (by omega)
        have hx7 := hx6.grown hg7 (fun b e => by injection e with e; rw [← e]; exact hBR)
        have hp7 : Past w w7 := Below.grown hp6 hg7 hp6.size (fun k e => by injection e with e; omega)
        have hv7 := hv6.young hg7 hRW.2
        have hga := (World.ownsRow.lt hv6 ga rfl).1
        have ha7 := ha6.grown hg7 (fun b e => by injection e with e; simp only [blk, Option.map_some, ne_eq, Option.some.injEq]; omega)
        have hg7s : W.heap.size ≤ w7.heap.size := Nat.le_trans hg6 hg7.size
        clear hx6 hp6 hv6 ha6 hr6 r6 hg6 hg7
        by_cases hk7 : 0 < k7
        · obtain ⟨g1, o1, e1', z9⟩ := ha7 q _ HY.out
          injection e1' with e1'
          injection e1' with e1a e1b _
          subst e1a e1b
          rw [Nat.zero_add] at z9
          obtain ⟨gx, ox, rfl, x0, x1, _, _, _⟩ := hx7 p _ HP.out
          have hsz4 := hg7s
          have hqa : ∀ (u : World) (j : Nat) (x : Value), (u.setCell ⟨w.heap.size, j, none⟩ x).cell? ⟨ga, q, none⟩ = u.cell? ⟨ga, q, none⟩ := fun u j x => World.cell?_setCell_other _ _ _ _ (by intro e; injection e; omega)
          have hqx : ∀ (u : World) (j : Nat) (x : Value), (u.setCell ⟨w.heap.size, j, none⟩ x).cell? ⟨gx, ox + p * 5 + 1, none⟩ = u.cell? ⟨gx, ox + p * 5 + 1, none⟩ := fun u j x => World.cell?_setCell_other _ _ _ _ (by intro e; injection e with e _ _; exact hneB (by simp [blk, e]))
          have hgaR : ga ≠ R := by omega
          have hgxR : gx ≠ R := fun e => hBR (by simp [blk, e])
          clear x0 ha7
          go_upto_region 5 with (fail)
          go_region_held3 (fun w' => w'.cell? ⟨w2.heap.size, 0, none⟩ = some (.int .i64 m) ∧ w'.cell? ⟨w2.heap.size, 1, none⟩ = some (.slice (some ⟨gx, ox, none⟩) k cap) ∧ w'.cell? ⟨ga, q, none⟩ = some (.int .i64 (p : Int)) ∧ w'.cell? ⟨gx, ox + p * 5 + 1, none⟩ = some (.int .i64 t))
            (first | go_keep | (simp only [hq0, hq1, hqa, hqx]; assumption))
            (first
              | (go_at_call 69; refine (l30Walk_any R _ A (some ⟨gx, ox, none⟩) n' c' 0 k cap m t 12 xs _ (hr7.drew.less (by omega)) (by omega) (by omega) hk HX.out hx7.drew hBR).mono ?_; rintro e w5 ⟨v5, zs, rfl, hzl, hv5, hr5, hg5, hn5⟩; have b0 := cell_far hg5 b0 hNR; have b1 := cell_far hg5 b1 hNR; have z9 := cell_far hg5 z9 hgaR; have x1 := cell_far hg5 x1 hgxR; have r5 : RowN w5 w.heap.size 30 2 := RowN.young (w := w7.drew) r7 hg5 (by omega); obtain ⟨y0, e0⟩ := r5.cell (i := 0) (by omega); obtain ⟨y1, e1⟩ := r5.cell (i := 1) (by omega); have z0 := r5.frozen 0; have z1 := r5.frozen 1))
          have hres := drawn_end hp7 hg5 hv7 hv5 hx7 hBR hneB hRW hwW hsz4 m (some ⟨gx, ox, none⟩) k cap
          clear hv5 hg5 hr5
          go_wp2
          exact bodyPost_ret (v := .tuple #[.agg #[.int .i64 m, .slice (some ⟨gx, ox, none⟩) k cap], .slice (some ⟨ga, 0, none⟩) la ca, v5]) (by simp [results, Try.results39, go_sem, e0, e1]) rfl ⟨m, _, k, cap, xs, _, za, v5, zs, rfl, HX.out, hk, hres.1, HA.out, hres.2.1, by simp [NN], Nat.le_trans hzl (by omega), hres.2.2.1, hn5, hres.2.2.2⟩
        · have hsz4 := hg7s
          have hr4 := hr7
          have hx4 := hx7
          have r4 := r7
          have hp4 := hp7
          have hv4 := hv7
          have hrW := hr4.less (f' := 26) (by omega)
          have hxW := hx4
          have r3 := r4
          clear hr4 hx4 r4
          go_upto_region 6 with (fail)
          go_region_held3 (fun w' => w'.cell? ⟨w2.heap.size, 0, none⟩ = some (.int .i64 m) ∧ w'.cell? ⟨w2.heap.size, 1, none⟩ = some (.slice B k cap))
            (first | go_keep | (simp only [hq0, hq1]; assumption))
            (first
              | (go_at_call 66; refine (l30AnyWalk_any R _ A B n' c' 0 k cap m xs _ hrW.drew hk HX.out hxW.drew hBR).mono ?_; rintro e w5 ⟨v5, zs, rfl, hzl, hv5, hr5, hg5, hn5⟩; have b0 := cell_far hg5 b0 hNR; have b1 := cell_far hg5 b1 hNR; have r5 : RowN w5 w.heap.size 30 2 := RowN.young (w := w7.drew) r3 hg5 (by omega); obtain ⟨y0, e0⟩ := r5.cell (i := 0) (by omega); obtain ⟨y1, e1⟩ := r5.cell (i := 1) (by omega); have z0 := r5.frozen 0; have z1 := r5.frozen 1))
          have hres := drawn_end hp4 hg5 hv4 hv5 hxW hBR hneB hRW hwW hsz4 m B k cap
          clear hv5 hg5 hr5
          go_wp2
          exact bodyPost_ret (v := .tuple #[.agg #[.int .i64 m, .slice B k cap], .slice (some ⟨ga, 0, none⟩) la ca, v5]) (by simp [results, Try.results39, go_sem, e0, e1]) rfl ⟨m, B, k, cap, xs, _, za, v5, zs, rfl, HX.out, hk, hres.1, HA.out, hres.2.1, by simp [NN], hzl, hres.2.2.1, hn5, hres.2.2.2⟩

end Go.Proofs.Ytokljfeoignbcaa
