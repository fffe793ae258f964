/-
  The arcs over which so much may go, as the program goes: impl.strongArcs, impl.LoadNet. No condition.
-/
import Derived.Maps.AppendAt
import Derived.Test.YtaojognjkiifmaaSLoad
import Derived.Test.YtaojognjkiifmaaRInS
namespace Go.Proofs.Ytaojognjkiifmaa
open Go.RowKit

theorem IntsAt.farS {w : World} {A : Option Addr} {zs : List Int} (h : IntsAt w A zs) (p : Addr) (u : Value) (hne : blk A ≠ some p.block) : IntsAt (w.setCell p u) A zs := fun k a hk => by
  obtain ⟨g, o, rfl, h5⟩ := h k a hk
  exact ⟨g, o, rfl, (World.cell?_setCell_other _ _ _ _ (by intro e; apply hne; rw [e]; rfl)).trans h5⟩
theorem pickA_len (xs : List ArcD) : ∀ ys : List Int, (pickA xs ys).length ≤ ys.length
  | [] => by simp [pickA]
  | y :: ys => by
    have ih := pickA_len xs ys
    unfold pickA at ih ⊢
    rw [List.flatMap_cons, List.length_append, List.length_cons]
    split
    · rw [List.length_singleton]; omega
    · rw [List.length_nil]; omega
theorem strongL_len (xs : List ArcD) (load : Int) : (strongL xs load).length ≤ xs.length := numsTo_len xs load _

set_option maxRecDepth 100000 in
set_option maxHeartbeats 2000000 in
theorem strongArcs_any (m : Int) (A : Option Addr) (n c : Nat) (xs : List ArcD) (load : Int) (w : World) (hn : n ≤ 1048576) (hnx : xs.length = n) (hx : ArcsAt w A xs) :
    Calls Try.prog 88 #[.agg #[.int .i64 m, .slice A n c], .int .i64 load] w (Gives w (strongL xs load)) := by
  have HX := Lib.hid hnx
  clear hnx
  obtain ⟨i0, hi, hz0, hz1, hz2⟩ := info_parts infoInt
  have hb0 : Past w (w.alloc (.cells #[.int .i64 m, .slice A n c] 32)) := (Past.refl _).alloc _
  go_enter Try.func88, Try.ntmps88
  go_wp2
  go_loopw [5, 11] (fun v i wr => ∃ k : Nat, k ≤ n ∧ i = .int .i64 k ∧ Res wr (w.heap.size + 1) v (numsTo xs load k) ∧ Past (w.alloc (.cells #[.int .i64 m, .slice A n c] 32)) wr) (fun _ i _ => n - (intOf i).toNat)
  case atStart => exact ⟨0, by omega, rfl, Res.nil _ _, Past.refl _⟩
  case round =>
    obtain ⟨k, hk, rfl, hv, hb⟩ := hrel
    have b0 := cell_in (p := ⟨w.heap.size, 0, none⟩) (v := .int .i64 m) hb (by go_simp)
    have b1 := cell_in (p := ⟨w.heap.size, 1, none⟩) (v := .slice A n c) hb (by go_simp)
    have hz0' : w.heap.size < wr.heap.size := hb.lt
    by_cases hlt : k < n
    · obtain ⟨⟨f, t, c', l, d⟩, ha⟩ : ∃ a, xs[k]? = some a := ⟨_, List.getElem?_eq_getElem (by have := HX.out; omega)⟩
      obtain ⟨g, o, rfl, c0, c1, c2, c3, c4⟩ := ((hx.below hb0).below hb) k _ ha
      simp only at c0 c1 c2 c3 c4
      have k0 : (0 : Int) ≤ (k : Int) := by omega
      have k1 : (k : Int) < (n : Int) := by omega
      by_cases hd : load ≤ d
      rotate_left
      · have HF := Lib.hid (numsTo_miss ha hd)
        clear ha
        go_wp2
        go_roundw
        case rel => exact ⟨k + 1, by omega, by go_num, by rw [HF.out]; exact hv.below ((Past.refl wr).alloc _), hb.alloc _⟩
        case measure => simp [intOf]; omega
      have HF := Lib.hid (numsTo_hit ha hd)
      have hlen := numsTo_len xs load k
      obtain ⟨N, hN⟩ : ∃ N, N = (numsTo xs load k).length := ⟨_, rfl⟩
      unfold Res at hv
      rw [← hN] at hv hlen
      have HN := Lib.hid hN
      clear ha hN
      go_wp2_with (first | (at_builtin; refine wpList_append_own_at _ rfl _ _ 28 rfl (w.heap.size + 1) 3 i0 (.int .i64 0) 1 8 Try.underlying28 hi hz0 hz1 hz2 rfl (by decide) _ _ _ rfl ((hv.alloc _).alloc _) ⟨wr.heap.size + 1, 0, none⟩ 1 1 [.int .i64 (k : Int)] rfl rfl (by simpa using cell_one_new (wr.alloc (.cells #[.int .i64 f, .int .i64 t, .int .i64 c', .int .i64 l, .int .i64 d] 52)) _ _) (one_cell _) (by unfold maxLen; omega) (by omega) (by simp; omega) ?_; intro v' w4 hown' hgrow4 hnil4 hat4))
      go_roundw
      case rel => exact ⟨k + 1, by omega, by go_num, by rw [HF.out]; exact Res.push (by rw [← HN.out]; exact hown'), Past.grown ((hb.alloc _).alloc _) ((hv.alloc _).alloc _) hgrow4 (by simp)⟩
      case measure => simp [intOf]; omega
    · obtain rfl : k = n := by omega
      go_wp2
      go_ret
      exact ⟨_, rfl, by rw [strongL, HX.out]; exact hv.lower (by omega), hb0.trans hb⟩

set_option maxRecDepth 100000 in
set_option maxHeartbeats 2000000 in
theorem implLoadNet_any (m : Int) (A : Option Addr) (n c : Nat) (xs : List ArcD) (load : Int) (w : World) (hn : n ≤ 1048576) (hnx : xs.length = n) (hx : ArcsAt w A xs) :
    Calls Try.prog 44 #[.agg #[.int .i64 m, .slice A n c], .int .i64 load] w (GivesNet w (lnetN m xs load) (lnetL m xs load)) := by
  have HX := Lib.hid hnx
  clear hnx
  obtain ⟨i0, hi, hz0, hz1, hz2⟩ := info_parts infoArc
  have hb0 : Past w ((w.alloc (.cells #[.int .i64 m, .slice A n c] 32)).alloc (.cells #[.int .i64 0, .slice none 0 0] 32)) := ((Past.refl _).alloc _).alloc _
  go_enter Try.func44, Try.ntmps44
  go_wp2_with fail
  refine (implNetOk_any m A n c xs _ hn HX.out (hx.below hb0)).mono ?_
  rintro e w1 ⟨rfl, hb1⟩
  have b0 := cell_in (p := ⟨w.heap.size, 0, none⟩) (v := .int .i64 m) hb1 (by go_simp)
  have b1 := cell_in (p := ⟨w.heap.size, 1, none⟩) (v := .slice A n c) hb1 (by go_simp)
  have e0 := cell_in (p := ⟨w.heap.size + 1, 0, none⟩) (v := .int .i64 0) hb1 (by go_simp)
  have e1 := cell_in (p := ⟨w.heap.size + 1, 1, none⟩) (v := .slice none 0 0) hb1 (by go_simp)
  have z0 := free_in (p := ⟨w.heap.size + 1, 0, none⟩) (v := .int .i64 0) hb1 (by go_simp) (by go_simp)
  have z1 := free_in (p := ⟨w.heap.size + 1, 1, none⟩) (v := .slice none 0 0) hb1 (by go_simp) (by go_simp)
  have hrc : RowN w1 (w.heap.size + 1) 32 2 := by
    refine RowN.keep (w := ((w.alloc (.cells #[.int .i64 m, .slice A n c] 32)).alloc (.cells #[.int .i64 0, .slice none 0 0] 32))) ⟨#[.int .i64 0, .slice none 0 0], ?_, rfl⟩ (hb1.block _ (by simp))
    have := heap_alloc_new (w.alloc (.cells #[.int .i64 m, .slice A n c] 32)) (.cells #[.int .i64 0, .slice none 0 0] 32)
    simpa using this
  have hx1 := (hx.below hb0).below hb1
  have hp1 := hb0.trans hb1
  clear hb0 hb1
  cases hB : netB m xs with
  | false =>
    have HV : Hid (lnetB m xs load = false) := by rw [Hid, lnetB, hB]; rfl
    clear hB
    go_wp2
    exact bodyPost_ret (v := .agg #[.int .i64 0, .slice none 0 0]) (by simp [results, Try.results44, go_sem, e0, e1]) rfl (givesNet_no HV.out rfl (Below.setCell (Below.setCell hp1 (by simp) _) (by simp) _))
  | true =>
  have HB := Lib.hid hB
  clear hB
  go_wp2_with fail
  refine (within_any _ _ _).mono ?_
  rintro e w2 ⟨rfl, rfl⟩
  cases hI : inB load 0 9 with
  | false =>
    have HV : Hid (lnetB m xs load = false) := by rw [Hid, lnetB, HB.out, hI]; rfl
    clear hI
    go_wp2
    exact bodyPost_ret (v := .agg #[.int .i64 0, .slice none 0 0]) (by simp [results, Try.results44, go_sem, e0, e1]) rfl (givesNet_no HV.out rfl (Below.setCell (Below.setCell hp1 (by simp) _) (by simp) _))
  | true =>
  have HV : Hid (lnetB m xs load = true) := by rw [Hid, lnetB, HB.out, hI]; rfl
  clear hI
  have sw : w.heap.size + 1 < w1.heap.size := lt_of_cell e0
  have hst0 := NSt.start w1 m
  have hbS : Past w1 (w1.alloc (.cells #[.int .i64 m, .slice none 0 0] 32)) := (Past.refl w1).alloc _
  have b0' := fun (o : Obj) => cell_in ((Past.refl w1).alloc o) b0
  have b1' := fun (o : Obj) => cell_in ((Past.refl w1).alloc o) b1
  go_wp2_with fail
  refine (strongArcs_any m A n c xs load _ hn HX.out (hx1.below hbS)).mono ?_
  rintro e w2 ⟨v2, rfl, hv2, hb2⟩
  obtain ⟨D, cd, rfl, hd2, hoD⟩ := hv2.form
  have hDlt : ∀ b, blk D = some b → w1.heap.size < b ∧ b < w2.heap.size := fun b e => by
    rcases hoD with ⟨rfl, _⟩ | ⟨g', sz, rfl, hl, hr, _⟩
    · cases e
    · injection e with e; simp only at e; have := hr.lt; simp only [World.size_alloc] at hl; omega
  have hst2 := (hst0 (w2.heap.size + 1)).later hb2
  obtain ⟨ys, hys⟩ : ∃ ys, ys = strongL xs load := ⟨_, rfl⟩
  have hypk : pickA xs ys = forL xs load := by rw [hys, strong_pick]
  have hyb : ∀ (j : Nat) (y : Int), ys[j]? = some y → ∃ (Y : Nat) (a : ArcD), y = Y ∧ xs[Y]? = some a := fun j y hy => by
    obtain ⟨h0, _, a, ha, _⟩ := numsTo_bd (xs := xs) (load := load) xs.length (Nat.le_refl _) y (by rw [← strongL, ← hys]; exact List.mem_of_getElem? hy)
    exact ⟨y.toNat, a, by omega, ha⟩
  have hyl : ys.length ≤ 16 := by rw [hys]; exact Nat.le_trans (strongL_len _ _) ((netB_iff _ _).1 HB.out).2.1
  rw [← hys] at hd2 ⊢
  obtain ⟨N, hN⟩ : ∃ N, N = ys.length := ⟨_, rfl⟩
  rw [← hN] at hyl ⊢
  have HN := Lib.hid hN
  have HYP := Lib.hid hypk
  have HYB := Lib.hid hyb
  have HDL := Lib.hid hDlt
  have hz2' : w1.heap.size < w2.heap.size := hst2.row.lt
  clear hN hypk hyb hys hv2 hoD hb2 hDlt hbS hst0 b0' b1'
  go_wp2
  go_loopw [24] (fun q wr => ∃ (j : Nat) (v : Value), j ≤ N ∧ q = .int .i64 j ∧ NSt w1.heap.size (w2.heap.size + 1) w1 wr m v (pickA xs (ys.take j)) ∧ IntsAt wr D ys ∧ w2.heap.size ≤ wr.heap.size) (fun q _ => N - (intOf q).toNat)
  case atStart => exact ⟨0, _, Nat.zero_le _, rfl, by simpa [pickA] using hst2, hd2, Nat.le_refl _⟩
  case round =>
    obtain ⟨j, v, hj, rfl, hS, hd, hz⟩ := hrel
    have b0 := cell_in hS.past b0
    have b1 := cell_in hS.past b1
    have hxr := hx1.below hS.past
    have hXr := hS.row.lt
    by_cases hlt : j < N
    · obtain ⟨y, hy⟩ : ∃ y, ys[j]? = some y := ⟨_, List.getElem?_eq_getElem (by have := HN.out; omega)⟩
      obtain ⟨Y, a, rfl, ha⟩ := HYB.out j y hy
      obtain ⟨f, t, c', l, d⟩ := a
      obtain ⟨g, o, rfl, c0, c1, c2, c3, c4⟩ := hxr Y _ ha
      obtain ⟨gd, od, rfl, cd0⟩ := hd j _ hy
      simp only at c0 c1 c2 c3 c4
      have hYn : Y < n := by have := (List.getElem?_eq_some_iff.1 ha).1; have := HX.out; omega
      have hgd := HDL.out gd rfl
      have j0 : (0 : Int) ≤ (j : Int) := by omega
      have j1 : (j : Int) < (N : Int) := by omega
      have y0 : (0 : Int) ≤ (Y : Int) := by omega
      have y1 : (Y : Int) < (n : Int) := by omega
      have HF : Hid (pickA xs (ys.take (j + 1)) = pickA xs (ys.take j) ++ [⟨f, t, c', l, d⟩]) := by
        rw [Hid, List.take_add_one, hy, Option.toList_some]
        exact pickA_snoc (by simpa using ha)
      have hlen : (pickA xs (ys.take j)).length ≤ 16 := Nat.le_trans (pickA_len _ _) (by rw [List.length_take, ← HN.out]; omega)
      obtain ⟨L, hLL⟩ : ∃ L, L = pickA xs (ys.take j) := ⟨_, rfl⟩
      rw [← hLL] at hS hlen HF
      obtain ⟨K, hK⟩ : ∃ K, K = L.length := ⟨_, rfl⟩
      have hv : wr.ownsRow (w2.heap.size + 1) 52 5 v K (cellsOf L) := by rw [hK]; exact hS.own
      have o1 := hS.o1
      rw [← hK] at hlen
      have HK := Lib.hid hK
      have HS := Lib.hid hS
      have HD := Lib.hid hd
      have hnews : ∀ j u, ([.int .i64 f, .int .i64 t, .int .i64 c', .int .i64 l, .int .i64 d] : List Value)[j]? = some u → (wr.drew.alloc (.cells #[.int .i64 f, .int .i64 t, .int .i64 c', .int .i64 l, .int .i64 d] 52)).cell? ((⟨wr.heap.size, 0, none⟩ : Addr).add j) = some u := five_new wr.drew _ _ _ _ _ _
      have hownA : (wr.drew.alloc (.cells #[.int .i64 f, .int .i64 t, .int .i64 c', .int .i64 l, .int .i64 d] 52)).ownsRow (w2.heap.size + 1) 52 5 v K (cellsOf L) := World.ownsRow.alloc (w := wr.drew) hv _
      have o1A : (wr.alloc (.cells #[.int .i64 f, .int .i64 t, .int .i64 c', .int .i64 l, .int .i64 d] 52)).cell? ⟨w1.heap.size, 1, none⟩ = some v := cell_in (W := wr) ((Past.refl wr).alloc _) o1
      have HNW := Lib.hid hnews
      have HOA := Lib.hid hownA
      clear ha hy hYn hK hLL hS hv hnews hownA hd
      go_wp2_with fail
      go_region_law
        ((refine step_append_any (by rfl) _ _ _ (by rfl) (w2.heap.size + 1) 52 i0 _ 5 40 Try.underlying30 hi hz0 hz1 hz2 rfl (by omega) v K (cellsOf L) (by rfl) HOA.out ⟨wr.heap.size, 0, none⟩ 1 1 (by rfl) [.int .i64 f, .int .i64 t, .int .i64 c', .int .i64 l, .int .i64 d] rfl HNW.out (cellsOf_one [⟨f, t, c', l, d⟩]) (by unfold maxLen; omega) (by omega) (by simp; omega) ?_; intro v1 w9 hown1 hgrow1 hat1; obtain ⟨gv, cv, rfl, hgv, hgw⟩ := World.ownsRow.form hown1 (by omega); obtain ⟨⟨u9, x9⟩, z9, hS9⟩ := HS.out.put (a := ⟨f, t, c', l, d⟩) (Nat.le_refl _) (by omega) (((Past.refl wr).drew).alloc _) hgrow1 hown1 (by rw [HK.out]) rfl; have hd9 : IntsAt w9 (some ⟨gd, od, none⟩) ys := (HD.out.below (((Past.refl wr).drew).alloc _)).grown hgrow1 (fun b e e' => by have := HDL.out b e'; have := (HOA.out.lt b e).1; omega); have hz9 : wr.heap.size + 1 ≤ w9.heap.size := by have := hgrow1.size; simpa using this))
      all_goals go_wp2
      all_goals go_roundw
      all_goals first | (case rel => exact ⟨j + 1, _, by omega, by go_num, by rw [HF.out]; exact hS9, hd9.farS _ _ (by simp [blk]; omega), by simp; omega⟩) | (case measure => simp [intOf]; omega)
    · obtain rfl : N = j := by omega
      rw [List.take_of_length_le (by rw [← HN.out]; exact Nat.le_refl _), HYP.out] at hS
      obtain ⟨A', c', rfl, hx', ho'⟩ := hS.res.form
      have o0 := hS.o0
      have o1 := hS.o1
      have r1 : RowN wr (w.heap.size + 1) 32 2 := hrc.keep (hS.past.block _ sw)
      obtain ⟨q0, e0⟩ := r1.cell (i := 0) (by omega)
      obtain ⟨q1, e1⟩ := r1.cell (i := 1) (by omega)
      have z0 := r1.frozen 0
      have z1 := r1.frozen 1
      have hne : blk A' ≠ some (w.heap.size + 1) := ho'.ne_blk (by omega)
      have hpr := hp1.trans hS.past
      obtain ⟨h1, h2⟩ := lnet_yes HV.out
      have H1 := Lib.hid h1
      have H2 := Lib.hid h2
      obtain ⟨L, hLL⟩ : ∃ L, L = forL xs load := ⟨_, rfl⟩
      rw [← hLL] at hx' ho' o1
      have HLL := Lib.hid hLL
      obtain ⟨K, hK⟩ : ∃ K, K = L.length := ⟨_, rfl⟩
      rw [← hK] at ho' o1
      have HK := Lib.hid hK
      clear hK hLL hS h1 h2
      go_wp2
      exact bodyPost_ret (v := .agg #[.int .i64 m, .slice A' K c']) (by simp [results, Try.results44, go_sem, e0, e1]) rfl
        ⟨A', c', by rw [H1.out, H2.out, ← HLL.out, ← HK.out], by rw [H2.out, ← HLL.out]; exact (hx'.far _ _ hne).far _ _ hne, by rw [H2.out, ← HLL.out, ← HK.out]; exact ((ho'.lower (by have := hp1.size; omega)).far _ _).far _ _, Below.setCell (Below.setCell hpr (by simp) _) (by simp) _⟩
theorem lnetL_lenM (m : Int) (xs : List ArcD) (load : Int) : (lnetL m xs load).length ≤ 1048576 := Nat.le_trans (lnetL_len m xs load) (by omega)

end Go.Proofs.Ytaojognjkiifmaa
