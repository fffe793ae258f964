/-
  Which of a list reaches each node with the least cost: impl.ManyServe. No condition.
-/
import Derived.Test.YtkmognandkamoaaMNearI
import Derived.Test.YtkmognandkamoaaPServe
import Derived.Test.YtkmognandkamoaaBack4
namespace Go.Proofs.Ytkmognandkamoaa
open Go.RowKit

set_option maxRecDepth 100000 in
set_option maxHeartbeats 1000000 in
theorem implManyServe_all (m : Int) (A : Option Addr) (n c : Nat) (xs : List ArcD) (B : Option Addr) (l cb : Nat) (ys : List Int) (w : World) (hn : n ≤ 1048576) (hnx : xs.length = n) (hx : ArcsAt w A xs) (ho : (A = none ∧ n = 0) ∨ ∃ g o, A = some ⟨g, o, none⟩) (hl : l ≤ 1048576) (hly : ys.length = l) (hy : IntsAt w B ys) :
    Calls Try.prog 33 #[.agg #[.int .i64 m, .slice A n c], .slice B l cb] w (Gives w (serveI m xs ys)) := by
  have HX := Lib.hid hnx
  have HY := Lib.hid hly
  have HO := Lib.hid ho
  clear hnx hly ho
  have hb0 : Past w (w.alloc (.cells #[.int .i64 m, .slice A n c] 29)) := (Past.refl _).alloc _
  go_enter Try.func33, Try.ntmps33
  go_wp2_with fail
  refine (listOk_any m A n c xs B l cb ys _ hn HX.out (hx.below hb0) hl HY.out (hy.below hb0)).mono ?_
  rintro e w1 ⟨rfl, hb1⟩
  have b0 := cell_in (p := ⟨w.heap.size, 0, none⟩) (v := .int .i64 m) hb1 (by go_simp)
  have b1 := cell_in (p := ⟨w.heap.size, 1, none⟩) (v := .slice A n c) hb1 (by go_simp)
  have hp1 := hb0.trans hb1
  have hx1 := hx.below hp1
  have hy1 := hy.below hp1
  clear hb0 hb1 hx hy
  cases hC : listB m xs ys with
  | false =>
    have HC := Lib.hid hC
    clear hC
    go_wp2
    go_ret
    exact ⟨_, rfl, by rw [serveI, HC.out]; exact Res.nil _ _, hp1⟩
  | true =>
    obtain ⟨hN, hl8, hin⟩ := (listB_iff _ _ _).1 hC
    obtain ⟨M, rfl, h1, h8⟩ := here_nat hN
    have HC := Lib.hid hC
    have HN := Lib.hid hN
    clear hC hin hN
    go_wp2_with fail
    refine (implNetBack_all (M : Int) A n c xs _ hn HX.out hx1 HO.out).mono ?_
    rintro e w2 ⟨A2, c2, rfl, hx2, _, hb2⟩
    have hN2 : backN (M : Int) xs = (M : Int) := by rw [backN, HN.out, if_pos rfl]
    have hL2 : backL (M : Int) xs = xs.map flip := by rw [backL, HN.out, if_pos rfl]
    have hn2 : (xs.map flip).length = n := by rw [List.length_map, HX.out]
    rw [hL2] at hx2 ⊢
    rw [hN2, hn2]
    have HN2 := Lib.hid hn2
    have b0 := cell_in hb2 b0
    have hp2 := hp1.trans hb2
    have hy2 := hy1.below hb2
    clear hN2 hL2 hn2 hb2 hp1 hx1 hy1 b1
    obtain ⟨w3, hw3⟩ : ∃ w3, w3 = w2.alloc (.cells #[.int .i64 (M : Int), .slice A2 n c2] 29) := ⟨_, rfl⟩
    have hb3 : Past w2 w3 := by rw [hw3]; exact (Past.refl _).alloc _
    have hsz : w3.heap.size = w2.heap.size + 1 := by rw [hw3]; simp
    have HS := Lib.hid hsz
    have p0 : w3.cell? ⟨w2.heap.size, 0, none⟩ = some (.int .i64 (M : Int)) := by rw [hw3]; go_simp
    have p1 : w3.cell? ⟨w2.heap.size, 1, none⟩ = some (.slice A2 n c2) := by rw [hw3]; go_simp
    have HW := Lib.hid hw3
    have hx3 := hx2.below hb3
    have hy3 := hy2.below hb3
    have hp3 := hp2.trans hb3
    have hs2 := hp2.size
    have hmk := makeInt M (by omega)
    obtain ⟨cs, hcs⟩ : ∃ cs, cs = serveTo M xs ys M := ⟨_, rfl⟩
    have hlc : cs.length = M := by rw [hcs, serveTo_length]
    have HCC := Lib.hid hcs
    have HLC := Lib.hid hlc
    have b0o : ∀ o, (w2.alloc o).cell? ⟨w.heap.size, 0, none⟩ = some (.int .i64 (M : Int)) := fun o => cell_in ((Past.refl _).alloc o) b0
    clear hw3 hsz hcs hlc hb3 hp2 hx2 hy2
    go_wp2
    rw [← HW.out]
    clear HW
    clear b0o
    go_loopw [19] (fun i wr => ∃ k : Nat, k ≤ M ∧ i = .int .i64 k ∧ Past w3 wr ∧ MadeI wr (w2.heap.size + 1) 3 M cs k) (fun i _ => M - (intOf i).toNat)
    case atStart => exact ⟨0, by omega, rfl, (Past.refl w3).alloc _, by have := MadeI.start w3 3 M cs (madeCells #[.int .i64 0] M) (by simp [size_madeCells]); rw [HS.out] at this; exact this⟩
    case round =>
      obtain ⟨k, hk, rfl, hb, hm⟩ := hrel
      by_cases hlt : k < M
      · have p0 := cell_in hb p0
        have p1 := cell_in hb p1
        have HA : Hid (cs[k]? = some (manyW (M : Int) (xs.map flip) (k : Int) ys)) := by rw [Hid, HCC.out, serveTo_at _ _ _ _ _ hlt, many_back HC.out hlt]
        have i0 : (0 : Int) ≤ (k : Int) := by omega
        have i1 : (k : Int) < (M : Int) := by omega
        go_wp2_with fail
        refine (implManyNear_any (M : Int) A2 n c2 (xs.map flip) (k : Int) B l cb ys _ hn HN2.out (hx3.below hb) hl HY.out (hy3.below hb)).mono ?_
        rintro e w4 ⟨rfl, hb4⟩
        have hm := hm.below hb4
        have hb := hb.trans hb4
        clear hb4 p0 p1
        obtain ⟨z, hz⟩ : ∃ z, z = manyW (M : Int) (xs.map flip) (k : Int) ys := ⟨_, rfl⟩
        rw [← hz] at HA ⊢
        clear hz
        obtain ⟨v0, e0⟩ := hm.1.cell (i := k) hlt
        have z0 := hm.1.frozen k
        have hnx := hm.next HA.out hlt
        go_wp2
        go_roundw
        case rel => exact ⟨k + 1, by omega, by go_num, Below.setCell hb (p := ⟨w2.heap.size + 1, k, none⟩) (by rw [HS.out]; simp) _, hnx⟩
        case measure => simp [intOf]; omega
      · obtain rfl : M = k := by omega
        go_wp2
        go_ret
        exact ⟨_, rfl, by rw [serveI, HC.out, if_pos rfl, Int.toNat_natCast, ← HCC.out]; exact (hm.row HLC.out).res HLC.out (by omega) (by omega), hp3.trans hb⟩

theorem implManyServe_any (m : Int) (g : Nat) (n c : Nat) (xs : List ArcD) (B : Option Addr) (l cb : Nat) (ys : List Int) (w : World) (hn : n ≤ 1048576) (hnx : xs.length = n) (hx : ArcsAt w (some ⟨g, 0, none⟩) xs) (hl : l ≤ 1048576) (hly : ys.length = l) (hy : IntsAt w B ys) :
    Calls Try.prog 33 #[.agg #[.int .i64 m, .slice (some ⟨g, 0, none⟩) n c], .slice B l cb] w (Gives w (serveI m xs ys)) :=
  implManyServe_all m _ n c xs B l cb ys w hn hnx hx (.inr ⟨g, 0, rfl⟩) hl hly hy

end Go.Proofs.Ytkmognandkamoaa
