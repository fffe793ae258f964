/-
  The tree of first arcs, as the specification goes: spec.NearTree. No condition.
-/
import Derived.Test.YtokljfeoignbcaaWalkT
import Derived.Test.YtokljfeoignbcaaNTree
namespace Go.Proofs.Ytokljfeoignbcaa
open Go.RowKit

theorem take_snoc {α : Type} {l : List α} {k : Nat} {x : α} (h : l[k]? = some x) : l.take (k + 1) = l.take k ++ [x] := by rw [List.take_add_one, h]; rfl

set_option maxRecDepth 100000 in
set_option maxHeartbeats 2000000 in
theorem specNearTree_any (m : Int) (A : Option Addr) (n c : Nat) (xs : List ArcD) (s : Int) (w : World) (hn : n ≤ 1048576) (hnx : xs.length = n) (hx : ArcsAt w A xs) :
    Calls Try.prog 28 #[.agg #[.int .i64 m, .slice A n c], .int .i64 s] w (Gives w (treeTI m xs s)) := by
  have HX := Lib.hid hnx
  clear hnx
  obtain ⟨i0, hi, hz0, hz1, hz2⟩ := info_parts infoInt
  have hb0 : Past w (w.alloc (.cells #[.int .i64 m, .slice A n c] 30)) := (Past.refl _).alloc _
  go_enter Try.func28, Try.ntmps28
  go_wp2_with fail
  refine (l1Ok_any m A n c xs _ hn HX.out (hx.below hb0)).mono ?_
  rintro e W ⟨rfl, hb1⟩
  have b0 := cell_in (p := ⟨w.heap.size, 0, none⟩) (v := .int .i64 m) hb1 (by go_simp)
  have b1 := cell_in (p := ⟨w.heap.size, 1, none⟩) (v := .slice A n c) hb1 (by go_simp)
  have hxW := (hx.below hb0).below hb1
  have hpW := hb0.trans hb1
  clear hb0 hb1
  cases hB : netB m xs with
  | false =>
    have HB := Lib.hid hB
    clear hB
    go_wp2
    go_ret
    exact ⟨_, rfl, by rw [treeTI, hereB, HB.out]; exact Res.nil _ _, hpW⟩
  | true =>
    obtain ⟨M, rfl, h1, h8⟩ := here_nat hB
    have h16 : n ≤ 16 := by rw [← HX.out]; exact ((netB_iff _ _).1 hB).2.1
    have HB := Lib.hid hB
    clear hB
    go_wp2_with fail
    refine (l1In_any _ _ _ _).mono ?_
    rintro e w2 ⟨rfl, rfl⟩
    cases hI : inB s 0 ((M : Int) - 1) with
    | false =>
      have HI := Lib.hid hI
      clear hI
      go_wp2
      go_ret
      exact ⟨_, rfl, by rw [treeTI, hereB, HB.out, HI.out]; exact Res.nil _ _, hpW⟩
    | true =>
      have hs := (inB_iff _ _ _).1 hI
      have hsb : 0 ≤ s ∧ s < (M : Int) := by omega
      have HI := Lib.hid hI
      have HT := Lib.hid (treeL_of (arcsIn_net HB.out) hsb h8)
      clear hI hs
      have hres2 : Res (W.alloc (.cells #[] 3)) W.heap.size (.slice (some ⟨W.heap.size, 0, none⟩) 0 0) [] :=
        ⟨rfl, .inr ⟨W.heap.size, 0, #[], rfl, Nat.le_refl _, heap_alloc_new W _, Nat.le_refl _, by unfold maxLen; omega, rfl, rfl⟩⟩
      have hpa : Past W (W.alloc (.cells #[] 3)) := (Past.refl W).alloc _
      go_wp2
      go_loopw [5, 6] (fun v i wr => ∃ k : Nat, k ≤ M ∧ i = .int .i64 k ∧ Res wr W.heap.size v ((treeM M xs s).take k) ∧ Past W wr) (fun _ i _ => M - (intOf i).toNat)
      case atStart => exact ⟨0, by omega, rfl, hres2, hpa⟩
      case round =>
        obtain ⟨k, hk, rfl, hv, hbr⟩ := hrel
        clear hres2 hpa
        have b0' := cell_in hbr b0
        have b1' := cell_in hbr b1
        by_cases hlt : k < M
        · have k0 : (0 : Int) ≤ (k : Int) := by omega
          have k1 : (k : Int) < (M : Int) := by omega
          have hsn := take_snoc (treeM_get M xs s hlt)
          have hhd := HT.out.head (k : Int) k0 k1
          have hwm : wayM M xs (k : Int) s = if lab (labsOf M xs s) (k : Int) = farL then [] else wayL xs (labsOf M xs s) s (k : Int) := by
            unfold wayM farB
            by_cases e : lab (labsOf M xs s) (k : Int) = farL <;> simp [e]
          rw [← hwm] at hhd
          have HSN := Lib.hid hsn
          have HHD := Lib.hid hhd
          clear hsn hhd hwm
          go_wp2_with fail
          refine (l3Walk_any M (k : Int) s A n c xs _ h8 h1 HX.out h16 (hxW.below hbr) (arcsIn_net HB.out) ⟨k0, k1⟩ hsb).mono ?_
          rintro e w6 ⟨v6, rfl, hv6, hb6⟩
          have hv7 := hv.below hb6
          have hp6 := hbr.trans hb6
          have hsz : W.heap.size ≤ w6.heap.size := hp6.size
          obtain ⟨Z, cz, rfl, hz6, _⟩ := hv6.form
          obtain ⟨zs, hzs⟩ : ∃ zs, zs = wayM M xs (k : Int) s := ⟨_, rfl⟩
          rw [← hzs] at hz6 HHD ⊢
          obtain ⟨D, hD⟩ : ∃ D, D = ((treeM M xs s).take k).length := ⟨_, rfl⟩
          have hDk : D ≤ 8 := by rw [hD, List.length_take]; omega
          unfold Res at hv7
          rw [← hD] at hv7
          have HDD := Lib.hid hD
          clear hv6 hzs hD
          cases zs with
          | nil =>
            have ht : treeI xs (labsOf M xs s) (k : Int) = -1 := HHD.out
            have HTT := Lib.hid ht
            have hvA := hv7.alloc (.cells #[.int .i64 (-1)] 3)
            clear ht HHD
            simp only [List.length_nil]
            go_wp2_with (first | (at_builtin; refine wpList_append_own _ rfl _ _ 26 rfl W.heap.size 3 i0 (.int .i64 0) 1 8 Try.underlying26 hi hz0 hz1 hz2 rfl (by decide) _ _ _ rfl hvA ⟨w6.heap.size, 0, none⟩ 1 1 [.int .i64 (-1)] rfl rfl (cell_one_new _ _ _) (one_cell _) (by unfold maxLen; omega) (by omega) (by simp; omega) ?_; intro v' w3 hown' hgrow3 hnil3))
            go_roundw
            case rel => exact ⟨k + 1, by omega, by go_num, by rw [HSN.out, HTT.out]; exact Res.push (by rw [← HDD.out]; exact hown'), Past.grown (hp6.alloc _) hvA hgrow3 (Nat.le_refl _)⟩
            case measure => simp [intOf]; omega
          | cons z rest =>
            have ht : treeI xs (labsOf M xs s) (k : Int) = z := HHD.out
            have HTT := Lib.hid ht
            have hvA := hv7.alloc (.cells #[.int .i64 z] 3)
            obtain ⟨gz, oz, rfl, cz0⟩ := hz6 0 z rfl
            rw [Nat.add_zero] at cz0
            obtain ⟨Q, hQ⟩ : ∃ Q, Q = rest.length := ⟨_, rfl⟩
            have q0 : (0 : Int) < (Q : Int) + 1 := by omega
            have q0' : 0 < Q + 1 := by omega
            simp only [List.length_cons, ← hQ]
            clear ht HHD hQ
            go_wp2_with (first | (at_builtin; refine wpList_append_own _ rfl _ _ 26 rfl W.heap.size 3 i0 (.int .i64 0) 1 8 Try.underlying26 hi hz0 hz1 hz2 rfl (by decide) _ _ _ rfl hvA ⟨w6.heap.size, 0, none⟩ 1 1 [.int .i64 z] rfl rfl (cell_one_new _ _ _) (one_cell _) (by unfold maxLen; omega) (by omega) (by simp; omega) ?_; intro v' w3 hown' hgrow3 hnil3))
            go_roundw
            case rel => exact ⟨k + 1, by omega, by go_num, by rw [HSN.out, HTT.out]; exact Res.push (by rw [← HDD.out]; exact hown'), Past.grown (hp6.alloc _) hvA hgrow3 (Nat.le_refl _)⟩
            case measure => simp [intOf]; omega
        · obtain rfl : M = k := by omega
          have hfull : (treeM M xs s).take M = treeM M xs s := List.take_of_length_le (by rw [treeM_length]; exact Nat.le_refl _)
          rw [hfull] at hv
          clear hfull
          go_wp2
          go_ret
          exact ⟨_, rfl, by rw [treeTI, hereB, HB.out, HI.out]; exact hv.lower hpW.size, hpW.trans hbr⟩

end Go.Proofs.Ytokljfeoignbcaa
