/-
  Steps in order without those of no use, as the specification goes: spec.l5Tidy.
-/
import Derived.Test.YthopenknfadciaaTidy
namespace Go.Proofs.Ythopenknfadciaa
open Go.Shelf Go.RowKit Go.Lib Go.Sort

theorem dropLast_last {α : Type} {l : List α} {x : α} (h : l.getLast? = some x) : l = l.dropLast ++ [x] := by
  have hne : l ≠ [] := fun e => by rw [e] at h; cases h
  have h2 := List.getLast?_eq_some_getLast hne
  rw [h] at h2
  injection h2 with h2
  rw [h2]
  exact (List.dropLast_concat_getLast hne).symm

theorem bestOf_take {xs : List StepD} {k : Nat} {s : StepD} (h : xs[k]? = some s) (a : Int) : bestOf (xs.take (k + 1)) a = bestStep a (bestOf (xs.take k) a) s := by rw [take_next h, bestOf_snoc]

theorem tidyTo_len (xs : List StepD) : ∀ a, (tidyTo xs a).length ≤ a
  | 0 => Nat.le_refl _
  | a + 1 => by
    have := tidyTo_len xs a
    unfold tidyTo
    split
    · omega
    · split
      · simp; omega
      · simp; omega

/-- The last step goes at another time. -/
theorem steps_last {w : World} {g t sz : Nat} {zs : List StepD} {D : Nat} {y z : Int} {x : StepD} (hr : RowN w g t sz) (hx : StepsAt w (some ⟨g, 0, none⟩) (zs ++ [x])) (hD : zs.length = D) (hs : D * 2 + 1 < sz) (hz : x.x1 = z) :
    StepsAt (w.setCell ⟨g, D * 2, none⟩ (.int .i64 y)) (some ⟨g, 0, none⟩) (zs ++ [⟨y, z⟩]) := fun k a hk => by
  refine ⟨g, 0, rfl, ?_⟩
  have hkl := (List.getElem?_eq_some_iff.1 hk).1
  rw [List.length_append] at hkl
  simp at hkl
  by_cases h : k < D
  · rw [List.getElem?_append_left (by omega)] at hk
    obtain ⟨b, o, e, h5⟩ := hx k a (by rw [List.getElem?_append_left (by omega)]; exact hk)
    injection e with e
    injection e with e1 e2
    subst e1 e2
    exact h5.set _ _ (by omega)
  · obtain rfl : k = D := by omega
    rw [List.getElem?_append_right (by omega), hD, Nat.sub_self] at hk
    simp at hk
    subst hk
    obtain ⟨b, o, e, _, h1⟩ := hx k x (by rw [List.getElem?_append_right (by omega), hD, Nat.sub_self]; rfl)
    injection e with e
    injection e with e1 e2
    subst e1 e2
    obtain ⟨v, hv⟩ := hr.cell (i := k * 2) (by omega)
    refine ⟨?_, ?_⟩
    · rw [Nat.zero_add]; exact World.cell?_setCell_same w ⟨g, k * 2, none⟩ _ hv
    · rw [World.cell?_setCell_other w ⟨g, k * 2, none⟩ _ _ (by intro e; injection e; omega), ← hz]; exact h1

def TidyInv (w : World) (lo : Nat) (xs : List StepD) (v q : Value) (wr : World) : Prop :=
  ∃ (a D c : Nat) (A : Option Addr), a ≤ 200 ∧ q = .int .i64 a ∧ v = .slice A D c ∧ D = (tidyTo xs a).length ∧ ResStep wr lo (.slice A D c) (tidyTo xs a) ∧ Past w wr ∧ A ≠ none

/-- A slice of them in new memory that is not nil. -/
def GivesStepS (w : World) (zs : List StepD) (e : Ending) (w' : World) : Prop := ∃ v, e = .returned v ∧ ResStep w' w.heap.size v zs ∧ Below w.heap.size w w' ∧ v ≠ .slice none 0 0

set_option maxRecDepth 100000 in
set_option maxHeartbeats 2000000 in
theorem l5Tidy_some (A : Option Addr) (n c : Nat) (xs : List StepD) (w : World) (hn : n ≤ 2097152) (hl : xs.length = n) (hx : StepsAt w A xs) :
    Calls Try.prog 47 #[.slice A n c] w (GivesStepS w (tidyTo xs 200)) := by
  obtain ⟨i0, hi, hz0, hz1, hz2⟩ := info_parts infoStep
  have HX := Lib.hid hl
  clear hl
  have hres0 : ResStep (w.alloc (.cells #[] 42)) w.heap.size (.slice (some ⟨w.heap.size, 0, none⟩) 0 0) [] := World.ownsRow_made w _ 0 (Nat.le_refl _) (by unfold maxLen; omega) rfl
  have HR0 := Lib.hid hres0
  clear hres0
  go_enter Try.func47, Try.ntmps47
  go_wp2
  go_loopw [3, 4] (fun v q wr => TidyInv w w.heap.size xs v q wr) (fun _ q _ => 200 - (intOf q).toNat)
  case atStart => exact ⟨0, 0, 0, _, by omega, rfl, rfl, rfl, HR0.out, (Past.refl _).alloc _, by simp⟩
  case round =>
    obtain ⟨a, D, c', A', ha, rfl, rfl, hD, hv, hb, hA'⟩ := hrel
    have HA' := Lib.hid hA'
    clear hA'
    have HD := Lib.hid hD
    have hDa := tidyTo_len xs a
    rw [← hD] at hDa
    clear hD
    have hxr := hx.below hb
    by_cases h200 : a ≤ 199
    · have h199 : (a : Int) ≤ 199 := by omega
      go_wp2
      go_loop [5, 6] (fun b i => ∃ k : Nat, k ≤ n ∧ i = .int .i64 k ∧ b = .int .i64 (bestOf (xs.take k) a)) (fun _ i => n - (intOf i).toNat)
      case atStart => exact ⟨0, by omega, rfl, rfl⟩
      case round =>
        obtain ⟨k, hk, rfl, rfl⟩ := hrel
        by_cases hlt : k < n
        · obtain ⟨⟨x0, x1⟩, hxa⟩ : ∃ s, xs[k]? = some s := ⟨_, List.getElem?_eq_getElem (by have := HX.out; omega)⟩
          obtain ⟨g, o, rfl, c0, c1⟩ := hxr k _ hxa
          have HB := Lib.hid (bestOf_take hxa (a : Int))
          clear hxa
          obtain ⟨b, hbb⟩ : ∃ b, b = bestOf (xs.take k) (a : Int) := ⟨_, rfl⟩
          rw [← hbb]
          have HBB := Lib.hid hbb
          clear hbb
          by_cases h1 : (a : Int) ≤ x0
          · by_cases h2 : x1 < b
            · go_wp2
              go_round
              case rel => exact ⟨k + 1, by omega, by go_num, by rw [HB.out, ← HBB.out, bestStep, if_pos ⟨h1, h2⟩]⟩
              case measure => simp [intOf]; omega
            · go_wp2
              go_round
              case rel => exact ⟨k + 1, by omega, by go_num, by rw [HB.out, ← HBB.out, bestStep, if_neg (fun h => h2 h.2)]⟩
              case measure => simp [intOf]; omega
          · go_wp2
            go_round
            case rel => exact ⟨k + 1, by omega, by go_num, by rw [HB.out, ← HBB.out, bestStep, if_neg (fun h => h1 h.1)]⟩
            case measure => simp [intOf]; omega
        · obtain rfl : k = n := by omega
          have hfull : xs.take k = xs := List.take_of_length_le (by rw [HX.out]; exact Nat.le_refl _)
          rw [hfull]
          clear hfull
          obtain ⟨b, hbb⟩ : ∃ b, b = bestOf xs (a : Int) := ⟨_, rfl⟩
          rw [← hbb]
          by_cases hf : b = 99999
          · have HV : Hid (tidyTo xs 200 = tidyTo xs a) := by
              have := tidyTo_break xs a (by rw [← hbb]; exact hf) (200 - a)
              rw [show a + (200 - a) = 200 by omega] at this
              exact this
            subst hf
            clear hbb
            go_wp2
            go_ret
            exact ⟨_, rfl, by rw [HV.out]; exact hv, hb, fun e => by injection e with e; exact HA'.out e⟩
          · have hf' : (b == 99999) = false := by simpa using hf
            have HF := Lib.hid (show ¬ bestOf xs (a : Int) = far from by rw [← hbb]; exact hf)
            have HBB := Lib.hid hbb
            clear hbb hf
            have hbs := hb.size
            have hown : wr.ownsRow w.heap.size 42 2 (.slice A' D c') D (cellsStep (tidyTo xs a)) := by have := hv; unfold ResStep at this; rw [← HD.out] at this; exact this
            have HO := Lib.hid hown
            clear hown
            by_cases hD0 : D = 0
            · have hD1 : decide (0 < D) = false := by simp; omega
              have HE : Hid (tidyTo xs (a + 1) = tidyTo xs a ++ [⟨(a : Int), b⟩]) := by
                have h0 : tidyTo xs a = [] := List.eq_nil_of_length_eq_zero (by rw [← HD.out]; exact hD0)
                rw [Hid, tidyTo, if_neg HF.out, if_neg (by rw [h0]; simp), mkSt, ← HBB.out]
              have HD0 := Lib.hid hD0
              clear hD0
              go_wp2_with (first | (at_builtin; refine wpList_append_lies _ rfl _ _ 25 rfl w.heap.size 42 i0 _ 2 16 Try.underlying25 hi hz0 hz1 hz2 rfl (by decide) _ D _ rfl (HO.out.alloc _) ⟨wr.heap.size, 0, none⟩ 1 1 [.int .i64 (a : Int), .int .i64 b] rfl rfl (newStep wr _ _ _) (cellsStep_one [⟨(a : Int), b⟩]) (by omega) (by unfold maxLen; omega) (by omega) (by simp; omega) _ rfl ?_; intro gg cap w3 hown' hgrow3 hat hlt3))
              go_roundw
              case rel =>
                exact ⟨a + 1, D + 1, cap, _, by omega, by go_num, rfl, by rw [HE.out, List.length_append, ← HD.out]; rfl, by rw [HE.out]; exact ResStep.push (a := ⟨(a : Int), b⟩) (by rw [← HD.out]; exact hown'), Past.grown (hb.alloc _) (HO.out.alloc _) hgrow3 (Nat.le_refl _), by simp⟩
              case measure => simp [intOf]; omega
            · have hD1 : decide (0 < D) = true := by simp; omega
              obtain ⟨⟨x0, x1⟩, hlast⟩ : ∃ x, (tidyTo xs a)[D - 1]? = some x := ⟨_, List.getElem?_eq_getElem (by rw [← HD.out]; omega)⟩
              have hgl : (tidyTo xs a).getLast? = some ⟨x0, x1⟩ := by rw [List.getLast?_eq_getElem?, ← HD.out]; exact hlast
              obtain ⟨A2, c2, e2, hxW, hoW⟩ := hv.form
              rw [← HD.out] at e2 hoW
              injection e2 with e2 _ e3
              subst e2 e3
              obtain ⟨g2, sz, rfl, hlo2, hrow, hsz⟩ := hoW.resolve_left (fun h => hD0 h.2)
              obtain ⟨g3, o3, eg, f0, f1⟩ := hxW (D - 1) _ hlast
              injection eg with eg
              injection eg with eg1 eg2
              subst eg1 eg2
              have j0 : (0 : Int) ≤ (D : Int) - 1 := by omega
              have j1 : (D : Int) - 1 < (D : Int) := by omega
              have j2 : ((D : Int) - 1).toNat = D - 1 := by omega
              rw [Nat.zero_add] at f0 f1
              by_cases hc : x1 = b
              · have hc' : (x1 == b) = true := by simpa using hc
                have hzs : tidyTo xs a = (tidyTo xs a).dropLast ++ [⟨x0, x1⟩] := dropLast_last hgl
                have hdl : (tidyTo xs a).dropLast.length = D - 1 := by rw [List.length_dropLast, ← HD.out]
                have HE : Hid (tidyTo xs (a + 1) = (tidyTo xs a).dropLast ++ [⟨(a : Int), b⟩]) := by
                  rw [Hid, tidyTo, if_neg HF.out, if_pos (by rw [hgl, ← HBB.out]; simp [hc]), mkSt, ← HBB.out]
                have hxs : StepsAt wr (some ⟨g2, 0, none⟩) ((tidyTo xs a).dropLast ++ [⟨x0, x1⟩]) := by rw [← hzs]; exact hxW
                have hnew := steps_last (y := (a : Int)) (z := b) hrow hxs hdl (by omega) hc
                have hres := hv.again (hv.row.1.set ⟨g2, (D - 1) * 2, none⟩ (.int .i64 (a : Int))) hnew (by rw [List.length_append, hdl]; simp; omega)
                have HR := Lib.hid hres
                have HDL := Lib.hid hdl
                have z0 := hrow.frozen ((D - 1) * 2)
                clear hres hnew hxs hzs hgl hlast hxW hc hv hdl
                go_wp2
                go_roundw
                case rel =>
                  exact ⟨a + 1, D, c', _, by omega, by go_num, rfl, by rw [HE.out, List.length_append, HDL.out]; simp; omega, by rw [HE.out]; exact HR.out, Below.setCell hb hlo2 _, by simp⟩
                case measure => simp [intOf]; omega
              · have hc' : (x1 == b) = false := by simpa using hc
                have HE : Hid (tidyTo xs (a + 1) = tidyTo xs a ++ [⟨(a : Int), b⟩]) := by
                  rw [Hid, tidyTo, if_neg HF.out, if_neg (by rw [hgl, ← HBB.out]; simp [hc]), mkSt, ← HBB.out]
                clear hgl hlast hxW hc hv
                go_wp2_with (first | (at_builtin; refine wpList_append_lies _ rfl _ _ 25 rfl w.heap.size 42 i0 _ 2 16 Try.underlying25 hi hz0 hz1 hz2 rfl (by decide) _ D _ rfl (HO.out.alloc _) ⟨wr.heap.size, 0, none⟩ 1 1 [.int .i64 (a : Int), .int .i64 b] rfl rfl (newStep wr _ _ _) (cellsStep_one [⟨(a : Int), b⟩]) (by omega) (by unfold maxLen; omega) (by omega) (by simp; omega) _ rfl ?_; intro gg cap w3 hown' hgrow3 hat hlt3))
                go_roundw
                case rel =>
                  exact ⟨a + 1, D + 1, cap, _, by omega, by go_num, rfl, by rw [HE.out, List.length_append, ← HD.out]; rfl, by rw [HE.out]; exact ResStep.push (a := ⟨(a : Int), b⟩) (by rw [← HD.out]; exact hown'), Past.grown (hb.alloc _) (HO.out.alloc _) hgrow3 (Nat.le_refl _), by simp⟩
                case measure => simp [intOf]; omega
    · obtain rfl : a = 200 := by omega
      go_wp2
      go_ret
      exact ⟨_, rfl, hv, hb, fun e => by injection e with e; exact HA'.out e⟩

theorem l5Tidy_any (A : Option Addr) (n c : Nat) (xs : List StepD) (w : World) (hn : n ≤ 2097152) (hl : xs.length = n) (hx : StepsAt w A xs) :
    Calls Try.prog 47 #[.slice A n c] w (GivesStep w (tidyTo xs 200)) := (l5Tidy_some A n c xs w hn hl hx).mono fun _ _ ⟨v, h1, h2, h3, _⟩ => ⟨v, h1, h2, h3⟩

end Go.Proofs.Ythopenknfadciaa
