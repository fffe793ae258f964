/-
  One stair, and then another one: spec.l5Link, spec.StairLink, impl's stair.through, impl.StairLink.
-/
import Derived.Test.YthopenknfadciaaTidyS
import Derived.Test.YthopenknfadciaaStairAt
import Derived.Test.YthopenknfadciaaPLinkL
namespace Go.Proofs.Ythopenknfadciaa
open Go.Shelf Go.RowKit Go.Lib Go.Sort

def linkI (a b : List StepD) : List StepD := if stairB a && stairB b then tidy (linkL a b) else []
theorem linkI_len (a b : List StepD) : (linkI a b).length ≤ 1048576 := by
  unfold linkI
  split
  · have := tidy_len (linkL a b); omega
  · simp

def LinkInv (w : World) (lo n : Nat) (a b : List StepD) (v i : Value) (wr : World) : Prop :=
  ∃ (k D c : Nat) (A : Option Addr), k ≤ n ∧ i = .int .i64 k ∧ v = .slice A D c ∧ D = (linkL (a.take k) b).length ∧ D ≤ k ∧ ResStep wr lo (.slice A D c) (linkL (a.take k) b) ∧ Past w wr

set_option maxRecDepth 100000 in
set_option maxHeartbeats 2000000 in
theorem l5Link_any (A B : Option Addr) (n c l cb : Nat) (a b : List StepD) (w : World) (hn : n ≤ 1048576) (hl : l ≤ 1048576) (hna : a.length = n) (hlb : b.length = l) (ha : StepsAt w A a) (hb : StepsAt w B b) (hoa : stairB a = true) (hob : stairB b = true) :
    Calls Try.prog 50 #[.slice A n c, .slice B l cb] w (GivesStep w (tidy (linkL a b))) := by
  obtain ⟨i0, hi, hz0, hz1, hz2⟩ := info_parts infoStep
  have HA := Lib.hid hna
  have HB := Lib.hid hlb
  have HOA := Lib.hid hoa
  have HOB := Lib.hid hob
  clear hna hlb hoa hob
  have hres0 : ResStep (w.alloc (.cells #[] 42)) w.heap.size (.slice (some ⟨w.heap.size, 0, none⟩) 0 0) [] := World.ownsRow_made w _ 0 (Nat.le_refl _) (by unfold maxLen; omega) rfl
  have HR0 := Lib.hid hres0
  clear hres0
  go_enter Try.func50, Try.ntmps50
  go_wp2
  go_loopw [5, 6] (fun v i wr => LinkInv w w.heap.size n a b v i wr) (fun _ i _ => n - (intOf i).toNat)
  case atStart => exact ⟨0, 0, 0, _, by omega, rfl, rfl, rfl, Nat.le_refl _, HR0.out, (Past.refl _).alloc _⟩
  case round =>
    obtain ⟨k, D, c', A', hk, rfl, rfl, hD, hDk, hv, hbr⟩ := hrel
    have HD := Lib.hid hD
    clear hD
    have har := ha.below hbr
    have hbb := hb.below hbr
    have hbs := hbr.size
    by_cases hlt : k < n
    · obtain ⟨⟨x0, x1⟩, hs⟩ : ∃ s, a[k]? = some s := ⟨_, List.getElem?_eq_getElem (by have := HA.out; omega)⟩
      obtain ⟨g, o, rfl, c0, c1⟩ := har k _ hs
      have HN := Lib.hid (linkL_next (b := b) hs)
      clear hs
      have i1 : (k : Int) < (n : Int) := by omega
      go_wp2_with fail
      refine (l5At_any B l cb b x1 _ hl HB.out hbb).mono ?_
      rintro e w1 ⟨rfl, rfl⟩
      obtain ⟨t, ht⟩ : ∃ t, t = atI b x1 := ⟨_, rfl⟩
      have hbd := atI_bound HOB.out x1
      rw [← ht] at hbd ⊢
      have HT := Lib.hid ht
      clear ht
      by_cases hf : t = far
      · have hf' : ¬ t < 99999 := by unfold far at hf; omega
        have HE : Hid (linkL (a.take (k + 1)) b = linkL (a.take k) b) := by rw [Hid, HN.out, linkS, ← HT.out, if_pos hf]; simp
        clear hf hbd
        go_wp2
        go_roundw
        case rel => exact ⟨k + 1, D, c', A', by omega, by go_num, rfl, by rw [HE.out]; exact HD.out, by omega, by rw [HE.out]; exact hv, hbr⟩
        case measure => simp [intOf]; omega
      · have hf' : t < 99999 := by have := hbd.resolve_left hf; omega
        have HE : Hid (linkL (a.take (k + 1)) b = linkL (a.take k) b ++ [⟨x0, t⟩]) := by rw [Hid, HN.out, linkS, ← HT.out, if_neg hf]; simp
        have hown : wr.ownsRow w.heap.size 42 2 (.slice A' D c') D (cellsStep (linkL (a.take k) b)) := by have := hv; unfold ResStep at this; rw [← HD.out] at this; exact this
        have HO := Lib.hid hown
        clear hown hf hbd
        go_wp2_with (first | (at_builtin; refine wpList_append_lies _ rfl _ _ 25 rfl w.heap.size 42 i0 _ 2 16 Try.underlying25 hi hz0 hz1 hz2 rfl (by decide) _ D _ rfl (HO.out.alloc _) ⟨wr.heap.size, 0, none⟩ 1 1 [.int .i64 x0, .int .i64 t] rfl rfl (newStep wr _ _ _) (cellsStep_one [⟨x0, t⟩]) (by omega) (by unfold maxLen; omega) (by omega) (by simp; omega) _ rfl ?_; intro gg cap w3 hown' hgrow3 hat hlt3))
        go_roundw
        case rel =>
          exact ⟨k + 1, D + 1, cap, _, by omega, by go_num, rfl, by rw [HE.out, List.length_append, ← HD.out]; rfl, by omega, by rw [HE.out]; exact ResStep.push (a := ⟨x0, t⟩) (by rw [← HD.out]; exact hown'), Past.grown (hbr.alloc _) (HO.out.alloc _) hgrow3 (Nat.le_refl _)⟩
        case measure => simp [intOf]; omega
    · obtain rfl : n = k := by omega
      have hfull : a.take n = a := List.take_of_length_le (by rw [HA.out]; exact Nat.le_refl _)
      rw [hfull] at hv
      obtain ⟨A2, c2, e2, hx2, _⟩ := hv.form
      have hlen : (linkL a b).length = D := by rw [HD.out, hfull]
      rw [hlen] at e2
      injection e2 with e2 _ e3
      subst e2 e3
      have HL := Lib.hid hlen
      clear hfull hlen hv
      go_wp2_with fail
      refine (l5Tidy_any A' D c' (linkL a b) _ (by omega) HL.out hx2).mono ?_
      rintro e w1 ⟨v1, rfl, hv1, hb1⟩
      rw [tidyTo_200 (linkL_ok HOA.out HOB.out)] at hv1
      go_wp2
      go_ret
      exact ⟨_, rfl, hv1.lower hbs, hbr.trans hb1⟩

set_option maxRecDepth 100000 in
set_option maxHeartbeats 2000000 in
theorem through_any (A B : Option Addr) (n c l cb : Nat) (a b : List StepD) (w : World) (hn : n ≤ 1048576) (hl : l ≤ 1048576) (hna : a.length = n) (hlb : b.length = l) (ha : StepsAt w A a) (hb : StepsAt w B b) (hoa : stairB a = true) (hob : stairB b = true) :
    Calls Try.prog 51 #[.slice A n c, .func (.func 45) #[.slice B l cb] #[]] w (GivesStep w (tidy (linkL a b))) := by
  obtain ⟨i0, hi, hz0, hz1, hz2⟩ := info_parts infoStep
  have HA := Lib.hid hna
  have HB := Lib.hid hlb
  have HOA := Lib.hid hoa
  have HOB := Lib.hid hob
  clear hna hlb hoa hob
  go_enter Try.func51, Try.ntmps51
  go_wp2
  go_loopw [5, 11] (fun v i wr => LinkInv w w.heap.size n a b v i wr) (fun _ i _ => n - (intOf i).toNat)
  case atStart => exact ⟨0, 0, 0, none, by omega, rfl, rfl, rfl, Nat.le_refl _, ResStep.nil _ _, Past.refl _⟩
  case round =>
    obtain ⟨k, D, c', A', hk, rfl, rfl, hD, hDk, hv, hbr⟩ := hrel
    have HD := Lib.hid hD
    clear hD
    have har := ha.below hbr
    have hbs := hbr.size
    by_cases hlt : k < n
    · obtain ⟨⟨x0, x1⟩, hs⟩ : ∃ s, a[k]? = some s := ⟨_, List.getElem?_eq_getElem (by have := HA.out; omega)⟩
      obtain ⟨g, o, rfl, c0, c1⟩ := har k _ hs
      have HN := Lib.hid (linkL_next (b := b) hs)
      clear hs
      have i1 : (k : Int) < (n : Int) := by omega
      have hW : Past wr (wr.alloc (.cells #[.int .i64 x0, .int .i64 x1] 42)) := (Past.refl _).alloc _
      go_wp2_with fail
      refine (stairAt_any B l cb b x1 _ hl HB.out ((hb.below hbr).below hW) HOB.out).mono ?_
      rintro e w1 ⟨rfl, hb1⟩
      have b0 := cell_in (p := ⟨wr.heap.size, 0, none⟩) (v := .int .i64 x0) hb1 (by go_simp)
      have hbr1 := hbr.trans (hW.trans hb1)
      have hv1 := hv.below (hW.trans hb1)
      have hbs1 := hbr1.size
      obtain ⟨t, ht⟩ : ∃ t, t = atI b x1 := ⟨_, rfl⟩
      rw [← ht]
      have HT := Lib.hid ht
      clear ht
      by_cases hf : t = 99999
      · have hf' : (t != 99999) = false := by simp [hf]
        have HE : Hid (linkL (a.take (k + 1)) b = linkL (a.take k) b) := by rw [Hid, HN.out, linkS, ← HT.out, if_pos (show t = far from hf)]; simp
        clear hf
        go_wp2
        go_roundw
        case rel => exact ⟨k + 1, D, c', A', by omega, by go_num, rfl, by rw [HE.out]; exact HD.out, by omega, by rw [HE.out]; exact hv1, hbr1⟩
        case measure => simp [intOf]; omega
      · have hf' : (t != 99999) = true := by simpa using hf
        have HE : Hid (linkL (a.take (k + 1)) b = linkL (a.take k) b ++ [⟨x0, t⟩]) := by rw [Hid, HN.out, linkS, ← HT.out, if_neg (show ¬ t = far from hf)]; simp
        have hown : w1.ownsRow w.heap.size 42 2 (.slice A' D c') D (cellsStep (linkL (a.take k) b)) := by have := hv1; unfold ResStep at this; rw [← HD.out] at this; exact this
        have HO := Lib.hid hown
        clear hown hf
        go_wp2_with (first | (at_builtin; refine wpList_append_lies _ rfl _ _ 25 rfl w.heap.size 42 i0 _ 2 16 Try.underlying25 hi hz0 hz1 hz2 rfl (by decide) _ D _ rfl (HO.out.alloc _) ⟨w1.heap.size, 0, none⟩ 1 1 [.int .i64 x0, .int .i64 t] rfl rfl (newStep w1 _ _ _) (cellsStep_one [⟨x0, t⟩]) (by omega) (by unfold maxLen; omega) (by omega) (by simp; omega) _ rfl ?_; intro gg cap w3 hown' hgrow3 hat hlt3))
        go_roundw
        case rel =>
          exact ⟨k + 1, D + 1, cap, _, by omega, by go_num, rfl, by rw [HE.out, List.length_append, ← HD.out]; rfl, by omega, by rw [HE.out]; exact ResStep.push (a := ⟨x0, t⟩) (by rw [← HD.out]; exact hown'), Past.grown (hbr1.alloc _) (HO.out.alloc _) hgrow3 (Nat.le_refl _)⟩
        case measure => simp [intOf]; omega
    · obtain rfl : n = k := by omega
      have hfull : a.take n = a := List.take_of_length_le (by rw [HA.out]; exact Nat.le_refl _)
      rw [hfull] at hv
      obtain ⟨A2, c2, e2, hx2, _⟩ := hv.form
      have hlen : (linkL a b).length = D := by rw [HD.out, hfull]
      rw [hlen] at e2
      injection e2 with e2 _ e3
      subst e2 e3
      have HL := Lib.hid hlen
      clear hfull hlen hv
      go_wp2_with fail
      refine (implstairOf_any A' D c' (linkL a b) _ (by omega) HL.out hx2 (linkL_ok HOA.out HOB.out)).mono ?_
      rintro e w1 ⟨v1, rfl, hv1, hb1⟩
      go_wp2
      go_ret
      exact ⟨_, rfl, hv1.lower hbs, hbr.trans hb1⟩

set_option maxHeartbeats 1000000 in
theorem specStairLink_any (A : Option Addr) (n c : Nat) (a : List StepD) (B : Option Addr) (l cb : Nat) (b : List StepD) (w : World) (hn : n ≤ 1048576) (hna : a.length = n) (ha : StepsAt w A a) (hl : l ≤ 1048576) (hlb : b.length = l) (hb : StepsAt w B b) :
    Calls Try.prog 26 #[.slice A n c, .slice B l cb] w (GivesStep w (linkI a b)) := by
  have HA := Lib.hid hna
  have HB := Lib.hid hlb
  clear hna hlb
  go_enter Try.func26, Try.ntmps26
  go_wp2_with fail
  refine (l5Ok_any A n c a _ hn HA.out ha).mono ?_
  rintro e w1 ⟨rfl, hb1⟩
  cases hoa : stairB a with
  | false =>
    have HOA := Lib.hid hoa
    clear hoa
    go_wp2
    go_ret
    exact ⟨_, rfl, by rw [linkI, HOA.out]; exact ResStep.nil _ _, hb1⟩
  | true =>
    have HOA := Lib.hid hoa
    clear hoa
    go_wp2_with fail
    refine (l5Ok_any B l cb b _ hl HB.out (hb.below hb1)).mono ?_
    rintro e w2 ⟨rfl, hb2⟩
    have hb12 := Past.trans hb1 hb2
    cases hob : stairB b with
    | false =>
      have HOB := Lib.hid hob
      clear hob
      go_wp2
      go_ret
      exact ⟨_, rfl, by rw [linkI, HOA.out, HOB.out]; exact ResStep.nil _ _, hb12⟩
    | true =>
      have HOB := Lib.hid hob
      clear hob
      go_wp2_with fail
      refine (l5Link_any A B n c l cb a b _ hn hl HA.out HB.out (ha.below hb12) (hb.below hb12) HOA.out HOB.out).mono ?_
      rintro e w3 ⟨v3, rfl, hv3, hb3⟩
      go_wp2
      go_ret
      exact ⟨_, rfl, by rw [linkI, HOA.out, HOB.out]; exact hv3.lower hb12.size, hb12.trans hb3⟩

set_option maxHeartbeats 1000000 in
theorem implStairLink_any (A : Option Addr) (n c : Nat) (a : List StepD) (B : Option Addr) (l cb : Nat) (b : List StepD) (w : World) (hn : n ≤ 1048576) (hna : a.length = n) (ha : StepsAt w A a) (hl : l ≤ 1048576) (hlb : b.length = l) (hb : StepsAt w B b) :
    Calls Try.prog 27 #[.slice A n c, .slice B l cb] w (GivesStep w (linkI a b)) := by
  have HA := Lib.hid hna
  have HB := Lib.hid hlb
  clear hna hlb
  go_enter Try.func27, Try.ntmps27
  go_wp2_with fail
  refine (implStairOk_any A n c a _ hn HA.out ha).mono ?_
  rintro e w1 ⟨rfl, hb1⟩
  cases hoa : stairB a with
  | false =>
    have HOA := Lib.hid hoa
    clear hoa
    go_wp2
    go_ret
    exact ⟨_, rfl, by rw [linkI, HOA.out]; exact ResStep.nil _ _, hb1⟩
  | true =>
    have HOA := Lib.hid hoa
    clear hoa
    go_wp2_with fail
    refine (implStairOk_any B l cb b _ hl HB.out (hb.below hb1)).mono ?_
    rintro e w2 ⟨rfl, hb2⟩
    have hb12 := Past.trans hb1 hb2
    cases hob : stairB b with
    | false =>
      have HOB := Lib.hid hob
      clear hob
      go_wp2
      go_ret
      exact ⟨_, rfl, by rw [linkI, HOA.out, HOB.out]; exact ResStep.nil _ _, hb12⟩
    | true =>
      have HOB := Lib.hid hob
      clear hob
      go_wp2_with fail
      refine (through_any A B n c l cb a b _ hn hl HA.out HB.out (ha.below hb12) (hb.below hb12) HOA.out HOB.out).mono ?_
      rintro e w3 ⟨v3, rfl, hv3, hb3⟩
      go_wp2
      go_ret
      exact ⟨_, rfl, by rw [linkI, HOA.out, HOB.out]; exact hv3.lower hb12.size, hb12.trans hb3⟩

end Go.Proofs.Ythopenknfadciaa
