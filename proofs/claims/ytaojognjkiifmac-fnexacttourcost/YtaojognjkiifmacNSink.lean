/-
  sink: the items of a heap change places, and are the same ones. No condition.
-/
import Derived.BigRegion
import Derived.Test.YtaojognjkiifmacNCh
import Derived.Test.YtaojognjkiifmacQPast
namespace Go.Proofs.Ytaojognjkiifmac
open Go.RowKit

/-- Behind sink. -/
def Sunk (w : World) (hp lo g n cap : Nat) (H : List OpenD) (e : Ending) (w' : World) : Prop :=
  e = .returned (.tuple #[]) ∧ ∃ H', H'.length = n ∧ (∀ x, x ∈ H' ↔ x ∈ H) ∧ HeapAt w' hp lo (.slice (some ⟨g, 0, none⟩) n cap) H' ∧ Ch (fun x => x = g) w w'

set_option maxRecDepth 1000000 in
set_option maxHeartbeats 4000000 in
theorem sink_any (hp lo g n cap : Nat) (H : List OpenD) (w : World) (h : HeapAt w hp lo (.slice (some ⟨g, 0, none⟩) n cap) H) (hn : H.length = n) (hn2 : n ≤ 100000000) :
    Calls Try.prog 109 #[.pointer (some ⟨hp, 0, none⟩)] w (Sunk w hp lo g n cap H) := by
  have HH := Lib.hid h
  have HN := Lib.hid hn
  clear h hn
  go_enter Try.func109, Try.ntmps109
  go_wp2
  go_loopw [2] (fun i wr => ∃ (k : Nat) (H' : List OpenD), i = .int .i64 k ∧ k ≤ n ∧ H'.length = n ∧ (∀ x, x ∈ H' ↔ x ∈ H) ∧ HeapAt wr hp lo (.slice (some ⟨g, 0, none⟩) n cap) H' ∧ Ch (fun x => x = g) w wr) (fun i _ => n - (intOf i).toNat)
  case atStart => exact ⟨0, H, rfl, by omega, HN.out, fun x => Iff.rfl, HH.out, Ch.refl _ _⟩
  case round =>
    obtain ⟨k, H', rfl, hk, hl, hm, hh, hch⟩ := hrel
    obtain ⟨wo, hwo⟩ : ∃ wo, wo = wr := ⟨_, rfl⟩
    subst hwo
    have HM := Lib.hid hm
    have HL := Lib.hid hl
    clear hm hl
    have m1 : IntKind.i64.wrap (2 * (k : Int)) = 2 * (k : Int) := IntWalk.i64_in _ (by omega)
    have m2 : IntKind.i64.wrap (2 * (k : Int) + 1) = 2 * (k : Int) + 1 := IntWalk.i64_in _ (by omega)
    have m3 : IntKind.i64.wrap (2 * (k : Int) + 2) = 2 * (k : Int) + 2 := IntWalk.i64_in _ (by omega)
    go_wp2
    go_loopw [3, 4] (fun f c wq => ∃ (ff cc : Nat), f = .int .i64 ff ∧ c = .int .i64 cc ∧ (ff = k ∨ (k < ff ∧ ff < n)) ∧ 2 * k + 1 ≤ cc ∧ cc ≤ 2 * k + 3 ∧ Past wo wq) (fun _ c _ => 2 * k + 3 - (intOf c).toNat)
    case atStart => exact ⟨k, 2 * k + 1, rfl, by go_num, .inl rfl, by omega, by omega, Past.refl _⟩
    case round =>
      obtain ⟨ff, cc, rfl, rfl, hff, hc1, hc3, hpq⟩ := hrel
      have hq := hh.past hpq
      have b0 := hq.items
      have b1 := hq.before
      by_cases c1 : cc ≤ 2 * k + 2
      · have c1' : (cc : Int) ≤ 2 * (k : Int) + 2 := by omega
        by_cases c2 : cc < n
        · have c2' : (cc : Int) < (n : Int) := by omega
          have hfn : ff < n := by omega
          obtain ⟨⟨x0, x1, x2⟩, hx⟩ : ∃ a, H'[cc]? = some a := ⟨_, List.getElem?_eq_getElem (by have := HL.out; omega)⟩
          obtain ⟨⟨y0, y1, y2⟩, hy⟩ : ∃ a, H'[ff]? = some a := ⟨_, List.getElem?_eq_getElem (by have := HL.out; omega)⟩
          obtain ⟨d0, d1, d2⟩ := hq.rowH.get HL.out hx
          obtain ⟨e0, e1, e2⟩ := hq.rowH.get HL.out hy
          simp only at d0 d1 d2 e0 e1 e2
          have i0 : (0 : Int) ≤ (cc : Int) := by omega
          have i1 : (0 : Int) ≤ (ff : Int) := by omega
          have i2 : (ff : Int) < (n : Int) := by omega
          have C1 := Lib.hid (fun q : PastOf wr => sooner_any x0 x1 x2 y0 y1 y2 q.W)
          have B0 := past_cell b0
          have B1 := past_cell b1
          have D0 := past_cell d0
          have D1 := past_cell d1
          have D2 := past_cell d2
          have E0 := past_cell e0
          have E1 := past_cell e1
          have E2 := past_cell e2
          have mc : IntKind.i64.wrap ((cc : Int) + 1) = (cc : Int) + 1 := IntWalk.i64_in _ (by omega)
          clear hx hy
          obtain ⟨bb, hbb⟩ : ∃ bb, bb = soonerB ⟨x0, x1, x2⟩ ⟨y0, y1, y2⟩ := ⟨_, rfl⟩
          rw [← hbb] at C1
          clear hbb
          go_wp2_with fail
          refine wp_region_past (by kernel_rfl) (by kernel_rfl) ?_
          repeat (quiet_step (with_reducible exact rfl))
          quiet_step ((go_at_call 87; exact past_call (C1.out _)))
          repeat (quiet_step (with_reducible exact rfl))
          refine wpQuiet_nil ?_
          rintro _ ⟨⟨W8, hW8⟩, rfl⟩
          cases bb with
          | true =>
            go_wp2
            go_roundw
            case rel => exact ⟨cc, cc + 1, rfl, by go_num, .inr ⟨by omega, c2⟩, by omega, by omega, hpq.trans hW8⟩
            case measure => simp [intOf]; omega
          | false =>
            go_wp2
            go_roundw
            case rel => exact ⟨ff, cc + 1, rfl, by go_num, hff, by omega, by omega, hpq.trans hW8⟩
            case measure => simp [intOf]; omega
        · have c2' : decide ((cc : Int) < (n : Int)) = false := decide_eq_false (by omega)
          have c2'' : ¬ ((cc : Int) < (n : Int)) := by omega
          by_cases hfk : ff = k
          · subst hfk
            go_wp2
            refine bodyPost_ret (results_none rfl _ _ _) rfl ?_
            exact ⟨rfl, H', HL.out, HM.out, hq, hch.past hpq⟩
          · have hkf : k < ff ∧ ff < n := by omega
            have hne : ((ff : Int) == (k : Int)) = false := by simp; omega
            have hne' : ¬ ((ff : Int) = (k : Int)) := by omega
            obtain ⟨⟨x0, x1, x2⟩, hx⟩ : ∃ a, H'[k]? = some a := ⟨_, List.getElem?_eq_getElem (by have := HL.out; omega)⟩
            obtain ⟨⟨y0, y1, y2⟩, hy⟩ : ∃ a, H'[ff]? = some a := ⟨_, List.getElem?_eq_getElem (by have := HL.out; omega)⟩
            obtain ⟨d0, d1, d2⟩ := hq.rowH.get HL.out hx
            obtain ⟨e0, e1, e2⟩ := hq.rowH.get HL.out hy
            have z0 := hq.rowH.frozen HL.out (k * 3)
            have z1 := hq.rowH.frozen HL.out (k * 3 + 1)
            have z2 := hq.rowH.frozen HL.out (k * 3 + 2)
            have y0' := hq.rowH.frozen HL.out (ff * 3)
            have y1' := hq.rowH.frozen HL.out (ff * 3 + 1)
            have y2' := hq.rowH.frozen HL.out (ff * 3 + 2)
            simp only at d0 d1 d2 e0 e1 e2
            have i0 : (0 : Int) ≤ (k : Int) := by omega
            have i1 : (k : Int) < (n : Int) := by omega
            have i2 : (0 : Int) ≤ (ff : Int) := by omega
            have i3 : (ff : Int) < (n : Int) := by omega
            have hgp : g ≠ hp := fun e => hq.off (by rw [e]; rfl)
            have HS := Lib.hid (swap_mem hx hy)
            have HX := Lib.hid hx
            have HY := Lib.hid hy
            clear hx hy
            go_wp2_with fail
            go_region
            go_wp2
            go_roundw
            case rel => exact ⟨ff, _, rfl, by omega, by rw [List.length_set, List.length_set]; exact HL.out, fun x => (HS.out x).trans (HM.out x), (hq.swap HL.out).1, (hch.past hpq).grown (hq.swap HL.out).2 (fun _ => rfl)⟩
            case measure => simp [intOf]; omega
      · have c1' : decide ((cc : Int) ≤ 2 * (k : Int) + 2) = false := decide_eq_false (by omega)
        have c1'' : ¬ ((cc : Int) ≤ 2 * (k : Int) + 2) := by omega
        by_cases hfk : ff = k
        · subst hfk
          go_wp2
          refine bodyPost_ret (results_none rfl _ _ _) rfl ?_
          exact ⟨rfl, H', HL.out, HM.out, hq, hch.past hpq⟩
        · have hkf : k < ff ∧ ff < n := by omega
          have hne : ((ff : Int) == (k : Int)) = false := by simp; omega
          have hne' : ¬ ((ff : Int) = (k : Int)) := by omega
          obtain ⟨⟨x0, x1, x2⟩, hx⟩ : ∃ a, H'[k]? = some a := ⟨_, List.getElem?_eq_getElem (by have := HL.out; omega)⟩
          obtain ⟨⟨y0, y1, y2⟩, hy⟩ : ∃ a, H'[ff]? = some a := ⟨_, List.getElem?_eq_getElem (by have := HL.out; omega)⟩
          obtain ⟨d0, d1, d2⟩ := hq.rowH.get HL.out hx
          obtain ⟨e0, e1, e2⟩ := hq.rowH.get HL.out hy
          have z0 := hq.rowH.frozen HL.out (k * 3)
          have z1 := hq.rowH.frozen HL.out (k * 3 + 1)
          have z2 := hq.rowH.frozen HL.out (k * 3 + 2)
          have y0' := hq.rowH.frozen HL.out (ff * 3)
          have y1' := hq.rowH.frozen HL.out (ff * 3 + 1)
          have y2' := hq.rowH.frozen HL.out (ff * 3 + 2)
          simp only at d0 d1 d2 e0 e1 e2
          have i0 : (0 : Int) ≤ (k : Int) := by omega
          have i1 : (k : Int) < (n : Int) := by omega
          have i2 : (0 : Int) ≤ (ff : Int) := by omega
          have i3 : (ff : Int) < (n : Int) := by omega
          have hgp : g ≠ hp := fun e => hq.off (by rw [e]; rfl)
          have HS := Lib.hid (swap_mem hx hy)
          have HX := Lib.hid hx
          have HY := Lib.hid hy
          clear hx hy
          go_wp2_with fail
          go_region
          go_wp2
          go_roundw
          case rel => exact ⟨ff, _, rfl, by omega, by rw [List.length_set, List.length_set]; exact HL.out, fun x => (HS.out x).trans (HM.out x), (hq.swap HL.out).1, (hch.past hpq).grown (hq.swap HL.out).2 (fun _ => rfl)⟩
          case measure => simp [intOf]; omega

end Go.Proofs.Ytaojognjkiifmac
