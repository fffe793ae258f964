/-
  FnExactLiveNear answers true at every input: impl.LiveNear answers as spec.LiveNear, leaves its arguments alone. No condition.
-/
import Derived.Test.YtaojognjkiifmabTo
import Derived.Test.YtaojognjkiifmabSame
import Derived.Test.YtaojognjkiifmabOpen
import Derived.Test.YtaojognjkiifmabRNewsL
import Derived.Test.YtaojognjkiifmabSLiveR
import Derived.Test.YtaojognjkiifmabILiveR
import Derived.Test.YtaojognjkiifmabOpenW
import Derived.Test.YtaojognjkiifmabMarkB
namespace Go.Proofs.Ytaojognjkiifmab
open Go.RowKit

theorem MadeNews.farL {w : World} {g t n k : Nat} {xs : List NewsD} (h : MadeNews w g t n xs k) (p : Addr) (u : Value) (hp : g ≠ p.block) : MadeNews (w.setCell p u) g t n xs k :=
  ⟨h.1.set _ _, fun j a hj ha => (h.2 j a hj ha).far p u hp⟩
/-- What room is left behind a net with news. -/
def roomLive (left : Int) (n l : Nat) : Int := if (n : Int) ≤ left then roomLeft (left - n) l else -1
theorem szLive_any (m : Int) (A : Option Addr) (n c : Nat) (B : Option Addr) (l cb : Nat) (left : Int) (w : World) (h0 : 0 ≤ left) (h1 : left ≤ 1048576) (hn : n ≤ maxLen) (hl : l ≤ maxLen) :
    Calls Try.prog 27 #[.agg #[.int .i64 m, .slice A n c, .slice B l cb], .int .i64 left] w fun e w' => e = .returned (.int .i64 (roomLive left n l)) ∧ Below w.heap.size w w' := by
  have hb0 : Past w (w.alloc (.cells #[.int .i64 m, .slice A n c, .slice B l cb] 47)) := (Past.refl _).alloc _
  go_enter Try.func27, Try.ntmps27
  go_wp2_with fail
  refine (szNet_any m A n c left _ h0 h1 hn).mono ?_
  rintro e w1 ⟨rfl, hb1⟩
  have b2 := cell_in (p := ⟨w.heap.size, 2, none⟩) (v := .slice B l cb) hb1 (by go_simp)
  have hp1 := hb0.trans hb1
  by_cases hnl : (n : Int) ≤ left
  rotate_left
  · have hr : roomLeft left n = -1 := by unfold roomLeft; rw [if_pos (by omega)]
    have hv : roomLive left n l = -1 := by unfold roomLive; rw [if_neg hnl]
    rw [hr]
    go_wp2
    go_ret
    exact ⟨ret_int (by rw [hv]), hp1⟩
  have hr : roomLeft left n = left - n := by unfold roomLeft; rw [if_neg (by omega)]
  have hv : roomLive left n l = roomLeft (left - n) l := by unfold roomLive; rw [if_pos hnl]
  have HVV := Lib.hid hv
  rw [hr]
  have g0 : ¬ (left - (n : Int) < 0) := by omega
  clear hr hv
  go_wp2_with fail
  refine (szNewsS_any B l cb (left - n) _ (by omega) (by omega) hl).mono ?_
  rintro e w2 ⟨rfl, rfl⟩
  by_cases hll : (l : Int) ≤ left - n
  · have hr : roomLeft (left - n) l = left - n - l := by unfold roomLeft; rw [if_neg (by omega)]
    rw [hr]
    have g1 : ¬ (left - (n : Int) - (l : Int) < 0) := by omega
    have HR2 := Lib.hid hr
    clear hr
    go_wp2
    go_ret
    exact ⟨ret_int (by rw [HVV.out]; unfold roomLeft; rw [if_neg (by omega)]), hp1⟩
  · have hr : roomLeft (left - n) l = -1 := by unfold roomLeft; rw [if_pos (by omega)]
    have HR2 := Lib.hid hr
    rw [hr]
    clear hr
    go_wp2
    go_ret
    exact ⟨ret_int (by rw [HVV.out, HR2.out]), hp1⟩

/-- A net with news in new memory of the call's own is handed back. -/
def LiveNew (w : World) (m : Int) (n : Nat) (xs : List ArcD) (l : Nat) (ns : List NewsD) (e : Ending) (w' : World) : Prop :=
  ∃ g h, e = .returned (.agg #[.int .i64 m, .slice (some ⟨g, 0, none⟩) n n, .slice (some ⟨h, 0, none⟩) l l]) ∧ Below w.heap.size w w' ∧ w.heap.size ≤ g ∧ Made w' g 34 n xs n ∧ g < h ∧ MadeNews w' h 64 l ns l

set_option maxRecDepth 100000 in
set_option maxHeartbeats 1000000 in
theorem toLive_any (m : Int) (A : Option Addr) (n c : Nat) (xs : List ArcD) (B : Option Addr) (l cb : Nat) (ns : List NewsD) (w : World) (hn : n ≤ 1048576) (hnx : xs.length = n) (hx : ArcsAt w A xs) (hl : l ≤ 1048576) (hly : ns.length = l) (hy : NewssAt w B ns) :
    Calls Try.prog 29 #[.agg #[.int .i64 m, .slice A n c, .slice B l cb]] w (LiveNew w m n xs l ns) := by
  have HX := Lib.hid hnx
  have HY := Lib.hid hly
  clear hnx hly
  obtain ⟨V, hV⟩ : ∃ V, V = ((w.alloc (.cells #[.int .i64 m, .slice A n c, .slice B l cb] 47)).alloc (.cells #[.int .i64 0, .slice none 0 0, .slice none 0 0] 52)).alloc (.cells #[.int .i64 0, .slice none 0 0, .slice none 0 0] 52) := ⟨_, rfl⟩
  have hpV : Past w V := by rw [hV]; exact (((Past.refl _).alloc _).alloc _).alloc _
  have b0 : V.cell? ⟨w.heap.size, 0, none⟩ = some (.int .i64 m) := by rw [hV]; go_simp
  have b1 : V.cell? ⟨w.heap.size, 1, none⟩ = some (.slice A n c) := by rw [hV]; go_simp
  have b2 : V.cell? ⟨w.heap.size, 2, none⟩ = some (.slice B l cb) := by rw [hV]; go_simp
  have hsV : V.heap.size = w.heap.size + 1 + 1 + 1 := by rw [hV]; simp
  have r1 : RowN V (w.heap.size + 1) 52 3 := ⟨#[.int .i64 0, .slice none 0 0, .slice none 0 0], by
    have := heap_alloc_new (w.alloc (.cells #[.int .i64 m, .slice A n c, .slice B l cb] 47)) (.cells #[.int .i64 0, .slice none 0 0, .slice none 0 0] 52)
    rw [hV, Below.heap_alloc _ _ _ (by simp)]; simpa using this, rfl⟩
  have r2 : RowN V (w.heap.size + 1 + 1) 52 3 := ⟨#[.int .i64 0, .slice none 0 0, .slice none 0 0], by
    have := heap_alloc_new ((w.alloc (.cells #[.int .i64 m, .slice A n c, .slice B l cb] 47)).alloc (.cells #[.int .i64 0, .slice none 0 0, .slice none 0 0] 52)) (.cells #[.int .i64 0, .slice none 0 0, .slice none 0 0] 52)
    rw [hV]; simpa using this, rfl⟩
  have HV := Lib.hid hV
  clear hV
  go_enter Try.func29, Try.ntmps29
  go_wp2_with fail
  rw [← HV.out]
  clear HV
  refine (toNet_any m A n c xs _ hn HX.out (hx.below hpV)).mono ?_
  rintro e w1 ⟨g, rfl, hb1, hg, hm1⟩
  have b2 := cell_in hb1 b2
  have r1 := r1.keep (hb1.block _ r1.lt)
  have r2 := r2.keep (hb1.block _ r2.lt)
  have hy1 := (hy.below hpV).below hb1
  have hp1 := hpV.trans hb1
  obtain ⟨v0, e0⟩ := r2.cell (i := 0) (by omega)
  obtain ⟨v1, e1⟩ := r2.cell (i := 1) (by omega)
  have z0 := r2.frozen 0
  have z1 := r2.frozen 1
  have hs1 := hb1.size
  have hgl := hm1.1.lt
  have hm1 := (hm1.far ⟨w.heap.size + 1 + 1, 0, none⟩ (.int .i64 m) (by show g ≠ w.heap.size + 1 + 1; omega)).far ⟨w.heap.size + 1 + 1, 1, none⟩ (.slice (some ⟨g, 0, none⟩) n n) (by show g ≠ w.heap.size + 1 + 1; omega)
  have c0 : ((w1.setCell ⟨w.heap.size + 1 + 1, 0, none⟩ (.int .i64 m)).setCell ⟨w.heap.size + 1 + 1, 1, none⟩ (.slice (some ⟨g, 0, none⟩) n n)).cell? ⟨w.heap.size + 1 + 1, 0, none⟩ = some (.int .i64 m) := (World.cell?_setCell_other _ _ _ _ (by simp)).trans (World.cell?_setCell_same _ _ _ e0)
  have c1 : ((w1.setCell ⟨w.heap.size + 1 + 1, 0, none⟩ (.int .i64 m)).setCell ⟨w.heap.size + 1 + 1, 1, none⟩ (.slice (some ⟨g, 0, none⟩) n n)).cell? ⟨w.heap.size + 1 + 1, 1, none⟩ = some (.slice (some ⟨g, 0, none⟩) n n) := World.cell?_setCell_same _ _ _ ((World.cell?_setCell_other _ _ _ _ (by simp)).trans e1)
  have d2 : ((w1.setCell ⟨w.heap.size + 1 + 1, 0, none⟩ (.int .i64 m)).setCell ⟨w.heap.size + 1 + 1, 1, none⟩ (.slice (some ⟨g, 0, none⟩) n n)).cell? ⟨w.heap.size, 2, none⟩ = some (.slice B l cb) := ((World.cell?_setCell_other _ _ _ _ (by simp)).trans (World.cell?_setCell_other _ _ _ _ (by simp))).trans b2
  have r1 := (r1.set ⟨w.heap.size + 1 + 1, 0, none⟩ (.int .i64 m)).set ⟨w.heap.size + 1 + 1, 1, none⟩ (.slice (some ⟨g, 0, none⟩) n n)
  have r2 := (r2.set ⟨w.heap.size + 1 + 1, 0, none⟩ (.int .i64 m)).set ⟨w.heap.size + 1 + 1, 1, none⟩ (.slice (some ⟨g, 0, none⟩) n n)
  have hp2 : Past w ((w1.setCell ⟨w.heap.size + 1 + 1, 0, none⟩ (.int .i64 m)).setCell ⟨w.heap.size + 1 + 1, 1, none⟩ (.slice (some ⟨g, 0, none⟩) n n)) := Below.setCell (Below.setCell hp1 (by show w.heap.size ≤ w.heap.size + 1 + 1; omega) _) (by show w.heap.size ≤ w.heap.size + 1 + 1; omega) _
  have hyo : NewssAt ((w1.setCell ⟨w.heap.size + 1 + 1, 0, none⟩ (.int .i64 m)).setCell ⟨w.heap.size + 1 + 1, 1, none⟩ (.slice (some ⟨g, 0, none⟩) n n)) B ns := hy.below hp2
  have HM := Lib.hid hm1
  have C0 := Lib.hid c0
  have C1 := Lib.hid c1
  have D2 := Lib.hid d2
  have R1 := Lib.hid r1
  have R2 := Lib.hid r2
  have P2 := Lib.hid hp2
  have HYO := Lib.hid hyo
  clear hm1 c0 c1 d2 r1 r2 hp2 hyo hy1 hb1
  obtain ⟨W2, hW2⟩ : ∃ W2, W2 = ((w1.setCell ⟨w.heap.size + 1 + 1, 0, none⟩ (.int .i64 m)).setCell ⟨w.heap.size + 1 + 1, 1, none⟩ (.slice (some ⟨g, 0, none⟩) n n)) := ⟨_, rfl⟩
  go_wp2_with fail
  have hsW2 : W2.heap.size = w1.heap.size := by rw [hW2]; simp
  rw [← hW2] at HM C0 C1 D2 R1 R2 P2 HYO ⊢
  clear hW2
  refine (toNewsS_any B l cb ns _ hl HY.out HYO.out).mono ?_
  rintro e w3 ⟨h3, rfl, hb3, hh3, hm3⟩
  have r1 := R1.out.keep (hb3.block _ R1.out.lt)
  have r2 := R2.out.keep (hb3.block _ R2.out.lt)
  have c0 := cell_in hb3 C0.out
  have c1 := cell_in hb3 C1.out
  obtain ⟨v2, e2⟩ := r2.cell (i := 2) (by omega)
  have z2 := r2.frozen 2
  obtain ⟨u0, f0⟩ := r1.cell (i := 0) (by omega)
  obtain ⟨u1, f1⟩ := r1.cell (i := 1) (by omega)
  obtain ⟨u2, f2⟩ := r1.cell (i := 2) (by omega)
  have y0 := r1.frozen 0
  have y1 := r1.frozen 1
  have y2 := r1.frozen 2
  have hmg := HM.out.below hb3
  have hp3 := P2.out.trans hb3
  have hgh : g < W2.heap.size := HM.out.1.lt
  have hsz2 : w.heap.size + 1 + 1 < W2.heap.size := R2.out.lt
  clear R1 R2 C0 C1 D2 HM P2 HYO hb3 r1 r2
  go_wp2
  refine bodyPost_ret (v := .agg #[.int .i64 m, .slice (some ⟨g, 0, none⟩) n n, .slice (some ⟨h3, 0, none⟩) l l]) (by simp [results, Try.results29, go_sem, f0, f1, f2]) rfl
    ⟨g, h3, rfl, (((hp3.setCell (by show w.heap.size ≤ w.heap.size + 1 + 1; omega) _).setCell (by show w.heap.size ≤ w.heap.size + 1; omega) _).setCell (by show w.heap.size ≤ w.heap.size + 1; omega) _).setCell (by show w.heap.size ≤ w.heap.size + 1; omega) _, by omega, ?_, by omega, ?_⟩
  · exact (((hmg.far _ _ (by show g ≠ w.heap.size + 1 + 1; omega)).far _ _ (by show g ≠ w.heap.size + 1; omega)).far _ _ (by show g ≠ w.heap.size + 1; omega)).far _ _ (by show g ≠ w.heap.size + 1; omega)
  · exact (((hm3.farL _ _ (by show h3 ≠ w.heap.size + 1 + 1; omega)).farL _ _ (by show h3 ≠ w.heap.size + 1; omega)).farL _ _ (by show h3 ≠ w.heap.size + 1; omega)).farL _ _ (by show h3 ≠ w.heap.size + 1; omega)

theorem eqLive_same (m : Int) (A A' : Option Addr) (n c c' : Nat) (xs : List ArcD) (B B' : Option Addr) (l cb cb' : Nat) (ns : List NewsD) (w : World) (hn : n ≤ 1048576) (hnx : xs.length = n) (hx : ArcsAt w A xs) (hx' : ArcsAt w A' xs) (hl : l ≤ 1048576) (hly : ns.length = l) (hy : NewssAt w B ns) (hy' : NewssAt w B' ns) :
    Calls Try.prog 31 #[.agg #[.int .i64 m, .slice A n c, .slice B l cb], .agg #[.int .i64 m, .slice A' n c', .slice B' l cb']] w fun e w' => e = .returned (.bool true) ∧ Below w.heap.size w w' := by
  have HX := Lib.hid hnx
  have HY := Lib.hid hly
  clear hnx hly
  have hb0 : Past w ((w.alloc (.cells #[.int .i64 m, .slice A n c, .slice B l cb] 52)).alloc (.cells #[.int .i64 m, .slice A' n c', .slice B' l cb'] 52)) := ((Past.refl _).alloc _).alloc _
  go_enter Try.func31, Try.ntmps31
  go_wp2_with fail
  refine (eqNet_same m A A' n c c' xs _ hn HX.out (hx.below hb0) (hx'.below hb0)).mono ?_
  rintro e w1 ⟨rfl, hb1⟩
  have b2 := cell_in (p := ⟨w.heap.size, 2, none⟩) (v := .slice B l cb) hb1 (by go_simp)
  have d2 := cell_in (p := ⟨w.heap.size + 1, 2, none⟩) (v := .slice B' l cb') hb1 (by go_simp)
  have hp1 := hb0.trans hb1
  clear hb0 hb1
  go_wp2_with fail
  refine (eqNewsS_same B B' l cb cb' ns _ hl HY.out (hy.below hp1) (hy'.below hp1)).mono ?_
  rintro e w2 ⟨rfl, hb2⟩
  go_wp2
  go_ret
  exact ⟨rfl, hp1.trans hb2⟩

open Go.ChangeShapes Go.WideShapes Go.ChangeAt Go.Deep Go.Joins in
set_option maxRecDepth 100000 in
/-- A net with news that comes in. -/
theorem open_live {H : Type} {enc : TypeId × Value → H} {W : World} {r : Reach} {b0 : Nat} {v : Value} {d : DataW H} {p : List MemPlace} (hv : Value.okWide Try.prog W r b0 47 v)
    (h : DataW.Trod enc Try.prog W 0 (fun _ => true) true 47 v d p) :
    ∃ (m : Int) (A : Option Addr) (n c : Nat) (xs : List ArcD) (B : Option Addr) (l cb : Nat) (ns : List NewsD), v = .agg #[.int .i64 m, .slice A n c, .slice B l cb] ∧ (xs.length = n ∧ n ≤ maxLen ∧ ArcsAt W A xs) ∧ ns.length = l ∧ l ≤ maxLen ∧ NewssAt W B ns := by
  obtain ⟨cs, rfl, hsz⟩ := okWide_struct Try.underlying47 hv
  obtain ⟨c0, c1, c2, rfl⟩ := array3 (hsz.trans (show Try.prog.cellsOf 47 = 3 by kernel_rfl))
  obtain ⟨fuel, hf⟩ := h
  obtain ⟨y0, y1, n, hx, _, h0, h1⟩ := trod_struct2 Try.underlying47 hf
  have hN : Try.prog.cellsOf 44 = 2 := by kernel_rfl
  have hS : Try.prog.cellsOf 45 = 1 := by kernel_rfl
  have hI : Try.prog.cellsOf 3 = 1 := by kernel_rfl
  have hA : Try.prog.cellsOf 42 = 1 := by kernel_rfl
  have k0 : DataW.trod enc Try.prog W 0 (fun _ => true) true n 44 [c0, c1] = some y0 := by simpa [Value.cells, hN] using h0
  have k1 : DataW.trod enc Try.prog W 0 (fun _ => true) true n 45 [c2] = some y1 := by simpa [Value.cells, hS] using h1
  obtain ⟨u0, u1, n2, _, _, q0, q1⟩ := trod_struct2 Try.underlying44 k0
  have q0' : DataW.trod enc Try.prog W 0 (fun _ => true) true n2 3 [c0] = some u0 := by simpa [hI] using q0
  have q1' : DataW.trod enc Try.prog W 0 (fun _ => true) true n2 42 [c1] = some u1 := by simpa [hA] using q1
  obtain ⟨m, e0, _, _⟩ := DataW.trod_int Try.underlying3 q0'
  injection e0 with e0
  subst e0
  obtain ⟨A, n', c, xs, rfl, hl, hn, hx⟩ := open_arcs q1'
  obtain ⟨B, l, cb, ns, rfl, hl2, hn2, hx2⟩ := open_newss k1
  exact ⟨m, A, n', c, xs, B, l, cb, ns, rfl, ⟨hl, hn, hx⟩, hl2, hn2, hx2⟩

end Go.Proofs.Ytaojognjkiifmab

namespace Go.Proofs.Ytaojognjkiifmab
open Go.ChangeShapes Go.WideShapes Go.ChangeAt Go.RowKit

set_option maxRecDepth 100000 in
set_option maxHeartbeats 2000000 in
theorem exactLiveNear_walk (m0 : Int) (A0 : Option Addr) (n0 c0 : Nat) (xs0 : List ArcD) (B0 : Option Addr) (l0 d0 : Nat) (ns0 : List NewsD) (z1 : Int) (z2 : Int) (w : World) (hn0 : n0 ≤ maxLen) (hl0 : xs0.length = n0) (hx0 : ArcsAt w A0 xs0) (hnl0 : l0 ≤ maxLen) (hly0 : ns0.length = l0) (hy0 : NewssAt w B0 ns0) :
    Calls Try.prog 7 #[.agg #[.int .i64 m0, .slice A0 n0 c0, .slice B0 l0 d0], .int .i64 z1, .int .i64 z2] w fun e w' => e = .returned (.bool true) ∧ Below w.heap.size w w' := by
  have HX0 := Lib.hid hl0
  have HY0 := Lib.hid hly0
  clear hl0 hly0
  have hP : Past w (w.alloc (.cells #[.int .i64 m0, .slice A0 n0 c0, .slice B0 l0 d0] 47)) := ((Past.refl w).alloc _)
  go_enter Try.func7, Try.ntmps7
  go_wp2_with fail
  refine (szLive_any m0 A0 n0 c0 B0 l0 d0 (1048576) _ (by omega) (by omega) hn0 hnl0).mono ?_
  rintro e w1 ⟨rfl, hb⟩
  have a0_0 := cell_in (p := ⟨w.heap.size, 0, none⟩) (v := .int .i64 m0) hb (by go_simp)
  have a0_1 := cell_in (p := ⟨w.heap.size, 1, none⟩) (v := .slice A0 n0 c0) hb (by go_simp)
  have a0_2 := cell_in (p := ⟨w.heap.size, 2, none⟩) (v := .slice B0 l0 d0) hb (by go_simp)
  have hx0 := (hx0.below hP).below hb
  have hy0 := (hy0.below hP).below hb
  have hP := Past.trans hP hb
  clear hb
  have hno : ∀ r : Int, roomLive 1048576 n0 l0 = r → r < 0 ∨ (n0 ≤ 1048576 ∧ l0 ≤ 1048576 ∧ r = 1048576 - n0 - l0) := by
    intro r hr
    unfold roomLive roomLeft at hr
    split at hr
    · split at hr
      · left; omega
      · right; exact ⟨by omega, by omega, by omega⟩
    · left; omega
  obtain ⟨r, hr⟩ : ∃ r, roomLive 1048576 n0 l0 = r := ⟨_, rfl⟩
  have hno := hno r hr
  rw [hr]
  clear hr
  by_cases hr0 : r < 0
  · clear hno
    go_wp2
    go_ret
    exact ⟨rfl, hP⟩
  have h20_0 : n0 ≤ 1048576 := by omega
  have k20_0 : l0 ≤ 1048576 := by omega
  clear hno
  go_wp2_with fail
  refine (toLive_any m0 A0 n0 c0 xs0 B0 l0 d0 ns0 _ h20_0 HX0.out hx0 k20_0 HY0.out hy0).mono ?_
  rintro e w2 ⟨sg0, sh0, rfl, hb, hg, sm0, hgh, sn0⟩
  have hx0 := hx0.below hb
  have hy0 := hy0.below hb
  have a0_0 := cell_in hb a0_0
  have a0_1 := cell_in hb a0_1
  have a0_2 := cell_in hb a0_2
  have hP := Past.trans hP hb
  clear hb hg hgh
  go_wp2_with fail
  refine (specLiveNear_any m0 _ n0 n0 xs0 _ l0 l0 ns0 z1 z2 _ h20_0 HX0.out (sm0.arcs HX0.out) k20_0 HY0.out (sn0.at_ HY0.out)).mono ?_
  rintro e w3 ⟨rfl, hb⟩
  have hx0 := hx0.below hb
  have hy0 := hy0.below hb
  have a0_0 := cell_in hb a0_0
  have a0_1 := cell_in hb a0_1
  have a0_2 := cell_in hb a0_2
  have hP := Past.trans hP hb
  clear hb sm0 sn0
  have sb : w.heap.size < w3.heap.size := lt_of_cell a0_0
  go_wp2_with fail
  refine (toLive_any m0 A0 n0 c0 xs0 B0 l0 d0 ns0 _ h20_0 HX0.out hx0 k20_0 HY0.out hy0).mono ?_
  rintro e w4 ⟨g0, h0, rfl, hb, hg0, hm0, hgh0, hn0'⟩
  have hx0 := hx0.below hb
  have hy0 := hy0.below hb
  have a0_0 := cell_in hb a0_0
  have a0_1 := cell_in hb a0_1
  have a0_2 := cell_in hb a0_2
  have hP := Past.trans hP hb
  clear hb
  have hb : Past w4 (w4.alloc (.cells #[.int .i64 m0, .slice (some ⟨g0, 0, none⟩) n0 n0, .slice (some ⟨h0, 0, none⟩) l0 l0] 52)) := (Past.refl _).alloc _
  obtain ⟨w5, hw6⟩ : ∃ u, u = w4.alloc (.cells #[.int .i64 m0, .slice (some ⟨g0, 0, none⟩) n0 n0, .slice (some ⟨h0, 0, none⟩) l0 l0] 52) := ⟨_, rfl⟩
  go_wp2_with fail
  have p0_0 : w5.cell? ⟨w4.heap.size, 0, none⟩ = some (.int .i64 m0) := by rw [hw6]; go_simp
  have p0_1 : w5.cell? ⟨w4.heap.size, 1, none⟩ = some (.slice (some ⟨g0, 0, none⟩) n0 n0) := by rw [hw6]; go_simp
  have p0_2 : w5.cell? ⟨w4.heap.size, 2, none⟩ = some (.slice (some ⟨h0, 0, none⟩) l0 l0) := by rw [hw6]; go_simp
  rw [← hw6] at hb ⊢
  have sx0 : w4.heap.size < w5.heap.size := lt_of_cell p0_0
  clear hw6
  have hx0 := hx0.below hb
  have hy0 := hy0.below hb
  have a0_0 := cell_in hb a0_0
  have a0_1 := cell_in hb a0_1
  have a0_2 := cell_in hb a0_2
  have hm0 := hm0.below hb
  have hn0' := hn0'.below hb
  have hP := Past.trans hP hb
  clear hb
  refine (implLiveNear_any m0 _ n0 n0 xs0 _ l0 l0 ns0 z1 z2 _ h20_0 HX0.out (hm0.arcs HX0.out) k20_0 HY0.out (hn0'.at_ HY0.out)).mono ?_
  rintro e w6 ⟨rfl, hb⟩
  have hx0 := hx0.below hb
  have hy0 := hy0.below hb
  have a0_0 := cell_in hb a0_0
  have a0_1 := cell_in hb a0_1
  have a0_2 := cell_in hb a0_2
  have hm0 := hm0.below hb
  have hn0' := hn0'.below hb
  have p0_0 := cell_in hb p0_0
  have p0_1 := cell_in hb p0_1
  have p0_2 := cell_in hb p0_2
  have hP := Past.trans hP hb
  clear hb
  have hq := (hm0.arcs HX0.out)
  have hqn := (hn0'.at_ HY0.out)
  go_wp2_with fail
  go_region_held3 (fun w' => w'.cell? ⟨w.heap.size, 0, none⟩ = some (.int .i64 m0) ∧ w'.cell? ⟨w.heap.size, 1, none⟩ = some (.slice A0 n0 c0) ∧ w'.cell? ⟨w.heap.size, 2, none⟩ = some (.slice B0 l0 d0) ∧ w'.cell? ⟨w4.heap.size, 0, none⟩ = some (.int .i64 m0) ∧ w'.cell? ⟨w4.heap.size, 1, none⟩ = some (.slice (some ⟨g0, 0, none⟩) n0 n0) ∧ w'.cell? ⟨w4.heap.size, 2, none⟩ = some (.slice (some ⟨h0, 0, none⟩) l0 l0)) (go_keep)
    (first
      | (go_at_call 29; refine (toLive_any m0 A0 n0 c0 xs0 B0 l0 d0 ns0 _ h20_0 HX0.out hx0.drew k20_0 HY0.out hy0.drew).mono ?_; rintro e w7 ⟨g9, h9, rfl, hb9, hg9, hm9, hgh9, hn9⟩; have a0_0 := cell_in hb9 a0_0; have a0_1 := cell_in hb9 a0_1; have a0_2 := cell_in hb9 a0_2; have p0_0 := cell_in hb9 p0_0; have p0_1 := cell_in hb9 p0_1; have p0_2 := cell_in hb9 p0_2)
      | (go_at_call 31; refine (eqLive_same m0 _ _ n0 n0 n0 xs0 _ _ l0 l0 l0 ns0 _ h20_0 HX0.out (hq.drew.below hb9) (hm9.arcs HX0.out) k20_0 HY0.out (hqn.drew.below hb9) (hn9.at_ HY0.out)).mono ?_; rintro e w8 ⟨rfl, hb10⟩; have a0_0 := cell_in hb10 a0_0; have a0_1 := cell_in hb10 a0_1; have a0_2 := cell_in hb10 a0_2; have p0_0 := cell_in hb10 p0_0; have p0_1 := cell_in hb10 p0_1; have p0_2 := cell_in hb10 p0_2))
  have hb : Past w6 w8 := (Past.refl w6).drew.trans (Past.trans hb9 hb10)
  have hP := Past.trans hP hb
  go_wp2
  go_ret
  exact ⟨rfl, hP⟩

set_option maxRecDepth 100000 in
theorem exactLiveNear_lifted (os : Os) (started : os.Started) (H : Type) (enc : TypeId × Value → H) :
    ReturnsInHanded {} Try.checked os 7 .any (Rows.fnExactLiveNearSpec.pre6 enc Try.prog Try.f7 Rows.fnExactLiveNearRow.domain false) (Rows.fnExactLiveNearSpec.post enc Try.prog Try.f7 false true false false) := by
  refine returnsInHanded_of_change (C := Try.checked) own started (by kernel_rfl) Try.func7
    (ChangeSpec.witness6 (enc := enc) (C := Try.checked) false ⟨#[], #[.agg #[.int .i64 0, .slice none 0 0, .slice none 0 0], .int .i64 0, .int .i64 0], []⟩ 8 (by kernel_rfl) (by kernel_rfl) (by kernel_rfl) (by kernel_rfl)) ?_
  intro W base args ds gs before hval0 hW hcnd _
  have hval : ∀ (j : Nat) t v, Try.f7.params[j]? = some t → args[j]? = some v → Value.okWide Try.prog W .any base t v := hval0
  have hW' := hW
  obtain ⟨p, q, hA0, hV, rfl, hfz, hnd⟩ := hW
  have hA : DataW.TrodAll enc Try.prog W 0 (fun _ => true) true Try.f7.params.toList args.toList ds p := hA0
  rw [Try.params7] at hA hval
  obtain ⟨v0, vs0, d0, ds0, p0, q0, hargs, rfl, rfl, h0, r0⟩ := trodAll_cons hA
  obtain ⟨v1, vs1, d1, ds1, p1, q1, rfl, rfl, rfl, h1, r1⟩ := trodAll_cons r0
  obtain ⟨v2, vs2, d2, ds2, p2, q2, rfl, rfl, rfl, h2, r2⟩ := trodAll_cons r1
  obtain ⟨rfl, rfl, rfl⟩ := trodAll_nil r2
  obtain rfl : args = #[v0, v1, v2] := by cases args; simp_all
  obtain ⟨rfl, rfl⟩ := trodVars_none hV
  have k0 := h0
  have lt0 := places_lt k0
  have k1 := h1
  have lt1 := places_lt k1
  have k2 := h2
  have lt2 := places_lt k2
  obtain ⟨m0, A0, n0, c0, xs0, B0, l0, e0, ns0, rfl, ⟨hl0, hn0, hx0⟩, hly0, hnl0, hy0⟩ := open_live (hval 0 47 v0 rfl rfl) h0
  obtain ⟨z1, rfl⟩ := okWide_int Try.underlying3 (hval 1 3 v1 rfl rfl)
  obtain ⟨z2, rfl⟩ := okWide_int Try.underlying3 (hval 2 3 v2 rfl rfl)
  clear hA0 hval0
  refine (exactLiveNear_walk m0 A0 n0 c0 xs0 B0 l0 e0 ns0 z1 z2 W hn0 hl0 hx0 hnl0 hly0 hy0).mono fun e W' ⟨he, bel⟩ => ?_
  subst he
  exact ⟨_, rfl, _, _, _, [], _, [], hW', trodAll_mk1 (shut_bool Try.underlying4 _), (trodAll_cons_mk (Below.trod laidOut (by kernel_rfl) (of_decide_eq_true (by kernel_rfl)) k0 bel lt0) (trodAll_cons_mk (Below.trod laidOut (by kernel_rfl) (of_decide_eq_true (by kernel_rfl)) k1 bel lt1) (trodAll_cons_mk (Below.trod laidOut (by kernel_rfl) (of_decide_eq_true (by kernel_rfl)) k2 bel lt2) trodAll_mk0))), rfl, bel.frame _, fun h => by cases h⟩

/-- The given statement. -/
theorem exactLiveNear_proved : Rows.FnExactLiveNearSaid :=
  OpenClaim.holds_of_wide 7 Try.f7 rfl rfl rfl rfl rfl rfl rfl ⟨rfl, rfl, rfl, rfl, rfl⟩ rfl rfl rfl rfl rfl (by kernel_rfl) Try.func7 (by kernel_rfl)
    (of_decide_eq_true (by kernel_rfl)) (by unfold Func.isWrapper; first | (rw [if_pos (by decide +kernel)]; kernel_rfl) | (rw [if_neg (by decide +kernel)]; exact ⟨rfl, rfl⟩))
    (fun os started H enc _ => exactLiveNear_lifted os started H enc)

end Go.Proofs.Ytaojognjkiifmab
