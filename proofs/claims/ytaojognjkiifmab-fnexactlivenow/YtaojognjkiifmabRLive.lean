/-
  A net with news as it lies in memory: its size, its copy, its comparison; as it comes in. No condition.
-/
import Derived.Test.YtaojognjkiifmabTo
import Derived.Test.YtaojognjkiifmabSame
import Derived.Test.YtaojognjkiifmabOpen
import Derived.Test.YtaojognjkiifmabRNewsL
namespace Go.Proofs.Ytaojognjkiifmab
open Go.RowKit

theorem MadeNews.farL {w : World} {g t n k : Nat} {xs : List NewsD} (h : MadeNews w g t n xs k) (p : Addr) (u : Value) (hp : g ≠ p.block) : MadeNews (w.setCell p u) g t n xs k :=
  ⟨h.1.set _ _, fun j a hj ha => (h.2 j a hj ha).far p u hp⟩
/-- What room is left behind a net with news. -/
def roomLive (left : Int) (n l : Nat) : Int := if (n : Int) ≤ left then roomLeft (left - n) l else -1
theorem szLive_any (m : Int) (A : Option Addr) (n c : Nat) (B : Option Addr) (l cb : Nat) (left : Int) (w : World) (h0 : 0 ≤ left) (h1 : left ≤ 1048576) (hn : n ≤ maxLen) (hl : l ≤ maxLen) :
    Calls Try.prog 27 #[.agg #[.int .i64 m, .slice A n c, .slice B l cb], .int .i64 left] w fun e w' => e = .returned (.int .i64 (roomLive left n l)) ∧ Below w.heap.size w w' := by
  have hb0 : Past w (w.alloc (.cells #[.int .i64 m, .slice A n c, .slice B l cb] 47)) := (Past.refl _).alloc _
  go_enter Try.func27, Try.ntmps27
  go_wp2_with fail
  refine (szNet_any m A n c left _ h0 h1 hn).mono ?_
  rintro e w1 ⟨rfl, hb1⟩
  have b2 := cell_in (p := ⟨w.heap.size, 2, none⟩) (v := .slice B l cb) hb1 (by go_simp)
  have hp1 := hb0.trans hb1
  by_cases hnl : (n : Int) ≤ left
  rotate_left
  · have hr : roomLeft left n = -1 := by unfold roomLeft; rw [if_pos (by omega)]
    have hv : roomLive left n l = -1 := by unfold roomLive; rw [if_neg hnl]
    rw [hr]
    go_wp2
    go_ret
    exact ⟨ret_int (by rw [hv]), hp1⟩
  have hr : roomLeft left n = left - n := by unfold roomLeft; rw [if_neg (by omega)]
  have hv : roomLive left n l = roomLeft (left - n) l := by unfold roomLive; rw [if_pos hnl]
  have HVV := Lib.hid hv
  rw [hr]
  have g0 : ¬ (left - (n : Int) < 0) := by omega
  clear hr hv
  go_wp2_with fail
  refine (szNewsS_any B l cb (left - n) _ (by omega) (by omega) hl).mono ?_
  rintro e w2 ⟨rfl, rfl⟩
  by_cases hll : (l : Int) ≤ left - n
  · have hr : roomLeft (left - n) l = left - n - l := by unfold roomLeft; rw [if_neg (by omega)]
    rw [hr]
    have g1 : ¬ (left - (n : Int) - (l : Int) < 0) := by omega
    have HR2 := Lib.hid hr
    clear hr
    go_wp2
    go_ret
    exact ⟨ret_int (by rw [HVV.out]; unfold roomLeft; rw [if_neg (by omega)]), hp1⟩
  · have hr : roomLeft (left - n) l = -1 := by unfold roomLeft; rw [if_pos (by omega)]
    have HR2 := Lib.hid hr
    rw [hr]
    clear hr
    go_wp2
    go_ret
    exact ⟨ret_int (by rw [HVV.out, HR2.out]), hp1⟩

/-- A net with news in new memory of the call's own is handed back. -/
def LiveNew (w : World) (m : Int) (n : Nat) (xs : List ArcD) (l : Nat) (ns : List NewsD) (e : Ending) (w' : World) : Prop :=
  ∃ g h, e = .returned (.agg #[.int .i64 m, .slice (some ⟨g, 0, none⟩) n n, .slice (some ⟨h, 0, none⟩) l l]) ∧ Below w.heap.size w w' ∧ w.heap.size ≤ g ∧ Made w' g 34 n xs n ∧ g < h ∧ MadeNews w' h 64 l ns l

set_option maxRecDepth 100000 in
set_option maxHeartbeats 1000000 in
theorem toLive_any (m : Int) (A : Option Addr) (n c : Nat) (xs : List ArcD) (B : Option Addr) (l cb : Nat) (ns : List NewsD) (w : World) (hn : n ≤ 1048576) (hnx : xs.length = n) (hx : ArcsAt w A xs) (hl : l ≤ 1048576) (hly : ns.length = l) (hy : NewssAt w B ns) :
    Calls Try.prog 29 #[.agg #[.int .i64 m, .slice A n c, .slice B l cb]] w (LiveNew w m n xs l ns) := by
  have HX := Lib.hid hnx
  have HY := Lib.hid hly
  clear hnx hly
  obtain ⟨V, hV⟩ : ∃ V, V = ((w.alloc (.cells #[.int .i64 m, .slice A n c, .slice B l cb] 47)).alloc (.cells #[.int .i64 0, .slice none 0 0, .slice none 0 0] 52)).alloc (.cells #[.int .i64 0, .slice none 0 0, .slice none 0 0] 52) := ⟨_, rfl⟩
  have hpV : Past w V := by rw [hV]; exact (((Past.refl _).alloc _).alloc _).alloc _
  have b0 : V.cell? ⟨w.heap.size, 0, none⟩ = some (.int .i64 m) := by rw [hV]; go_simp
  have b1 : V.cell? ⟨w.heap.size, 1, none⟩ = some (.slice A n c) := by rw [hV]; go_simp
  have b2 : V.cell? ⟨w.heap.size, 2, none⟩ = some (.slice B l cb) := by rw [hV]; go_simp
  have hsV : V.heap.size = w.heap.size + 1 + 1 + 1 := by rw [hV]; simp
  have r1 : RowN V (w.heap.size + 1) 52 3 := ⟨#[.int .i64 0, .slice none 0 0, .slice none 0 0], by
    have := heap_alloc_new (w.alloc (.cells #[.int .i64 m, .slice A n c, .slice B l cb] 47)) (.cells #[.int .i64 0, .slice none 0 0, .slice none 0 0] 52)
    rw [hV, Below.heap_alloc _ _ _ (by simp)]; simpa using this, rfl⟩
  have r2 : RowN V (w.heap.size + 1 + 1) 52 3 := ⟨#[.int .i64 0, .slice none 0 0, .slice none 0 0], by
    have := heap_alloc_new ((w.alloc (.cells #[.int .i64 m, .slice A n c, .slice B l cb] 47)).alloc (.cells #[.int .i64 0, .slice none 0 0, .slice none 0 0] 52)) (.cells #[.int .i64 0, .slice none 0 0, .slice none 0 0] 52)
    rw [hV]; simpa using this, rfl⟩
  have HV := Lib.hid hV
  clear hV
  go_enter Try.func29, Try.ntmps29
  go_wp2_with fail
  rw [← HV.out]
  clear HV
  refine (toNet_any m A n c xs _ hn HX.out (hx.below hpV)).mono ?_
  rintro e w1 ⟨g, rfl, hb1, hg, hm1⟩
  have b2 := cell_in hb1 b2
  have r1 := r1.keep (hb1.block _ r1.lt)
  have r2 := r2.keep (hb1.block _ r2.lt)
  have hy1 := (hy.below hpV).below hb1
  have hp1 := hpV.trans hb1
  obtain ⟨v0, e0⟩ := r2.cell (i := 0) (by omega)
  obtain ⟨v1, e1⟩ := r2.cell (i := 1) (by omega)
  have z0 := r2.frozen 0
  have z1 := r2.frozen 1
  have hs1 := hb1.size
  have hgl := hm1.1.lt
  have hm1 := (hm1.far ⟨w.heap.size + 1 + 1, 0, none⟩ (.int .i64 m) (by show g ≠ w.heap.size + 1 + 1; omega)).far ⟨w.heap.size + 1 + 1, 1, none⟩ (.slice (some ⟨g, 0, none⟩) n n) (by show g ≠ w.heap.size + 1 + 1; omega)
  have c0 : ((w1.setCell ⟨w.heap.size + 1 + 1, 0, none⟩ (.int .i64 m)).setCell ⟨w.heap.size + 1 + 1, 1, none⟩ (.slice (some ⟨g, 0, none⟩) n n)).cell? ⟨w.heap.size + 1 + 1, 0, none⟩ = some (.int .i64 m) := (World.cell?_setCell_other _ _ _ _ (by simp)).trans (World.cell?_setCell_same _ _ _ e0)
  have c1 : ((w1.setCell ⟨w.heap.size + 1 + 1, 0, none⟩ (.int .i64 m)).setCell ⟨w.heap.size + 1 + 1, 1, none⟩ (.slice (some ⟨g, 0, none⟩) n n)).cell? ⟨w.heap.size + 1 + 1, 1, none⟩ = some (.slice (some ⟨g, 0, none⟩) n n) := World.cell?_setCell_same _ _ _ ((World.cell?_setCell_other _ _ _ _ (by simp)).trans e1)
  have d2 : ((w1.setCell ⟨w.heap.size + 1 + 1, 0, none⟩ (.int .i64 m)).setCell ⟨w.heap.size + 1 + 1, 1, none⟩ (.slice (some ⟨g, 0, none⟩) n n)).cell? ⟨w.heap.size, 2, none⟩ = some (.slice B l cb) := ((World.cell?_setCell_other _ _ _ _ (by simp)).trans (World.cell?_setCell_other _ _ _ _ (by simp))).trans b2
  have r1 := (r1.set ⟨w.heap.size + 1 + 1, 0, none⟩ (.int .i64 m)).set ⟨w.heap.size + 1 + 1, 1, none⟩ (.slice (some ⟨g, 0, none⟩) n n)
  have r2 := (r2.set ⟨w.heap.size + 1 + 1, 0, none⟩ (.int .i64 m)).set ⟨w.heap.size + 1 + 1, 1, none⟩ (.slice (some ⟨g, 0, none⟩) n n)
  have hp2 : Past w ((w1.setCell ⟨w.heap.size + 1 + 1, 0, none⟩ (.int .i64 m)).setCell ⟨w.heap.size + 1 + 1, 1, none⟩ (.slice (some ⟨g, 0, none⟩) n n)) := Below.setCell (Below.setCell hp1 (by show w.heap.size ≤ w.heap.size + 1 + 1; omega) _) (by show w.heap.size ≤ w.heap.size + 1 + 1; omega) _
  have hyo : NewssAt ((w1.setCell ⟨w.heap.size + 1 + 1, 0, none⟩ (.int .i64 m)).setCell ⟨w.heap.size + 1 + 1, 1, none⟩ (.slice (some ⟨g, 0, none⟩) n n)) B ns := hy.below hp2
  have HM := Lib.hid hm1
  have C0 := Lib.hid c0
  have C1 := Lib.hid c1
  have D2 := Lib.hid d2
  have R1 := Lib.hid r1
  have R2 := Lib.hid r2
  have P2 := Lib.hid hp2
  have HYO := Lib.hid hyo
  clear hm1 c0 c1 d2 r1 r2 hp2 hyo hy1 hb1
  obtain ⟨W2, hW2⟩ : ∃ W2, W2 = ((w1.setCell ⟨w.heap.size + 1 + 1, 0, none⟩ (.int .i64 m)).setCell ⟨w.heap.size + 1 + 1, 1, none⟩ (.slice (some ⟨g, 0, none⟩) n n)) := ⟨_, rfl⟩
  go_wp2_with fail
  have hsW2 : W2.heap.size = w1.heap.size := by rw [hW2]; simp
  rw [← hW2] at HM C0 C1 D2 R1 R2 P2 HYO ⊢
  clear hW2
  refine (toNewsS_any B l cb ns _ hl HY.out HYO.out).mono ?_
  rintro e w3 ⟨h3, rfl, hb3, hh3, hm3⟩
  have r1 := R1.out.keep (hb3.block _ R1.out.lt)
  have r2 := R2.out.keep (hb3.block _ R2.out.lt)
  have c0 := cell_in hb3 C0.out
  have c1 := cell_in hb3 C1.out
  obtain ⟨v2, e2⟩ := r2.cell (i := 2) (by omega)
  have z2 := r2.frozen 2
  obtain ⟨u0, f0⟩ := r1.cell (i := 0) (by omega)
  obtain ⟨u1, f1⟩ := r1.cell (i := 1) (by omega)
  obtain ⟨u2, f2⟩ := r1.cell (i := 2) (by omega)
  have y0 := r1.frozen 0
  have y1 := r1.frozen 1
  have y2 := r1.frozen 2
  have hmg := HM.out.below hb3
  have hp3 := P2.out.trans hb3
  have hgh : g < W2.heap.size := HM.out.1.lt
  have hsz2 : w.heap.size + 1 + 1 < W2.heap.size := R2.out.lt
  clear R1 R2 C0 C1 D2 HM P2 HYO hb3 r1 r2
  go_wp2
  refine bodyPost_ret (v := .agg #[.int .i64 m, .slice (some ⟨g, 0, none⟩) n n, .slice (some ⟨h3, 0, none⟩) l l]) (by simp [results, Try.results29, go_sem, f0, f1, f2]) rfl
    ⟨g, h3, rfl, (((hp3.setCell (by show w.heap.size ≤ w.heap.size + 1 + 1; omega) _).setCell (by show w.heap.size ≤ w.heap.size + 1; omega) _).setCell (by show w.heap.size ≤ w.heap.size + 1; omega) _).setCell (by show w.heap.size ≤ w.heap.size + 1; omega) _, by omega, ?_, by omega, ?_⟩
  · exact (((hmg.far _ _ (by show g ≠ w.heap.size + 1 + 1; omega)).far _ _ (by show g ≠ w.heap.size + 1; omega)).far _ _ (by show g ≠ w.heap.size + 1; omega)).far _ _ (by show g ≠ w.heap.size + 1; omega)
  · exact (((hm3.farL _ _ (by show h3 ≠ w.heap.size + 1 + 1; omega)).farL _ _ (by show h3 ≠ w.heap.size + 1; omega)).farL _ _ (by show h3 ≠ w.heap.size + 1; omega)).farL _ _ (by show h3 ≠ w.heap.size + 1; omega)

theorem eqLive_same (m : Int) (A A' : Option Addr) (n c c' : Nat) (xs : List ArcD) (B B' : Option Addr) (l cb cb' : Nat) (ns : List NewsD) (w : World) (hn : n ≤ 1048576) (hnx : xs.length = n) (hx : ArcsAt w A xs) (hx' : ArcsAt w A' xs) (hl : l ≤ 1048576) (hly : ns.length = l) (hy : NewssAt w B ns) (hy' : NewssAt w B' ns) :
    Calls Try.prog 31 #[.agg #[.int .i64 m, .slice A n c, .slice B l cb], .agg #[.int .i64 m, .slice A' n c', .slice B' l cb']] w fun e w' => e = .returned (.bool true) ∧ Below w.heap.size w w' := by
  have HX := Lib.hid hnx
  have HY := Lib.hid hly
  clear hnx hly
  have hb0 : Past w ((w.alloc (.cells #[.int .i64 m, .slice A n c, .slice B l cb] 52)).alloc (.cells #[.int .i64 m, .slice A' n c', .slice B' l cb'] 52)) := ((Past.refl _).alloc _).alloc _
  go_enter Try.func31, Try.ntmps31
  go_wp2_with fail
  refine (eqNet_same m A A' n c c' xs _ hn HX.out (hx.below hb0) (hx'.below hb0)).mono ?_
  rintro e w1 ⟨rfl, hb1⟩
  have b2 := cell_in (p := ⟨w.heap.size, 2, none⟩) (v := .slice B l cb) hb1 (by go_simp)
  have d2 := cell_in (p := ⟨w.heap.size + 1, 2, none⟩) (v := .slice B' l cb') hb1 (by go_simp)
  have hp1 := hb0.trans hb1
  clear hb0 hb1
  go_wp2_with fail
  refine (eqNewsS_same B B' l cb cb' ns _ hl HY.out (hy.below hp1) (hy'.below hp1)).mono ?_
  rintro e w2 ⟨rfl, hb2⟩
  go_wp2
  go_ret
  exact ⟨rfl, hp1.trans hb2⟩

open Go.ChangeShapes Go.WideShapes Go.ChangeAt Go.Deep Go.Joins in
set_option maxRecDepth 100000 in
/-- A net with news that comes in. -/
theorem open_live {H : Type} {enc : TypeId × Value → H} {W : World} {r : Reach} {b0 : Nat} {v : Value} {d : DataW H} {p : List MemPlace} (hv : Value.okWide Try.prog W r b0 47 v)
    (h : DataW.Trod enc Try.prog W 0 (fun _ => true) true 47 v d p) :
    ∃ (m : Int) (A : Option Addr) (n c : Nat) (xs : List ArcD) (B : Option Addr) (l cb : Nat) (ns : List NewsD), v = .agg #[.int .i64 m, .slice A n c, .slice B l cb] ∧ (xs.length = n ∧ n ≤ maxLen ∧ ArcsAt W A xs) ∧ ns.length = l ∧ l ≤ maxLen ∧ NewssAt W B ns := by
  obtain ⟨cs, rfl, hsz⟩ := okWide_struct Try.underlying47 hv
  obtain ⟨c0, c1, c2, rfl⟩ := array3 (hsz.trans (show Try.prog.cellsOf 47 = 3 by kernel_rfl))
  obtain ⟨fuel, hf⟩ := h
  obtain ⟨y0, y1, n, hx, _, h0, h1⟩ := trod_struct2 Try.underlying47 hf
  have hN : Try.prog.cellsOf 44 = 2 := by kernel_rfl
  have hS : Try.prog.cellsOf 45 = 1 := by kernel_rfl
  have hI : Try.prog.cellsOf 3 = 1 := by kernel_rfl
  have hA : Try.prog.cellsOf 42 = 1 := by kernel_rfl
  have k0 : DataW.trod enc Try.prog W 0 (fun _ => true) true n 44 [c0, c1] = some y0 := by simpa [Value.cells, hN] using h0
  have k1 : DataW.trod enc Try.prog W 0 (fun _ => true) true n 45 [c2] = some y1 := by simpa [Value.cells, hS] using h1
  obtain ⟨u0, u1, n2, _, _, q0, q1⟩ := trod_struct2 Try.underlying44 k0
  have q0' : DataW.trod enc Try.prog W 0 (fun _ => true) true n2 3 [c0] = some u0 := by simpa [hI] using q0
  have q1' : DataW.trod enc Try.prog W 0 (fun _ => true) true n2 42 [c1] = some u1 := by simpa [hA] using q1
  obtain ⟨m, e0, _, _⟩ := DataW.trod_int Try.underlying3 q0'
  injection e0 with e0
  subst e0
  obtain ⟨A, n', c, xs, rfl, hl, hn, hx⟩ := open_arcs q1'
  obtain ⟨B, l, cb, ns, rfl, hl2, hn2, hx2⟩ := open_newss k1
  exact ⟨m, A, n', c, xs, B, l, cb, ns, rfl, ⟨hl, hn, hx⟩, hl2, hn2, hx2⟩

end Go.Proofs.Ytaojognjkiifmab
