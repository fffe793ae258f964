/-
  The arcs over which so much may go, as the specification goes: spec.l18For, spec.LoadNet. No condition.
-/
import Derived.Deep.RegionLaw
import Derived.Test.YtaojognjkiifmabPLoad
import Derived.Test.YtaojognjkiifmabNSt
import Derived.Test.YtaojognjkiifmabBack
import Derived.Test.YtaojognjkiifmabIn
import Derived.Test.YtaojognjkiifmabOwnL
namespace Go.Proofs.Ytaojognjkiifmab
open Go.RowKit

/-- The net of the arcs over which so much may go. -/
def lnetB (m : Int) (xs : List ArcD) (load : Int) : Bool := netB m xs && inB load 0 9
def lnetN (m : Int) (xs : List ArcD) (load : Int) : Int := if lnetB m xs load then m else 0
def lnetL (m : Int) (xs : List ArcD) (load : Int) : List ArcD := if lnetB m xs load then forL xs load else []
theorem lnet_no {m : Int} {xs : List ArcD} {load : Int} (h : lnetB m xs load = false) : lnetN m xs load = 0 ∧ lnetL m xs load = [] := by simp [lnetN, lnetL, h]
theorem lnet_yes {m : Int} {xs : List ArcD} {load : Int} (h : lnetB m xs load = true) : lnetN m xs load = m ∧ lnetL m xs load = forL xs load := by simp [lnetN, lnetL, h]
theorem lnetL_len (m : Int) (xs : List ArcD) (load : Int) : (lnetL m xs load).length ≤ 16 := by
  cases h : lnetB m xs load with
  | false => rw [(lnet_no h).2]; simp
  | true =>
    rw [(lnet_yes h).2]
    simp only [lnetB, Bool.and_eq_true] at h
    exact Nat.le_trans (forL_len _ _) ((netB_iff _ _).1 h.1).2.1
theorem givesNet_no {w w' : World} {m : Int} {xs : List ArcD} {load : Int} {e : Ending} (h : lnetB m xs load = false) (he : e = .returned (.agg #[.int .i64 0, .slice none 0 0])) (hb : Below w.heap.size w w') : GivesNet w (lnetN m xs load) (lnetL m xs load) e w' := by
  obtain ⟨h1, h2⟩ := lnet_no h
  refine ⟨none, 0, by rw [h2, h1]; exact he, by rw [h2]; exact fun k a hk => by simp at hk, by rw [h2]; exact .inl ⟨rfl, rfl⟩, hb⟩

set_option maxRecDepth 100000 in
set_option maxHeartbeats 2000000 in
theorem l18For_any (m : Int) (A : Option Addr) (n c : Nat) (xs : List ArcD) (load : Int) (w : World) (hn : n ≤ 16) (hl : xs.length = n) (hx : ArcsAt w A xs) :
    Calls Try.prog 65 #[.agg #[.int .i64 m, .slice A n c], .int .i64 load] w (GivesNet w m (forL xs load)) := by
  have HL := Lib.hid hl
  clear hl
  obtain ⟨i0, hi, hz0, hz1, hz2⟩ := info_parts infoArc
  have hb0 : Past w (w.alloc (.cells #[.int .i64 m, .slice A n c] 25)) := (Past.refl _).alloc _
  have e0 : ((w.alloc (.cells #[.int .i64 m, .slice A n c] 25)).alloc (.cells #[.int .i64 0, .slice none 0 0] 25)).cell? ⟨w.heap.size + 1, 0, none⟩ = some (.int .i64 0) := by go_simp
  obtain ⟨V, hV⟩ : ∃ V, V = (w.alloc (.cells #[.int .i64 m, .slice A n c] 25)).alloc (.cells #[.int .i64 0, .slice none 0 0] 25) := ⟨_, rfl⟩
  have hpV : Past w V := by rw [hV]; exact ((Past.refl _).alloc _).alloc _
  have b0 : V.cell? ⟨w.heap.size, 0, none⟩ = some (.int .i64 m) := by rw [hV]; go_simp
  have b1 : V.cell? ⟨w.heap.size, 1, none⟩ = some (.slice A n c) := by rw [hV]; go_simp
  have rV : RowN V (w.heap.size + 1) 25 2 := ⟨#[.int .i64 0, .slice none 0 0], by have := heap_alloc_new (w.alloc (.cells #[.int .i64 m, .slice A n c] 25)) (.cells #[.int .i64 0, .slice none 0 0] 25); rw [hV]; simpa using this, rfl⟩
  have hsV : V.heap.size = w.heap.size + 1 + 1 := by rw [hV]; simp
  have HV := Lib.hid hV
  clear e0 hV
  go_enter Try.func65, Try.ntmps65
  go_wp2_with fail
  rw [← HV.out]
  clear HV
  have hst0 := NSt.start V m (w.heap.size + 1 + 1 + 1)
  rw [hsV] at hst0
  go_wp2
  go_loopw [6] (fun q wr => ∃ (k : Nat) (v : Value), k ≤ n ∧ q = .int .i64 k ∧ NSt (w.heap.size + 1 + 1) (w.heap.size + 1 + 1 + 1) V wr m v (forL (xs.take k) load)) (fun q _ => n - (intOf q).toNat)
  case atStart => exact ⟨0, _, by omega, rfl, by simpa [forL] using hst0⟩
  case round =>
    obtain ⟨k, v, hk, rfl, hS⟩ := hrel
    have b0 := cell_in hS.past b0
    have b1 := cell_in hS.past b1
    have hxr := (hx.below hpV).below hS.past
    have hXr : w.heap.size + 1 + 1 < wr.heap.size := hS.row.lt
    by_cases hlt : k < n
    · obtain ⟨⟨f, t, c', l, d⟩, ha⟩ : ∃ a, xs[k]? = some a := ⟨_, List.getElem?_eq_getElem (by have := HL.out; omega)⟩
      obtain ⟨g, o, rfl, c0, c1, c2, c3, c4⟩ := hxr k _ ha
      simp only at c0 c1 c2 c3 c4
      have k0 : (0 : Int) ≤ (k : Int) := by omega
      have k1 : (k : Int) < (n : Int) := by omega
      by_cases hd : load ≤ d
      rotate_left
      · have HF := Lib.hid (forL_miss ha hd)
        clear ha
        go_wp2
        go_roundw
        case rel => exact ⟨k + 1, v, by omega, by go_num, by rw [HF.out]; exact hS⟩
        case measure => simp [intOf]; omega
      have HF := Lib.hid (forL_hit ha hd)
      have hlen : (forL (xs.take k) load).length ≤ 16 := Nat.le_trans (forL_len _ _) (by rw [List.length_take]; omega)
      obtain ⟨L, hLL⟩ : ∃ L, L = forL (xs.take k) load := ⟨_, rfl⟩
      rw [← hLL] at hS hlen HF
      obtain ⟨N, hN⟩ : ∃ N, N = L.length := ⟨_, rfl⟩
      have hv : wr.ownsRow (w.heap.size + 1 + 1 + 1) 34 5 v N (cellsOf L) := by rw [hN]; exact hS.own
      have o1 := hS.o1
      rw [← hN] at hlen
      have HN := Lib.hid hN
      have HS := Lib.hid hS
      have hnews : ∀ j u, ([.int .i64 f, .int .i64 t, .int .i64 c', .int .i64 l, .int .i64 d] : List Value)[j]? = some u → (wr.drew.alloc (.cells #[.int .i64 f, .int .i64 t, .int .i64 c', .int .i64 l, .int .i64 d] 34)).cell? ((⟨wr.heap.size, 0, none⟩ : Addr).add j) = some u := five_new wr.drew _ _ _ _ _ _
      have hownA : (wr.drew.alloc (.cells #[.int .i64 f, .int .i64 t, .int .i64 c', .int .i64 l, .int .i64 d] 34)).ownsRow (w.heap.size + 1 + 1 + 1) 34 5 v N (cellsOf L) := World.ownsRow.alloc (w := wr.drew) hv _
      have o1A : (wr.alloc (.cells #[.int .i64 f, .int .i64 t, .int .i64 c', .int .i64 l, .int .i64 d] 34)).cell? ⟨w.heap.size + 1 + 1, 1, none⟩ = some v := cell_in (W := wr) ((Past.refl wr).alloc _) o1
      have HNW := Lib.hid hnews
      have HOA := Lib.hid hownA
      clear ha hN hLL hS hv hnews hownA
      go_wp2_with fail
      go_region_law
        ((refine step_append_any (by rfl) _ _ _ (by rfl) (w.heap.size + 1 + 1 + 1) 34 i0 _ 5 40 Try.underlying23 hi hz0 hz1 hz2 rfl (by omega) v N (cellsOf L) (by rfl) HOA.out ⟨wr.heap.size, 0, none⟩ 1 1 (by rfl) [.int .i64 f, .int .i64 t, .int .i64 c', .int .i64 l, .int .i64 d] rfl HNW.out (cellsOf_one [⟨f, t, c', l, d⟩]) (by unfold maxLen; omega) (by omega) (by simp; omega) ?_; intro v1 w9 hown1 hgrow1 hat1; obtain ⟨gv, cv, rfl, hgv, hgw⟩ := World.ownsRow.form hown1 (by omega); obtain ⟨⟨u9, x9⟩, z9, hS9⟩ := HS.out.put (a := ⟨f, t, c', l, d⟩) (by omega) (Nat.lt_succ_self _) (((Past.refl wr).drew).alloc _) hgrow1 hown1 (by rw [HN.out]) rfl))
      all_goals go_wp2
      all_goals go_roundw
      all_goals first | (case rel => exact ⟨k + 1, _, by omega, by go_num, by rw [HF.out]; exact hS9⟩) | (case measure => simp [intOf]; omega)
    · obtain rfl : n = k := by omega
      rw [List.take_of_length_le (by rw [HL.out]; exact Nat.le_refl _)] at hS
      obtain ⟨A', c', rfl, hx', ho'⟩ := hS.res.form
      have o0 := hS.o0
      have o1 := hS.o1
      have r1 := rV.keep (hS.past.block _ rV.lt)
      obtain ⟨q0, e0⟩ := r1.cell (i := 0) (by omega)
      obtain ⟨q1, e1⟩ := r1.cell (i := 1) (by omega)
      have z0 := r1.frozen 0
      have z1 := r1.frozen 1
      have hne : blk A' ≠ some (w.heap.size + 1) := ho'.ne_blk (by omega)
      have hpr := hpV.trans hS.past
      obtain ⟨L, hLL⟩ : ∃ L, L = forL xs load := ⟨_, rfl⟩
      rw [← hLL] at hx' ho' o1
      have HLL := Lib.hid hLL
      obtain ⟨N, hN⟩ : ∃ N, N = L.length := ⟨_, rfl⟩
      rw [← hN] at ho' o1
      have HN := Lib.hid hN
      clear hN hLL hS
      go_wp2
      exact bodyPost_ret (v := .agg #[.int .i64 m, .slice A' N c']) (by simp [results, Try.results65, go_sem, e0, e1]) rfl
        ⟨A', c', by rw [← HLL.out, ← HN.out], by rw [← HLL.out]; exact (hx'.far _ _ hne).far _ _ hne, by rw [← HLL.out, ← HN.out]; exact ((ho'.lower (by omega)).far _ _).far _ _, Below.setCell (Below.setCell hpr (by simp) _) (by simp) _⟩

end Go.Proofs.Ytaojognjkiifmab
