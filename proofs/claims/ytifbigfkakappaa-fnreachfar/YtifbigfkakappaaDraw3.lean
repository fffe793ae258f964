/-
  l30Net: a net in new memory, with 13 arcs at most.
-/
import Derived.Test.YtifbigfkakappaaOrdInv
import Derived.Test.YtifbigfkakappaaOwnL
namespace Go.Proofs.Ytifbigfkakappaa
open Go.RowKit

/-- How many draws of an arc are to come. -/
def rem6 (d : Nat → Bool) : Nat := (if d 3 then 0 else 1) + (if d 7 then 0 else 1) + (if d 10 then 0 else 1) + (if d 12 then 0 else 1) + (if d 15 then 0 else 1) + (if d 17 then 0 else 1)
theorem rem6_3 {d : Nat → Bool} (h : d 3 = false) : rem6 d = rem6 (upd d 3) + 1 := by simp [rem6, upd, h] <;> omega
theorem rem6_7 {d : Nat → Bool} (h : d 7 = false) : rem6 d = rem6 (upd d 7) + 1 := by simp [rem6, upd, h] <;> omega
theorem rem6_10 {d : Nat → Bool} (h : d 10 = false) : rem6 d = rem6 (upd d 10) + 1 := by simp [rem6, upd, h] <;> omega
theorem rem6_12 {d : Nat → Bool} (h : d 12 = false) : rem6 d = rem6 (upd d 12) + 1 := by simp [rem6, upd, h] <;> omega
theorem rem6_15 {d : Nat → Bool} (h : d 15 = false) : rem6 d = rem6 (upd d 15) + 1 := by simp [rem6, upd, h] <;> omega
theorem rem6_17 {d : Nat → Bool} (h : d 17 = false) : rem6 d = rem6 (upd d 17) + 1 := by simp [rem6, upd, h] <;> omega

/-- What the slots hold that an arc's draws go through. -/
structure ArcF (R NB : Nat) (N : Value) (L : List (Nat × List Int)) (M : List Nat) (d : Nat → Bool) (x5 x16 x17 x18 x19 x20 x21 x22 x23 x24 x25 x26 x27 x28 x29 x30 x31 x32 x33 x34 : Value) : Prop where
  f0 : d 0 = true → x16 = .pointer (some ⟨R, 0, none⟩)
  f1 : d 1 = true → x17 = .pointer (some ⟨NB, 0, none⟩)
  f2 : d 2 = true → x18 = N
  f3 : d 3 = true → ∃ k : Int, x19 = .int .i64 k
  f4 : d 4 = true → x20 = .pointer (some ⟨R, 0, none⟩)
  f5 : d 5 = true → x21 = .pointer (some ⟨NB, 0, none⟩)
  f6 : d 6 = true → x22 = N
  f7 : d 7 = true → ∃ k : Int, x23 = .int .i64 k ∧ 0 ≤ k ∧ k ≤ 100
  f8 : d 8 = true → x24 = .pointer (some ⟨R, 0, none⟩)
  f9 : d 9 = true → x25 = .pointer (some ⟨R, 0, none⟩)
  f10 : d 10 = true → ∃ k : Int, x26 = .int .i64 k
  f11 : d 11 = true → ∃ (b : Nat) (y : Int), x27 = .slice (some ⟨b, 0, none⟩) 6 6 ∧ (b, [0, 1, 2, 5, 9, y]) ∈ L
  f12 : d 12 = true → ∃ k : Int, x28 = .int .i64 k
  f13 : d 13 = true → x29 = .pointer (some ⟨R, 0, none⟩)
  f14 : d 14 = true → ∃ b : Nat, x30 = .slice (some ⟨b, 0, none⟩) 4 4 ∧ (b, [0, 0, 3, 8]) ∈ L
  f15 : d 15 = true → ∃ k : Int, x31 = .int .i64 k
  f16 : d 16 = true → x32 = .pointer (some ⟨R, 0, none⟩)
  f17 : d 17 = true → ∃ k : Int, x33 = .int .i64 k
  f18 : d 18 = true → ∃ k0 k1 k2 k3 k4 : Int, x34 = .agg #[.int .i64 k0, .int .i64 k1, .int .i64 k2, .int .i64 k3, .int .i64 k4] ∧ 0 ≤ k1 ∧ k1 ≤ 100
  f19 : d 19 = true → ∃ b M', M = b :: M' ∧ x5 = .pointer (some ⟨b, 0, none⟩)

theorem ArcF.more {R NB : Nat} {N : Value} {L : List (Nat × List Int)} {M : List Nat} {d : Nat → Bool} {x5 x16 x17 x18 x19 x20 x21 x22 x23 x24 x25 x26 x27 x28 x29 x30 x31 x32 x33 x34 : Value} (h : ArcF R NB N L M d x5 x16 x17 x18 x19 x20 x21 x22 x23 x24 x25 x26 x27 x28 x29 x30 x31 x32 x33 x34) (q : Nat × List Int) : ArcF R NB N (q :: L) M d x5 x16 x17 x18 x19 x20 x21 x22 x23 x24 x25 x26 x27 x28 x29 x30 x31 x32 x33 x34 :=
  { h with
    f11 := fun e => by obtain ⟨b, y, h1, h2⟩ := h.f11 e; exact ⟨b, y, h1, List.mem_cons_of_mem _ h2⟩
    f14 := fun e => by obtain ⟨b, h1, h2⟩ := h.f14 e; exact ⟨b, h1, List.mem_cons_of_mem _ h2⟩ }

def allUp (d : Nat → Bool) : Prop := ∀ i, i < 20 → d i = true

theorem Inv.lessF {w0 w : World} {R lo n c NB f f' : Nat} {A : Option Addr} {N : Value} {L : List (Nat × List Int)} {M : List Nat} (h : Inv w0 R lo A n c NB N f w L M) (hf : f' ≤ f) : Inv w0 R lo A n c NB N f' w L M :=
  ⟨h.rd.less hf, h.nb, h.nbl, h.nbR, h.rl, h.gr, h.known, h.arcs⟩

theorem allOn_all {md : Region.Mode} {d : Nat → Bool} {l : List Edge} (k : Nat) (h : AllOn md d l) (hc : ((List.range k).all fun i => l.any fun e => e.on == i && Region.binds md e) = true) : ∀ i, i < k → d i = true := fun i hi => by
  simp only [List.all_eq_true, List.mem_range, List.any_eq_true, Bool.and_eq_true, beq_iff_eq] at hc
  obtain ⟨e, he, rfl, hb⟩ := hc i hi
  exact allOn_iff.1 h e he hb

theorem RdF.own {w w' : World} {R lo n c f lo' e size k : Nat} {A : Option Addr} {v : Value} {xs : List Value} (h : RdF w R lo A n c f) (hg : w.grownBy w' v.ownBlock) (ho : w.ownsRow lo' e size v k xs) (hR : R < lo') : RdF w' R lo A n c f := by
  have hlo : lo ≤ R := by obtain ⟨p, _, hh⟩ := h; exact hh.lt
  cases hv : v.ownBlock with
  | none =>
    rw [hv] at hg
    have := h.at_
    exact h.far (g := w.heap.size) ⟨hg.os, hg.tape, hg.output, hg.size, fun i hi _ => hg.block i hi (by simp)⟩ (by omega) (by omega)
  | some g =>
    rw [hv] at hg
    have := (ho.lt g hv).1
    exact h.far hg (by omega) (by omega)

theorem grown_next {a b c : World} {row row' : Option Nat} (h : a.grownBy b row) (k : b.grownBy c row') (hr : ∀ j, row' = some j → a.heap.size ≤ j) : a.grownBy c row :=
  ⟨k.os.trans h.os, k.tape.trans h.tape, k.output.trans h.output, Nat.le_trans h.size k.size, fun i hi hne => (k.block i (Nat.lt_of_lt_of_le hi h.size) (fun e => by have := hr i e.symm; omega)).trans (h.block i hi hne)⟩

theorem NetAt.young {wr w' : World} {NB lo g : Nat} {N : Int} {v : Value} {xs : List ArcD} (h : NetAt wr NB lo N v xs) (hg : wr.grownBy w' (some g)) (h1 : NB ≠ g) (h2 : some g ≠ v.ownBlock) : NetAt w' NB lo N v xs :=
  ⟨cell_far hg h.nodes h1, cell_far hg h.slice h1, h.row.young hg h1, World.ownsRow.kept h.own hg (.inr fun e => h2 e.symm)⟩

/-- A net was drawn into new memory. -/
def NetGives (w : World) (R lo : Nat) (A : Option Addr) (n c f : Nat) (e : Ending) (w' : World) : Prop :=
  ∃ (m : Int) (B : Option Addr) (k cap : Nat) (xs : List ArcD), e = .returned (.agg #[.int .i64 m, .slice B k cap]) ∧ xs.length = k ∧ k ≤ 13 ∧ 2 ≤ m ∧ m ≤ 6 ∧ ArcsAt w' B xs ∧ OwnAt w' w.heap.size B 57 5 k ∧ RdF w' R lo A n c f ∧ w.grownBy w' (some R)

set_option linter.unusedSimpArgs false in
set_option maxRecDepth 100000 in
set_option maxHeartbeats 4000000 in
theorem l30Net_any (R lo : Nat) (A : Option Addr) (n c f : Nat) (w : World) (h : RdF w R lo A n c (f + 80)) :
    Calls Try.prog 45 #[.pointer (some ⟨R, 0, none⟩)] w (NetGives w R lo A n c f) := by
  have hRw := h.at_
  have hloR : lo ≤ R := by obtain ⟨p, _, hh⟩ := h; exact hh.lt
  obtain ⟨i0, hi, hz0, hz1, hz2⟩ := info_parts infoArc
  go_enter Try.func45, Try.ntmps45
  go_wp2_with fail
  refine (pickF _ (h.alloc _)).mono ?_
  rintro e w1 ⟨k1, rfl, k10, k11, hr1, hg1⟩
  have hk5 : k1 < 5 := by omega
  go_wp2_with fail
  refine (pickF _ (hr1.alloc _)).mono ?_
  rintro e w2 ⟨k2, rfl, k20, k21, hr2, hg2⟩
  obtain ⟨j2, rfl⟩ : ∃ j : Nat, k2 = j := ⟨k2.toNat, by omega⟩
  have hs1 : w.heap.size + 1 ≤ w1.heap.size := by have := hg1.size; simpa using this
  go_wp2
  go_loopw [4] (fun q wr => ∃ (j : Nat) (v : Value) (xs : List ArcD), j + xs.length ≤ 13 ∧ q = .int .i64 j ∧ RdF wr R lo A n c (f + 6 * j) ∧ NetAt wr w1.heap.size (w1.heap.size + 1) (2 + k1) v xs ∧ RowN wr w.heap.size 25 2 ∧ w.grownBy wr (some R)) (fun q _ => (intOf q).toNat)
  case atStart =>
    refine ⟨j2, _, [], by simp; omega, rfl, hr2.less (by omega), ⟨cell_far hg2 (p := ⟨w1.heap.size, 0, none⟩) (by go_simp) (by simp only [ne_eq]; omega), cell_far hg2 (p := ⟨w1.heap.size, 1, none⟩) (v := .slice none 0 0) (by go_simp) (by simp only [ne_eq]; omega), ?_, World.ownsRow_nil _ _ _ _⟩, ?_, ?_⟩
    · exact RowN.young ⟨_, heap_alloc_new w1 _, rfl⟩ hg2 (by omega)
    · have r0 : RowN w1 w.heap.size 25 2 := RowN.young ⟨_, heap_alloc_new w _, rfl⟩ hg1 (by omega)
      exact (r0.keep (Below.heap_alloc w1 _ _ r0.lt)).young hg2 (by omega)
    · exact grown_trans (grown_trans (World.grownBy_alloc w _ _) hg1) (grown_trans (World.grownBy_alloc w1 _ _) hg2)
  case round =>
    obtain ⟨j, v, xs, hjk, rfl, hrd, hnet, hrow, hgr⟩ := hrel
    have hneR : w1.heap.size ≠ R := by omega
    by_cases hj : 0 < j
    · obtain ⟨j', rfl⟩ : ∃ j', j = j' + 1 := ⟨j - 1, by omega⟩
      have hinv : Inv wr R lo A n c w1.heap.size (.int .i64 (2 + k1)) (f + 6 * j' + 6) wr [] [] := Inv.start (hrd.less (by omega)) hnet.nodes hneR
      have hNB : w1.heap.size < wr.heap.size := lt_of_cell hnet.nodes
      go_upto_region 5 with (fail)
      go_cut [5] (ArcCut wr R lo A n c (f + 6 * j'))
      case first =>
        clear hrd hnet hrow hgr h hr1 hr2 hg1 hg2 hi hz0 hz1 hz2
        refine region_inv (by kernel_rfl) (by kernel_rfl) (fun d a wx => ∃ (L : List (Nat × List Int)) (M : List Nat) (x5 x16 x17 x18 x19 x20 x21 x22 x23 x24 x25 x26 x27 x28 x29 x30 x31 x32 x33 x34 : Value), a = { tmps := List.toArray ((.pointer (some ⟨R, 0, none⟩) : Value) :: (undef : Value) :: (.pointer (some ⟨w.heap.size, 0, none⟩) : Value) :: (.pointer (some ⟨w1.heap.size, 0, none⟩) : Value) :: (.int .i64 ((j' + 1 : Nat) : Int) : Value) :: (x5 : Value) :: (.pointer (some ⟨R, 0, none⟩) : Value) :: (.int .i64 k1 : Value) :: (.int .i64 (2 + k1) : Value) :: (.agg #[.int .i64 (2 + k1), .slice none 0 0] : Value) :: (.pointer (some ⟨R, 0, none⟩) : Value) :: (.int .i64 (j2 : Int) : Value) :: (.int .i64 ((j' + 1 : Nat) : Int) : Value) :: (.bool true : Value) :: (u14 : Value) :: (u15 : Value) :: (x16 : Value) :: (x17 : Value) :: (x18 : Value) :: (x19 : Value) :: (x20 : Value) :: (x21 : Value) :: (x22 : Value) :: (x23 : Value) :: (x24 : Value) :: (x25 : Value) :: (x26 : Value) :: (x27 : Value) :: (x28 : Value) :: (x29 : Value) :: (x30 : Value) :: (x31 : Value) :: (x32 : Value) :: (x33 : Value) :: (x34 : Value) :: (u35 : Value) :: (u36 : Value) :: (u37 : Value) :: (u38 : Value) :: (u39 : Value) :: (u40 : Value) :: (u41 : Value) :: (u42 : Value) :: (u43 : Value) :: (u44 : Value) :: (u45 : Value) :: (u46 : Value) :: (u47 : Value) :: (u48 : Value) :: (u49 : Value) :: (u50 : Value) :: (u51 : Value) :: (u52 : Value) :: (undef : Value) :: []), defers := [] } ∧
            ((d 20 = false ∧ Inv wr R lo A n c w1.heap.size (.int .i64 (2 + k1)) (f + 6 * j' + rem6 d) wx L M ∧ ArcF R w1.heap.size (.int .i64 (2 + k1)) L M d x5 x16 x17 x18 x19 x20 x21 x22 x23 x24 x25 x26 x27 x28 x29 x30 x31 x32 x33 x34) ∨ (d 20 = true ∧ allUp d ∧ ArcCut wr R lo A n c (f + 6 * j') x5 wx))) ?start ?steps ?fin
        case start =>
          refine ⟨[], [], _, _, _, _, _, _, _, _, _, _, _, _, _, _, _, _, _, _, _, _, rfl, .inl ⟨rfl, hinv.drew, ?_⟩⟩
          constructor <;> (intro hh; cases hh)
        case fin =>
          rintro d a wx hall ⟨L, M, x5, x16, x17, x18, x19, x20, x21, x22, x23, x24, x25, x26, x27, x28, x29, x30, x31, x32, x33, x34, rfl, (⟨h20, _, _⟩ | ⟨_, _, hc⟩)⟩
          · rw [hall 20 (by decide)] at h20; cases h20
          · go_wp2
            go_meet
            exact hc
        case steps =>
          simp only [EachOp, Nat.zero_add, Nat.reduceAdd]
          refine ⟨?_, ?_, ?_, ?_, ?_, ?_, ?_, ?_, ?_, ?_, ?_, ?_, ?_, ?_, ?_, ?_, ?_, ?_, ?_, ?_, ?_, trivial⟩
          · rintro d a wx ⟨L, M, x5, x16, x17, x18, x19, x20, x21, x22, x23, x24, x25, x26, x27, x28, x29, x30, x31, x32, x33, x34, rfl, (⟨h20, hI, hF⟩ | ⟨h20, hall, _⟩)⟩ hd haf
            rotate_left
            · have := hall 0 (by omega); rw [hd] at this; cases this
            simp only [AllOn, Region.binds, true_implies, forall_const, and_true] at haf
            have nb := hI.nb
            clear haf
            go_wp2
            refine ⟨L, M, _, _, _, _, _, _, _, _, _, _, _, _, _, _, _, _, _, _, _, _, rfl, .inl ⟨h20, ?_, ?_⟩⟩
            · exact hI
            · exact { hF with f0 := fun _ => rfl }
          · rintro d a wx ⟨L, M, x5, x16, x17, x18, x19, x20, x21, x22, x23, x24, x25, x26, x27, x28, x29, x30, x31, x32, x33, x34, rfl, (⟨h20, hI, hF⟩ | ⟨h20, hall, _⟩)⟩ hd haf
            rotate_left
            · have := hall 1 (by omega); rw [hd] at this; cases this
            simp only [AllOn, Region.binds, true_implies, forall_const, and_true] at haf
            have nb := hI.nb
            clear haf
            go_wp2
            refine ⟨L, M, _, _, _, _, _, _, _, _, _, _, _, _, _, _, _, _, _, _, _, _, rfl, .inl ⟨h20, ?_, ?_⟩⟩
            · exact hI
            · exact { hF with f1 := fun _ => rfl }
          · rintro d a wx ⟨L, M, x5, x16, x17, x18, x19, x20, x21, x22, x23, x24, x25, x26, x27, x28, x29, x30, x31, x32, x33, x34, rfl, (⟨h20, hI, hF⟩ | ⟨h20, hall, _⟩)⟩ hd haf
            rotate_left
            · have := hall 2 (by omega); rw [hd] at this; cases this
            simp only [AllOn, Region.binds, true_implies, forall_const, and_true] at haf
            have hh1 : d 1 = true := by first | exact haf | simp_all
            obtain rfl := hF.f1 hh1
            have nb := hI.nb
            clear haf
            go_wp2
            refine ⟨L, M, _, _, _, _, _, _, _, _, _, _, _, _, _, _, _, _, _, _, _, _, rfl, .inl ⟨h20, ?_, ?_⟩⟩
            · exact hI
            · exact { hF with f2 := fun _ => rfl }
          · rintro d a wx ⟨L, M, x5, x16, x17, x18, x19, x20, x21, x22, x23, x24, x25, x26, x27, x28, x29, x30, x31, x32, x33, x34, rfl, (⟨h20, hI, hF⟩ | ⟨h20, hall, _⟩)⟩ hd haf
            rotate_left
            · have := hall 3 (by omega); rw [hd] at this; cases this
            simp only [AllOn, Region.binds, true_implies, forall_const, and_true] at haf
            have hh0 : d 0 = true := by first | exact haf | simp_all
            obtain rfl := hF.f0 hh0
            have hh2 : d 2 = true := by first | exact haf | simp_all
            obtain rfl := hF.f2 hh2
            have nb := hI.nb
            clear haf
            rw [rem6_3 hd, ← Nat.add_assoc] at hI
            go_wp2_with fail
            refine (pickI _ hI).mono ?_
            rintro e w3 ⟨k3, rfl, k30, k31, hinv⟩
            go_wp2
            refine ⟨L, M, _, _, _, _, _, _, _, _, _, _, _, _, _, _, _, _, _, _, _, _, rfl, .inl ⟨h20, ?_, ?_⟩⟩
            · exact hinv
            · exact { hF with f3 := fun _ => ⟨_, rfl⟩ }
          · rintro d a wx ⟨L, M, x5, x16, x17, x18, x19, x20, x21, x22, x23, x24, x25, x26, x27, x28, x29, x30, x31, x32, x33, x34, rfl, (⟨h20, hI, hF⟩ | ⟨h20, hall, _⟩)⟩ hd haf
            rotate_left
            · have := hall 4 (by omega); rw [hd] at this; cases this
            simp only [AllOn, Region.binds, true_implies, forall_const, and_true] at haf
            have nb := hI.nb
            clear haf
            go_wp2
            refine ⟨L, M, _, _, _, _, _, _, _, _, _, _, _, _, _, _, _, _, _, _, _, _, rfl, .inl ⟨h20, ?_, ?_⟩⟩
            · exact hI
            · exact { hF with f4 := fun _ => rfl }
          · rintro d a wx ⟨L, M, x5, x16, x17, x18, x19, x20, x21, x22, x23, x24, x25, x26, x27, x28, x29, x30, x31, x32, x33, x34, rfl, (⟨h20, hI, hF⟩ | ⟨h20, hall, _⟩)⟩ hd haf
            rotate_left
            · have := hall 5 (by omega); rw [hd] at this; cases this
            simp only [AllOn, Region.binds, true_implies, forall_const, and_true] at haf
            have nb := hI.nb
            clear haf
            go_wp2
            refine ⟨L, M, _, _, _, _, _, _, _, _, _, _, _, _, _, _, _, _, _, _, _, _, rfl, .inl ⟨h20, ?_, ?_⟩⟩
            · exact hI
            · exact { hF with f5 := fun _ => rfl }
          · rintro d a wx ⟨L, M, x5, x16, x17, x18, x19, x20, x21, x22, x23, x24, x25, x26, x27, x28, x29, x30, x31, x32, x33, x34, rfl, (⟨h20, hI, hF⟩ | ⟨h20, hall, _⟩)⟩ hd haf
            rotate_left
            · have := hall 6 (by omega); rw [hd] at this; cases this
            simp only [AllOn, Region.binds, true_implies, forall_const, and_true] at haf
            have hh5 : d 5 = true := by first | exact haf | simp_all
            obtain rfl := hF.f5 hh5
            have nb := hI.nb
            clear haf
            go_wp2
            refine ⟨L, M, _, _, _, _, _, _, _, _, _, _, _, _, _, _, _, _, _, _, _, _, rfl, .inl ⟨h20, ?_, ?_⟩⟩
            · exact hI
            · exact { hF with f6 := fun _ => rfl }
          · rintro d a wx ⟨L, M, x5, x16, x17, x18, x19, x20, x21, x22, x23, x24, x25, x26, x27, x28, x29, x30, x31, x32, x33, x34, rfl, (⟨h20, hI, hF⟩ | ⟨h20, hall, _⟩)⟩ hd haf
            rotate_left
            · have := hall 7 (by omega); rw [hd] at this; cases this
            simp only [AllOn, Region.binds, true_implies, forall_const, and_true] at haf
            have hh4 : d 4 = true := by first | exact haf | simp_all
            obtain rfl := hF.f4 hh4
            have hh6 : d 6 = true := by first | exact haf | simp_all
            obtain rfl := hF.f6 hh6
            have nb := hI.nb
            clear haf
            rw [rem6_7 hd, ← Nat.add_assoc] at hI
            go_wp2_with fail
            refine (pickI _ hI).mono ?_
            rintro e w3 ⟨k3, rfl, k30, k31, hinv⟩
            go_wp2
            refine ⟨L, M, _, _, _, _, _, _, _, _, _, _, _, _, _, _, _, _, _, _, _, _, rfl, .inl ⟨h20, ?_, ?_⟩⟩
            · exact hinv
            · exact { hF with f7 := fun _ => ⟨_, rfl, k30, by omega⟩ }
          · rintro d a wx ⟨L, M, x5, x16, x17, x18, x19, x20, x21, x22, x23, x24, x25, x26, x27, x28, x29, x30, x31, x32, x33, x34, rfl, (⟨h20, hI, hF⟩ | ⟨h20, hall, _⟩)⟩ hd haf
            rotate_left
            · have := hall 8 (by omega); rw [hd] at this; cases this
            simp only [AllOn, Region.binds, true_implies, forall_const, and_true] at haf
            have nb := hI.nb
            clear haf
            go_wp2
            refine ⟨L, M, _, _, _, _, _, _, _, _, _, _, _, _, _, _, _, _, _, _, _, _, rfl, .inl ⟨h20, ?_, ?_⟩⟩
            · exact hI
            · exact { hF with f8 := fun _ => rfl }
          · rintro d a wx ⟨L, M, x5, x16, x17, x18, x19, x20, x21, x22, x23, x24, x25, x26, x27, x28, x29, x30, x31, x32, x33, x34, rfl, (⟨h20, hI, hF⟩ | ⟨h20, hall, _⟩)⟩ hd haf
            rotate_left
            · have := hall 9 (by omega); rw [hd] at this; cases this
            simp only [AllOn, Region.binds, true_implies, forall_const, and_true] at haf
            have nb := hI.nb
            clear haf
            go_wp2
            refine ⟨L, M, _, _, _, _, _, _, _, _, _, _, _, _, _, _, _, _, _, _, _, _, rfl, .inl ⟨h20, ?_, ?_⟩⟩
            · exact hI
            · exact { hF with f9 := fun _ => rfl }
          · rintro d a wx ⟨L, M, x5, x16, x17, x18, x19, x20, x21, x22, x23, x24, x25, x26, x27, x28, x29, x30, x31, x32, x33, x34, rfl, (⟨h20, hI, hF⟩ | ⟨h20, hall, _⟩)⟩ hd haf
            rotate_left
            · have := hall 10 (by omega); rw [hd] at this; cases this
            simp only [AllOn, Region.binds, true_implies, forall_const, and_true] at haf
            have hh9 : d 9 = true := by first | exact haf | simp_all
            obtain rfl := hF.f9 hh9
            have nb := hI.nb
            clear haf
            rw [rem6_10 hd, ← Nat.add_assoc] at hI
            go_wp2_with fail
            refine (pickI _ hI).mono ?_
            rintro e w3 ⟨k3, rfl, k30, k31, hinv⟩
            go_wp2
            refine ⟨L, M, _, _, _, _, _, _, _, _, _, _, _, _, _, _, _, _, _, _, _, _, rfl, .inl ⟨h20, ?_, ?_⟩⟩
            · exact hinv
            · exact { hF with f10 := fun _ => ⟨_, rfl⟩ }
          · rintro d a wx ⟨L, M, x5, x16, x17, x18, x19, x20, x21, x22, x23, x24, x25, x26, x27, x28, x29, x30, x31, x32, x33, x34, rfl, (⟨h20, hI, hF⟩ | ⟨h20, hall, _⟩)⟩ hd haf
            rotate_left
            · have := hall 11 (by omega); rw [hd] at this; cases this
            simp only [AllOn, Region.binds, true_implies, forall_const, and_true] at haf
            have hh10 : d 10 = true := by first | exact haf | simp_all
            obtain ⟨k10', rfl⟩ := hF.f10 hh10
            have nb := hI.nb
            clear haf
            go_wp2
            refine ⟨((wx.heap.size, [0, 1, 2, 5, 9, k10']) :: L), M, _, _, _, _, _, _, _, _, _, _, _, _, _, _, _, _, _, _, _, _, rfl, .inl ⟨h20, ?_, ?_⟩⟩
            · exact hI.allocI6 _ _ _ _ _ _
            · exact { hF.more _ with f11 := fun _ => ⟨_, _, rfl, List.mem_cons_self⟩ }
          · rintro d a wx ⟨L, M, x5, x16, x17, x18, x19, x20, x21, x22, x23, x24, x25, x26, x27, x28, x29, x30, x31, x32, x33, x34, rfl, (⟨h20, hI, hF⟩ | ⟨h20, hall, _⟩)⟩ hd haf
            rotate_left
            · have := hall 12 (by omega); rw [hd] at this; cases this
            simp only [AllOn, Region.binds, true_implies, forall_const, and_true] at haf
            have hh8 : d 8 = true := by first | exact haf | simp_all
            obtain rfl := hF.f8 hh8
            have hh11 : d 11 = true := by first | exact haf | simp_all
            obtain ⟨b11, y11, rfl, m11⟩ := hF.f11 hh11
            have nb := hI.nb
            clear haf
            rw [rem6_12 hd, ← Nat.add_assoc] at hI
            go_wp2_with fail
            refine (oneI6 hI m11).mono ?_
            rintro e w3 ⟨k3, rfl, k30, hinv⟩
            go_wp2
            refine ⟨L, M, _, _, _, _, _, _, _, _, _, _, _, _, _, _, _, _, _, _, _, _, rfl, .inl ⟨h20, ?_, ?_⟩⟩
            · exact hinv
            · exact { hF with f12 := fun _ => ⟨_, rfl⟩ }
          · rintro d a wx ⟨L, M, x5, x16, x17, x18, x19, x20, x21, x22, x23, x24, x25, x26, x27, x28, x29, x30, x31, x32, x33, x34, rfl, (⟨h20, hI, hF⟩ | ⟨h20, hall, _⟩)⟩ hd haf
            rotate_left
            · have := hall 13 (by omega); rw [hd] at this; cases this
            simp only [AllOn, Region.binds, true_implies, forall_const, and_true] at haf
            have nb := hI.nb
            clear haf
            go_wp2
            refine ⟨L, M, _, _, _, _, _, _, _, _, _, _, _, _, _, _, _, _, _, _, _, _, rfl, .inl ⟨h20, ?_, ?_⟩⟩
            · exact hI
            · exact { hF with f13 := fun _ => rfl }
          · rintro d a wx ⟨L, M, x5, x16, x17, x18, x19, x20, x21, x22, x23, x24, x25, x26, x27, x28, x29, x30, x31, x32, x33, x34, rfl, (⟨h20, hI, hF⟩ | ⟨h20, hall, _⟩)⟩ hd haf
            rotate_left
            · have := hall 14 (by omega); rw [hd] at this; cases this
            simp only [AllOn, Region.binds, true_implies, forall_const, and_true] at haf
            have nb := hI.nb
            clear haf
            go_wp2
            refine ⟨((wx.heap.size, [0, 0, 3, 8]) :: L), M, _, _, _, _, _, _, _, _, _, _, _, _, _, _, _, _, _, _, _, _, rfl, .inl ⟨h20, ?_, ?_⟩⟩
            · exact hI.allocI4 _ _ _ _
            · exact { hF.more _ with f14 := fun _ => ⟨_, rfl, List.mem_cons_self⟩ }
          · rintro d a wx ⟨L, M, x5, x16, x17, x18, x19, x20, x21, x22, x23, x24, x25, x26, x27, x28, x29, x30, x31, x32, x33, x34, rfl, (⟨h20, hI, hF⟩ | ⟨h20, hall, _⟩)⟩ hd haf
            rotate_left
            · have := hall 15 (by omega); rw [hd] at this; cases this
            simp only [AllOn, Region.binds, true_implies, forall_const, and_true] at haf
            have hh13 : d 13 = true := by first | exact haf | simp_all
            obtain rfl := hF.f13 hh13
            have hh14 : d 14 = true := by first | exact haf | simp_all
            obtain ⟨b14, rfl, m14⟩ := hF.f14 hh14
            have nb := hI.nb
            clear haf
            rw [rem6_15 hd, ← Nat.add_assoc] at hI
            go_wp2_with fail
            refine (oneI4 hI m14).mono ?_
            rintro e w3 ⟨k3, rfl, k30, hinv⟩
            go_wp2
            refine ⟨L, M, _, _, _, _, _, _, _, _, _, _, _, _, _, _, _, _, _, _, _, _, rfl, .inl ⟨h20, ?_, ?_⟩⟩
            · exact hinv
            · exact { hF with f15 := fun _ => ⟨_, rfl⟩ }
          · rintro d a wx ⟨L, M, x5, x16, x17, x18, x19, x20, x21, x22, x23, x24, x25, x26, x27, x28, x29, x30, x31, x32, x33, x34, rfl, (⟨h20, hI, hF⟩ | ⟨h20, hall, _⟩)⟩ hd haf
            rotate_left
            · have := hall 16 (by omega); rw [hd] at this; cases this
            simp only [AllOn, Region.binds, true_implies, forall_const, and_true] at haf
            have nb := hI.nb
            clear haf
            go_wp2
            refine ⟨L, M, _, _, _, _, _, _, _, _, _, _, _, _, _, _, _, _, _, _, _, _, rfl, .inl ⟨h20, ?_, ?_⟩⟩
            · exact hI
            · exact { hF with f16 := fun _ => rfl }
          · rintro d a wx ⟨L, M, x5, x16, x17, x18, x19, x20, x21, x22, x23, x24, x25, x26, x27, x28, x29, x30, x31, x32, x33, x34, rfl, (⟨h20, hI, hF⟩ | ⟨h20, hall, _⟩)⟩ hd haf
            rotate_left
            · have := hall 17 (by omega); rw [hd] at this; cases this
            simp only [AllOn, Region.binds, true_implies, forall_const, and_true] at haf
            have hh16 : d 16 = true := by first | exact haf | simp_all
            obtain rfl := hF.f16 hh16
            have nb := hI.nb
            clear haf
            rw [rem6_17 hd, ← Nat.add_assoc] at hI
            go_wp2_with fail
            refine (pickI _ hI).mono ?_
            rintro e w3 ⟨k3, rfl, k30, k31, hinv⟩
            go_wp2
            refine ⟨L, M, _, _, _, _, _, _, _, _, _, _, _, _, _, _, _, _, _, _, _, _, rfl, .inl ⟨h20, ?_, ?_⟩⟩
            · exact hinv
            · exact { hF with f17 := fun _ => ⟨_, rfl⟩ }
          · rintro d a wx ⟨L, M, x5, x16, x17, x18, x19, x20, x21, x22, x23, x24, x25, x26, x27, x28, x29, x30, x31, x32, x33, x34, rfl, (⟨h20, hI, hF⟩ | ⟨h20, hall, _⟩)⟩ hd haf
            rotate_left
            · have := hall 18 (by omega); rw [hd] at this; cases this
            simp only [AllOn, Region.binds, true_implies, forall_const, and_true] at haf
            have hh3 : d 3 = true := by first | exact haf | simp_all
            obtain ⟨k3', rfl⟩ := hF.f3 hh3
            have hh7 : d 7 = true := by first | exact haf | simp_all
            obtain ⟨k7', rfl, k70, k71⟩ := hF.f7 hh7
            have hh12 : d 12 = true := by first | exact haf | simp_all
            obtain ⟨k12', rfl⟩ := hF.f12 hh12
            have hh15 : d 15 = true := by first | exact haf | simp_all
            obtain ⟨k15', rfl⟩ := hF.f15 hh15
            have hh17 : d 17 = true := by first | exact haf | simp_all
            obtain ⟨k17', rfl⟩ := hF.f17 hh17
            have nb := hI.nb
            clear haf
            go_wp2
            refine ⟨L, M, _, _, _, _, _, _, _, _, _, _, _, _, _, _, _, _, _, _, _, _, rfl, .inl ⟨h20, ?_, ?_⟩⟩
            · exact hI
            · exact { hF with f18 := fun _ => ⟨_, _, _, _, _, rfl, k70, k71⟩ }
          · rintro d a wx ⟨L, M, x5, x16, x17, x18, x19, x20, x21, x22, x23, x24, x25, x26, x27, x28, x29, x30, x31, x32, x33, x34, rfl, (⟨h20, hI, hF⟩ | ⟨h20, hall, _⟩)⟩ hd haf
            rotate_left
            · have := hall 19 (by omega); rw [hd] at this; cases this
            simp only [AllOn, Region.binds, true_implies, forall_const, and_true] at haf
            have nb := hI.nb
            clear haf
            go_wp2
            refine ⟨L, (wx.heap.size :: M), _, _, _, _, _, _, _, _, _, _, _, _, _, _, _, _, _, _, _, _, rfl, .inl ⟨h20, ?_, ?_⟩⟩
            · exact hI.allocA _ _ _ _ _
            · exact { hF with f19 := fun _ => ⟨_, _, rfl, rfl⟩ }
          · rintro d a wx ⟨L, M, x5, x16, x17, x18, x19, x20, x21, x22, x23, x24, x25, x26, x27, x28, x29, x30, x31, x32, x33, x34, rfl, (⟨h20, hI, hF⟩ | ⟨h20, hall, _⟩)⟩ hd haf
            rotate_left
            · rw [hd] at h20; cases h20
            have hup := allOn_all 20 haf (by kernel_rfl)
            simp only [AllOn, Region.binds, true_implies, forall_const, and_true] at haf
            have hh18 : d 18 = true := by first | exact haf | simp_all
            obtain ⟨z0, z1, z2, z3, z4, rfl, z10, z11⟩ := hF.f18 hh18
            have hh19 : d 19 = true := by first | exact haf | simp_all
            obtain ⟨b19, M', rfl, rfl⟩ := hF.f19 hh19
            have nb := hI.nb
            clear haf
            obtain ⟨⟨y0, e0⟩, ⟨y1, e1⟩, ⟨y2, e2⟩, ⟨y3, e3⟩, ⟨y4, e4⟩, q0, q1, q2, q3, q4, hnn, hnm⟩ := hI.cells
            go_wp2
            refine ⟨[], [], _, _, _, _, _, _, _, _, _, _, _, _, _, _, _, _, _, _, _, _, rfl, .inr ⟨rfl, fun i hi => ?_, ?_⟩⟩
            · unfold upd; split; exact rfl; exact hup i hi
            · exact arc_done (hI.lessF (by omega)) z0 z1 z2 z3 z4 ⟨z10, z11⟩
      case rest =>
        obtain ⟨AB, f', t, c', l, d, rfl, hAB, hrA, h5, t0, t1, hrc, hgc⟩ := hcut
        clear hinv
        obtain ⟨e0, e1, e2, e3, e4⟩ := h5
        simp only [Nat.zero_add] at e0 e1 e2 e3 e4
        have hABR : AB ≠ R := by omega
        have hn2 := hnet.young hgc hneR (own_ne hnet.own (by omega))
        have o0 := hn2.nodes
        have o1 := hn2.slice
        have r2 := hn2.row
        have z1 := r2.frozen 1
        have zA := hrA.frozen 1
        have hnz : (2 + k1 : Int) ≠ 0 := by omega
        have hvAB : v.ownBlock ≠ some AB := fun e => by have := (hnet.own.lt AB e).2; omega
        have hsz := hgc.size
        have hrow2 := hrow.young hgc (by omega)
        have hrl := hrow.lt
        have hgw := grown_trans hgr hgc
        have hkv := hjk
        obtain ⟨K, hK⟩ : ∃ K, K = xs.length := ⟨_, rfl⟩
        have hown := hn2.own
        rw [← hK] at hown hkv
        have HK := Lib.hid hK
        have hne1 : w1.heap.size ≠ AB := by omega
        cases hB : (f' == t) with
        | true =>
          have t5 : IntKind.i64.wrap (t + 1) = t + 1 := IntWalk.i64_in _ (by omega)
          go_upto_region 8 with (fail)
          obtain ⟨t', ht'⟩ : ∃ t', t' = (t + 1) % (2 + k1) := ⟨_, rfl⟩
          rw [← ht']
          obtain ⟨W, hW⟩ : ∃ W, W = wc.setCell ⟨AB, 1, none⟩ (.int .i64 t') := ⟨_, rfl⟩
          have hWg : wc.grownBy W (some AB) := by rw [hW]; exact grown_set (grown_refl _ _) _ _
          have o0 := cell_far hWg o0 hne1
          have o1 := cell_far hWg o1 hne1
          have r2 := r2.young hWg hne1
          have z1 := r2.frozen 1
          have hown := World.ownsRow.kept hown hWg (.inr hvAB)
          have e0 : W.cell? ⟨AB, 0, none⟩ = some (.int .i64 f') := by rw [hW]; exact (World.cell?_setCell_other _ _ _ _ (by simp)).trans e0
          have e1 : W.cell? ⟨AB, 1, none⟩ = some (.int .i64 t') := by rw [hW]; exact World.cell?_setCell_same _ _ _ e1
          have e2 : W.cell? ⟨AB, 2, none⟩ = some (.int .i64 c') := by rw [hW]; exact (World.cell?_setCell_other _ _ _ _ (by simp)).trans e2
          have e3 : W.cell? ⟨AB, 3, none⟩ = some (.int .i64 l) := by rw [hW]; exact (World.cell?_setCell_other _ _ _ _ (by simp)).trans e3
          have e4 : W.cell? ⟨AB, 4, none⟩ = some (.int .i64 d) := by rw [hW]; exact (World.cell?_setCell_other _ _ _ _ (by simp)).trans e4
          have hrc := hrc.far hWg hABR (by omega)
          have hrow2 := hrow2.young hWg (by omega)
          have hgw : w.grownBy W (some R) := grown_next hgw hWg (fun g e => by injection e with e; omega)
          have hsz : wr.heap.size ≤ W.heap.size := Nat.le_trans hsz hWg.size
          rw [← hW]
          clear hW hWg ht'
          have hW : Past W (W.alloc (.cells #[.int .i64 f', .int .i64 t', .int .i64 c', .int .i64 l, .int .i64 d] 57)) := (Past.refl W).alloc _
          have hvW := hown.alloc (.cells #[.int .i64 f', .int .i64 t', .int .i64 c', .int .i64 l, .int .i64 d] 57)
          have HW := Lib.hid hW
          have HV := Lib.hid hvW
          clear hW hvW
          go_wp2_with (first | (at_builtin; refine wpList_append_lies _ rfl _ _ 23 rfl (w1.heap.size + 1) 57 i0 _ 5 40 Try.underlying23 hi hz0 hz1 hz2 rfl (by decide) v K _ rfl HV.out ⟨W.heap.size, 0, none⟩ 1 1 [.int .i64 f', .int .i64 t', .int .i64 c', .int .i64 l, .int .i64 d] rfl rfl (five_new W _ _ _ _ _ _) (cellsOf_one [⟨f', t', c', l, d⟩]) (by omega) (by unfold maxLen; omega) (by omega) (by simp; omega) _ rfl ?_; intro gg cap w3 hown' hgrow3 hat hlt3; have o1 := hgrow3.cell (cell_in HW.out o1) (own_ne (g := w1.heap.size) HV.out (by omega)); have r2 : RowN w3 w1.heap.size 25 2 := (r2.keep (HW.out.block _ r2.lt)).keep (hgrow3.block _ (Nat.lt_of_lt_of_le r2.lt HW.out.size) (own_ne HV.out (by omega))); have z1 := r2.frozen 1))
          have o0 := hgrow3.cell (cell_in HW.out o0) (own_ne (g := w1.heap.size) HV.out (by omega))
          have hrow3 : RowN w3 w.heap.size 25 2 := (hrow2.keep (HW.out.block _ hrow2.lt)).keep (hgrow3.block _ (Nat.lt_of_lt_of_le hrow2.lt HW.out.size) (own_ne HV.out (by omega)))
          have hgg : gg ≠ w1.heap.size := by
            rcases hat with h | h
            · have := (HV.out.lt gg h).1
              omega
            · simp at h
              omega
          have hrc3 := (hrc.alloc _).own hgrow3 HV.out (by omega)
          have hgw3 : w.grownBy w3 (some R) := grown_next (grown_trans hgw (World.grownBy_alloc W _ _)) hgrow3 (fun g e => by have := (HV.out.lt g e).1; omega)
          go_roundw
          case rel =>
            refine ⟨j', _, xs ++ [⟨f', t', c', l, d⟩], by simp; omega, by go_num, hrc3.far (grown_set (grown_refl _ _) _ _) (by omega) (by omega), ⟨(World.cell?_setCell_other _ _ _ _ (by simp)).trans o0, World.cell?_setCell_same _ _ _ o1, r2.set _ _, ?_⟩, hrow3.set _ _, grown_far hgw3 (by simp; omega) _⟩
            rw [List.length_append, cellsOf_append, ← HK.out]
            exact own_far hown' (by simpa [Value.ownBlock] using hgg) _
          case measure => simp [intOf]
        | false =>
          have hW : Past wc (wc.alloc (.cells #[.int .i64 f', .int .i64 t, .int .i64 c', .int .i64 l, .int .i64 d] 57)) := (Past.refl wc).alloc _
          have hvW := hown.alloc (.cells #[.int .i64 f', .int .i64 t, .int .i64 c', .int .i64 l, .int .i64 d] 57)
          have HW := Lib.hid hW
          have HV := Lib.hid hvW
          clear hW hvW
          go_wp2_with (first | (at_builtin; refine wpList_append_lies _ rfl _ _ 23 rfl (w1.heap.size + 1) 57 i0 _ 5 40 Try.underlying23 hi hz0 hz1 hz2 rfl (by decide) v K _ rfl HV.out ⟨wc.heap.size, 0, none⟩ 1 1 [.int .i64 f', .int .i64 t, .int .i64 c', .int .i64 l, .int .i64 d] rfl rfl (five_new wc _ _ _ _ _ _) (cellsOf_one [⟨f', t, c', l, d⟩]) (by omega) (by unfold maxLen; omega) (by omega) (by simp; omega) _ rfl ?_; intro gg cap w3 hown' hgrow3 hat hlt3; have o1 := hgrow3.cell (cell_in HW.out o1) (own_ne (g := w1.heap.size) HV.out (by omega)); have r2 : RowN w3 w1.heap.size 25 2 := (r2.keep (HW.out.block _ r2.lt)).keep (hgrow3.block _ (Nat.lt_of_lt_of_le r2.lt HW.out.size) (own_ne HV.out (by omega))); have z1 := r2.frozen 1))
          have o0 := hgrow3.cell (cell_in HW.out o0) (own_ne (g := w1.heap.size) HV.out (by omega))
          have hrow3 : RowN w3 w.heap.size 25 2 := (hrow2.keep (HW.out.block _ hrow2.lt)).keep (hgrow3.block _ (Nat.lt_of_lt_of_le hrow2.lt HW.out.size) (own_ne HV.out (by omega)))
          have hgg : gg ≠ w1.heap.size := by
            rcases hat with h | h
            · have := (HV.out.lt gg h).1
              omega
            · simp at h
              omega
          have hrc3 := (hrc.alloc _).own hgrow3 HV.out (by omega)
          have hgw3 : w.grownBy w3 (some R) := grown_next (grown_trans hgw (World.grownBy_alloc wc _ _)) hgrow3 (fun g e => by have := (HV.out.lt g e).1; omega)
          go_roundw
          case rel =>
            refine ⟨j', _, xs ++ [⟨f', t, c', l, d⟩], by simp; omega, by go_num, hrc3.far (grown_set (grown_refl _ _) _ _) (by omega) (by omega), ⟨(World.cell?_setCell_other _ _ _ _ (by simp)).trans o0, World.cell?_setCell_same _ _ _ o1, r2.set _ _, ?_⟩, hrow3.set _ _, grown_far hgw3 (by simp; omega) _⟩
            rw [List.length_append, cellsOf_append, ← HK.out]
            exact own_far hown' (by simpa [Value.ownBlock] using hgg) _
          case measure => simp [intOf]
    · obtain rfl : j = 0 := by omega
      have o0 := hnet.nodes
      have o1 := hnet.slice
      obtain ⟨A', c', rfl, hxA, hoA⟩ := ResA.form (show ResA wr (w1.heap.size + 1) v xs from hnet.own)
      obtain ⟨q0, e0⟩ := hrow.cell (i := 0) (by omega)
      obtain ⟨q1, e1⟩ := hrow.cell (i := 1) (by omega)
      have z0 := hrow.frozen 0
      have z1 := hrow.frozen 1
      have hown := hnet.own
      obtain ⟨K, hK⟩ : ∃ K, K = xs.length := ⟨_, rfl⟩
      rw [← hK] at o1 hoA
      have hK13 : K ≤ 13 := by omega
      have HK := Lib.hid hK
      clear hK
      go_wp2
      have hneA : blk A' ≠ some w.heap.size := hoA.ne_blk (by omega)
      exact bodyPost_ret (v := .agg #[.int .i64 (2 + k1), .slice A' K c']) (by simp [results, Try.results45, go_sem, e0, e1]) rfl
        ⟨2 + k1, A', K, c', xs, rfl, HK.out.symm, hK13, by omega, by omega, (hxA.far _ _ hneA).far _ _ hneA, ((hoA.lower (by omega)).far _ _).far _ _, (((hrd.less (by omega)).far (grown_set (grown_refl _ _) _ _) (by omega) (by omega)).far (grown_set (grown_refl _ _) _ _) (by omega) (by omega)), grown_far (grown_far hgr (by simp) _) (by simp) _⟩

end Go.Proofs.Ytifbigfkakappaa
