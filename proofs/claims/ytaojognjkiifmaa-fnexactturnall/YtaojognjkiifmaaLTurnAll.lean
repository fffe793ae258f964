/-
  FnExactTurnAll answers true at every input: impl.TurnAll answers as spec.TurnAll, leaves its arguments alone and owns its answer. No condition.
-/
import Derived.Deep.AppendLies
import Derived.Test.YtaojognjkiifmaaRTurnL
import Derived.Test.YtaojognjkiifmaaPTurn2
import Derived.Deep.RegionLaw
import Derived.Test.YtaojognjkiifmaaTWalkS
import Derived.Test.YtaojognjkiifmaaPLine
import Derived.Sort.LoopGhostIn
import Derived.Laws.EntriesVeiled
import Derived.Test.YtaojognjkiifmaaNLen
import Derived.Test.YtaojognjkiifmaaOrdCh
import Derived.Test.YtaojognjkiifmaaTOk
import Derived.Test.YtaojognjkiifmaaTAllS
import Derived.Test.YtaojognjkiifmaaPNear
import Derived.Test.YtaojognjkiifmaaBack
import Derived.Test.YtaojognjkiifmaaNRep0
import Derived.Test.YtaojognjkiifmaaResI
import Derived.Test.YtaojognjkiifmaaNear
import Derived.Test.YtaojognjkiifmaaNAll
import Derived.Test.YtaojognjkiifmaaQPast
import Derived.Test.YtaojognjkiifmaaInfoI
import Derived.Test.YtaojognjkiifmaaTo
import Derived.Test.YtaojognjkiifmaaMarkB
import Derived.Test.YtaojognjkiifmaaOpenW
import Derived.OpenShut
import Derived.ShutString
import Derived.ChangeOld
import Derived.Deep.Slices
import Derived.Deep.Fields
import Derived.Lib.SmallJoins
namespace Go.Proofs.Ytaojognjkiifmaa
open Go.RowKit

theorem step_append_any {P : Program} {ops : Array Oper} {o : Oper} {a : Act} {w : World} {K : Act → World → Prop} {Q : Exit → Act → World → Prop} {E : Prop} (hwt : Region.wanted o (yielded ops a.tmps) = true) (s x : Operand) (t : TypeId)
    (ho : o.op = .call { callee := .builtin .append, args := #[s, x], argTypes := #[t, t] })
    (base : Nat) (e : TypeId) (i : TypeInfo) (z : Value) (size bytes : Nat) (ht : P.underlying t = some (.slice e)) (hi : P.info? e = some i) (hz : i.zero = some z)
    (hsize : i.size = size) (hby : i.bytes = bytes) (hzs : z.cells.size = size) (hsz : 0 < size)
    (v : Value) (n : Nat) (xs : List Value) (hs : a.eval s = v) (hown : w.ownsRow base e size v n xs)
    (ad : Addr) (m c : Nat) (hx : a.eval x = .slice (some ad) m c) (news : List Value) (hl : news.length = m * size) (hnews : ∀ j u, news[j]? = some u → w.cell? (ad.add j) = some u) (h1 : ∀ u ∈ news, u.oneCell' = true)
    (h63 : n + m ≤ maxLen) (hbytes : (n + m) * bytes ≤ 140737488355328) (hbase : base ≤ w.heap.size)
    (h : ∀ v' w', w'.ownsRow base e size v' (n + m) (xs ++ news) → w.grownBy w' v.ownBlock → (v'.ownBlock = v.ownBlock ∨ v'.ownBlock = some w.heap.size) → K (a.put o.dst v') w') :
    if Region.wanted o (yielded ops a.tmps) = true then Oper.wp P o a w K Q else E := by
  rw [if_pos hwt]
  obtain ⟨v', w', hr, h2, h3, _, h5⟩ := run_append_own_at (P := P) w base t o.type e i z size bytes ht hi hz hsize hby hzs hsz v n xs hown ad m c news hl hnews h1 h63 hbytes hbase
  unfold Oper.wp execOp
  simp only [ho, resolve, invoke, builtin, Sem.run_bind, Sem.run_pure, Result.andThen_ok, List.map_toArray, List.map_cons, List.map_nil, hs, hx, hr]
  exact h v' w' h2 h3 h5

theorem turns_news {w : World} {g o : Nat} {zs : List TurnD} (h : TurnsAt w (some ⟨g, o, none⟩) zs) : ∀ j u, (cellsTurn zs)[j]? = some u → w.cell? ((⟨g, o, none⟩ : Addr).add j) = some u := fun j u hu => by
  have := cells_of_turns (w := w) (g := g) zs o (fun k a hk => by
    obtain ⟨g', o', e, hr⟩ := h k a hk
    injection e with e
    injection e with e1 e2
    subst e1 e2
    exact hr) j u hu
  rw [Addr.add_lit]
  exact this
theorem turns_take {w : World} {A : Option Addr} {zs : List TurnD} (h : TurnsAt w A zs) (i : Nat) : TurnsAt w A (zs.take i) := fun k a hk => by
  rw [List.getElem?_take] at hk
  split at hk
  · exact h k a hk
  · cases hk
theorem turns_drop {w : World} {g o : Nat} {zs : List TurnD} (h : TurnsAt w (some ⟨g, o, none⟩) zs) (i : Nat) : TurnsAt w (some ⟨g, o + i * 3, none⟩) (zs.drop i) := fun k a hk => by
  rw [List.getElem?_drop] at hk
  obtain ⟨g', o', e, hr⟩ := h (i + k) a hk
  injection e with e
  injection e with e1 e2
  subst e1 e2
  exact ⟨_, _, rfl, by rw [show o + i * 3 + k * 3 = o + (i + k) * 3 by omega]; exact hr⟩
/-- Where a slice that a call handed back lies. -/
theorem ResTurn.form2 {w : World} {lo : Nat} {v : Value} {zs : List TurnD} (h : ResTurn w lo v zs) : ∃ A c, v = .slice A zs.length c ∧ TurnsAt w A zs ∧ zs.length ≤ c ∧ c ≤ maxLen ∧ ((A = none ∧ zs.length = 0 ∧ c = 0) ∨ ∃ g, A = some ⟨g, 0, none⟩ ∧ lo ≤ g) := by
  obtain ⟨A, c, rfl, hi, _⟩ := h.form
  rcases h.2 with ⟨e, h0⟩ | ⟨g, cap, cur, e, hlo, hh, hn, hm, hs, ht⟩
  · injection e with e1 e2 e3
    subst e1 e3
    exact ⟨_, _, rfl, hi, by omega, by omega, .inl ⟨rfl, h0, rfl⟩⟩
  · injection e with e1 e2 e3
    subst e1 e3
    exact ⟨_, _, rfl, hi, hn, hm, .inr ⟨g, rfl, hlo⟩⟩
theorem res_of_own {w : World} {lo : Nat} {v : Value} {zs : List TurnD} {k : Nat} {cs : List Value} (h : w.ownsRow lo 54 3 v k cs) (hk : k = zs.length) (hc : cs = cellsTurn zs) : ResTurn w lo v zs := by
  subst hk hc
  exact h

/-- Without one of them turns are ok. -/
theorem freeB_iff (ts : List TurnD) : ∀ n, n ≤ ts.length → (freeB ts n = true ↔ ∀ j k a b, j < k → k < n → ts[j]? = some a → ts[k]? = some b → sameT b.x0 b.x1 a = false)
  | 0, _ => by simp [freeB]
  | n + 1, hn => by
    obtain ⟨t, ht⟩ : ∃ t, ts[n]? = some t := ⟨_, List.getElem?_eq_getElem (by omega)⟩
    rw [freeB_next ht, Bool.and_eq_true, freeB_iff ts n (by omega), Bool.not_eq_true', List.any_eq_false]
    constructor
    · rintro ⟨h1, h2⟩ j k a b hjk hkn ha hb
      rcases Nat.lt_or_ge k n with hlt | hge
      · exact h1 j k a b hjk hlt ha hb
      · obtain rfl : k = n := by omega
        rw [ht] at hb
        injection hb with hb
        subst hb
        have := h2 a (List.mem_of_getElem? (i := j) (by rw [List.getElem?_take_of_lt hjk]; exact ha))
        simpa using this
    · intro h
      refine ⟨fun j k a b hjk hkn => h j k a b hjk (by omega), fun x hx => ?_⟩
      obtain ⟨j, hj⟩ := List.getElem?_of_mem hx
      have hjn : j < n := by
        have := (List.getElem?_eq_some_iff.1 hj).1
        simp at this
        omega
      rw [List.getElem?_take_of_lt hjn] at hj
      have := h j n x t hjn (by omega) hj ht
      simpa using this
def fewT (ts : List TurnD) (i : Nat) : List TurnD := ts.take i ++ ts.drop (i + 1)
theorem fewT_at {ts : List TurnD} {i k : Nat} (hi : i < ts.length) : (fewT ts i)[k]? = if k < i then ts[k]? else ts[k + 1]? := by
  unfold fewT
  by_cases h : k < i
  · rw [if_pos h, List.getElem?_append_left (by rw [List.length_take]; omega), List.getElem?_take_of_lt h]
  · rw [if_neg h, List.getElem?_append_right (by rw [List.length_take]; omega), List.length_take, List.getElem?_drop]
    congr 1
    omega
theorem fewT_len {ts : List TurnD} {i : Nat} (hi : i < ts.length) : (fewT ts i).length = ts.length - 1 := by
  unfold fewT
  rw [List.length_append, List.length_take, List.length_drop]
  omega
theorem fewT_ok {m : Int} {xs : List ArcD} {ts : List TurnD} {i : Nat} (h : turnsB m xs ts = true) (hi : i < ts.length) : turnsB m xs (fewT ts i) = true := by
  obtain ⟨h1, h2, h3, h4⟩ := turnsB_all h
  have hl := fewT_len hi
  simp only [turnsB, Bool.and_eq_true, decide_eq_true_eq]
  refine ⟨h1, by omega, ?_, ?_⟩
  · rw [List.all_eq_true] at h3 ⊢
    intro x hx
    unfold fewT at hx
    rcases List.mem_append.1 hx with hx | hx
    · exact h3 x (List.mem_of_mem_take hx)
    · exact h3 x (List.mem_of_mem_drop hx)
  · rw [freeB_iff _ _ (Nat.le_refl _)]
    rw [freeB_iff _ _ (Nat.le_refl _)] at h4
    intro j k a b hjk hkn ha hb
    rw [fewT_at hi] at ha hb
    rw [hl] at hkn
    by_cases h5 : k < i
    · rw [if_pos h5] at hb
      rw [if_pos (by omega)] at ha
      exact h4 j k a b hjk (by omega) ha hb
    · rw [if_neg h5] at hb
      by_cases h6 : j < i
      · rw [if_pos h6] at ha
        exact h4 j (k + 1) a b (by omega) (by omega) ha hb
      · rw [if_neg h6] at ha
        exact h4 (j + 1) (k + 1) a b (by omega) (by omega) ha hb
/-- With one of them twice they are not. -/
theorem twice_bad {m : Int} {xs : List ArcD} {ts : List TurnD} {i : Nat} {t : TurnD} (ht : ts[i]? = some t) : turnsB m xs (ts ++ [t]) = false := by
  rw [Bool.eq_false_iff]
  intro h
  obtain ⟨h1, h2, h3, h4⟩ := turnsB_all h
  have hi : i < ts.length := (List.getElem?_eq_some_iff.1 ht).1
  rw [freeB_iff _ _ (Nat.le_refl _)] at h4
  have := h4 i ts.length t t hi (by simp) (by rw [List.getElem?_append_left hi]; exact ht) (by simp)
  simp [sameT] at this

end Go.Proofs.Ytaojognjkiifmaa

namespace Go.Proofs.Ytaojognjkiifmaa
open Go.RowKit

/-- The net that is being made, in the block X. -/
structure LSt (X : Nat) (w3 wr : World) (n : Nat) (v : Value) (L : List ArcD) : Prop where
  o0 : wr.cell? ⟨X, 0, none⟩ = some (.int .i64 (n : Int))
  o1 : wr.cell? ⟨X, 1, none⟩ = some v
  row : RowN wr X 32 2
  own : wr.ownsRow (X + 1) 52 5 v L.length (cellsOf L)
  past : Past w3 wr
theorem LSt.later {X n : Nat} {w3 wr w' : World} {v : Value} {L : List ArcD} (h : LSt X w3 wr n v L) (hb : Past wr w') : LSt X w3 w' n v L :=
  ⟨cell_in hb h.o0, cell_in hb h.o1, h.row.keep (hb.block _ h.row.lt), World.ownsRow.kept h.own (grown_of_below hb none) (by cases hv : v.ownBlock <;> simp), h.past.trans hb⟩
theorem LSt.put {X n k : Nat} {w3 wr wa w9 : World} {v v' : Value} {L : List ArcD} {a : ArcD} {cs : List Value} (h : LSt X w3 wr n v L) (hX : w3.heap.size ≤ X) (hp : Past wr wa) (hg : wa.grownBy w9 v.ownBlock)
    (ho : w9.ownsRow (X + 1) 52 5 v' k cs) (hk : k = L.length + 1) (hc : cs = cellsOf L ++ [.int .i64 a.f, .int .i64 a.t, .int .i64 a.c, .int .i64 a.l, .int .i64 a.d]) :
    (∃ u, w9.cell? ⟨X, 1, none⟩ = some u) ∧ w9.frozen? ⟨X, 1, none⟩ = false ∧ LSt X w3 (w9.setCell ⟨X, 1, none⟩ v') n v' (L ++ [a]) := by
  have h1 := h.later hp
  have hne : some X ≠ v.ownBlock := own_ne h1.own (by omega)
  have r9 : RowN w9 X 32 2 := h1.row.keep (hg.block _ h1.row.lt hne)
  have o0 : w9.cell? ⟨X, 0, none⟩ = some (.int .i64 (n : Int)) := (World.cell?_of_block (w := wa) (a := ⟨X, 0, none⟩) (hg.block _ h1.row.lt hne)).trans h1.o0
  have o1 : w9.cell? ⟨X, 1, none⟩ = some v := (World.cell?_of_block (w := wa) (a := ⟨X, 1, none⟩) (hg.block _ h1.row.lt hne)).trans h1.o1
  have hne' : v'.ownBlock ≠ some X := fun e => own_ne ho (g := X) (by omega) e.symm
  have hp9 : Past w3 w9 := Below.grown h1.past hg h1.past.size (fun b e => by have := (h1.own.lt b e).1; omega)
  refine ⟨⟨_, o1⟩, r9.frozen 1, ⟨(World.cell?_setCell_other _ _ _ _ (by simp)).trans o0, World.cell?_setCell_same _ _ _ o1, r9.set _ _, ?_, Below.setCell hp9 hX _⟩⟩
  rw [List.length_append, cellsOf_append]
  subst hk hc
  exact own_far ho hne' _

theorem five_news (w : World) (x0 x1 x2 x3 x4 : Value) (t : Nat) : ∀ j u, ([x0, x1, x2, x3, x4] : List Value)[j]? = some u → (w.alloc (.cells #[x0, x1, x2, x3, x4] t)).cell? ((⟨w.heap.size, 0, none⟩ : Addr).add j) = some u := five_new w x0 x1 x2 x3 x4 t

set_option maxRecDepth 100000 in
set_option maxHeartbeats 8000000 in
theorem specTurnNet_any (m : Int) (A : Option Addr) (n c : Nat) (xs : List ArcD) (B : Option Addr) (l cb : Nat) (ts : List TurnD) (w : World) (hn : n ≤ 1048576) (hnx : xs.length = n) (hx : ArcsAt w A xs) (hl : l ≤ 1048576) (hlt : ts.length = l) (ht : TurnsAt w B ts) :
    Calls Try.prog 36 #[.agg #[.int .i64 m, .slice A n c], .slice B l cb] w (GivesNB w (tnetN m xs ts) (tnetL m xs ts) (tnetB m xs ts)) := by
  have HX := Lib.hid hnx
  have HL := Lib.hid hlt
  clear hnx hlt
  obtain ⟨i0, hi, hz0, hz1, hz2⟩ := info_parts infoArc
  have hb0 : Past w ((w.alloc (.cells #[.int .i64 m, .slice A n c] 32)).alloc (.cells #[.int .i64 0, .slice none 0 0] 32)) := ((Past.refl _).alloc _).alloc _
  go_enter Try.func36, Try.ntmps36
  go_wp2_with fail
  refine (l1Ok_any m A n c xs _ hn HX.out (hx.below hb0)).mono ?_
  rintro e w1 ⟨rfl, hb1⟩
  have b0 := cell_in (p := ⟨w.heap.size, 0, none⟩) (v := .int .i64 m) hb1 (by go_simp)
  have b1 := cell_in (p := ⟨w.heap.size, 1, none⟩) (v := .slice A n c) hb1 (by go_simp)
  have e0 := cell_in (p := ⟨w.heap.size + 1, 0, none⟩) (v := .int .i64 0) hb1 (by go_simp)
  have e1 := cell_in (p := ⟨w.heap.size + 1, 1, none⟩) (v := .slice none 0 0) hb1 (by go_simp)
  have z0 := free_in (p := ⟨w.heap.size + 1, 0, none⟩) (v := .int .i64 0) hb1 (by go_simp) (by go_simp)
  have z1 := free_in (p := ⟨w.heap.size + 1, 1, none⟩) (v := .slice none 0 0) hb1 (by go_simp) (by go_simp)
  have hrc : RowN w1 (w.heap.size + 1) 32 2 := by
    refine RowN.keep (w := ((w.alloc (.cells #[.int .i64 m, .slice A n c] 32)).alloc (.cells #[.int .i64 0, .slice none 0 0] 32))) ⟨#[.int .i64 0, .slice none 0 0], ?_, rfl⟩ (hb1.block _ (by simp))
    have := heap_alloc_new (w.alloc (.cells #[.int .i64 m, .slice A n c] 32)) (.cells #[.int .i64 0, .slice none 0 0] 32)
    simpa using this
  have hp1 := hb0.trans hb1
  clear hb0 hb1
  cases hB : netB m xs with
  | false =>
    have HF : Hid (tnetB m xs ts = false) := tnet_turns (by rw [turnsB_list, hB]; rfl)
    clear hB
    go_wp2
    exact bodyPost_ret (v := .tuple #[.agg #[.int .i64 0, .slice none 0 0], .bool false]) (by simp [results, Try.results36, go_sem, e0, e1]) rfl (givesNB_no HF.out rfl (Below.setCell (Below.setCell hp1 (by simp) _) (by simp) _))
  | true =>
  have HF : Hid (turnsB m xs ts = tlistB xs ts) := by rw [Hid, turnsB_list, hB]; rfl
  have HB := Lib.hid hB
  clear hB
  go_wp2_with fail
  refine (l4Ok_any m A n c xs B l cb ts _ hn HX.out (hx.below hp1) hl HL.out (ht.below hp1)).mono ?_
  rintro e w2 ⟨rfl, hb2⟩
  have b0 := cell_in hb2 b0
  have b1 := cell_in hb2 b1
  have z0 := free_in hb2 e0 z0
  have z1 := free_in hb2 e1 z1
  have e0 := cell_in hb2 e0
  have e1 := cell_in hb2 e1
  have hrc := hrc.keep (hb2.block _ hrc.lt)
  have hp2 := hp1.trans hb2
  clear hb2 hp1
  cases hC : tlistB xs ts with
  | false =>
    have HV : Hid (tnetB m xs ts = false) := tnet_turns (by rw [HF.out, hC])
    clear hC
    go_wp2
    exact bodyPost_ret (v := .tuple #[.agg #[.int .i64 0, .slice none 0 0], .bool false]) (by simp [results, Try.results36, go_sem, e0, e1]) rfl (givesNB_no HV.out rfl (Below.setCell (Below.setCell hp2 (by simp) _) (by simp) _))
  | true =>
  have HT : Hid (turnsB m xs ts = true) := by rw [Hid, HF.out, hC]
  clear hC HF
  cases hD : inB (n : Int) 1 8 with
  | false =>
    have HV : Hid (tnetB m xs ts = false) := tnet_many (by rw [HX.out]; exact hD)
    have cA := fun w => (in_q hD w).mono (R' := fun e w' => e = .returned (.bool _) ∧ w = w') fun _ _ e => ⟨e.1, e.2.symm⟩
    clear hD
    go_wp2_with fail
    refine (cA _).mono ?_
    rintro e w3 ⟨rfl, rfl⟩
    go_wp2
    exact bodyPost_ret (v := .tuple #[.agg #[.int .i64 0, .slice none 0 0], .bool false]) (by simp [results, Try.results36, go_sem, e0, e1]) rfl (givesNB_no HV.out rfl (Below.setCell (Below.setCell hp2 (by simp) _) (by simp) _))
  | true =>
  have cA := fun w => (in_q hD w).mono (R' := fun e w' => e = .returned (.bool _) ∧ w = w') fun _ _ e => ⟨e.1, e.2.symm⟩
  have hn8 := (inB_iff _ _ _).1 hD
  have hn1 : 1 ≤ n := by omega
  have hn88 : n ≤ 8 := by omega
  clear hD hn8
  go_wp2_with fail
  refine (cA _).mono ?_
  rintro e w3 ⟨rfl, rfl⟩
  have hx2 := hx.below hp2
  have ht2 := ht.below hp2
  have sw : w.heap.size + 1 < w2.heap.size := lt_of_cell e0
  have hst0 : LSt w2.heap.size w2 (w2.alloc (.cells #[.int .i64 (n : Int), .slice none 0 0] 32)) n (.slice none 0 0) [] := ⟨by go_simp, by go_simp, ⟨_, heap_alloc_new w2 _, rfl⟩, World.ownsRow_nil _ _ _ _, (Past.refl w2).alloc _⟩
  clear cA hx ht
  go_wp2
  go_loopw [7] (fun q wr => ∃ (i : Nat) (v : Value), i ≤ n ∧ q = .int .i64 i ∧ LSt w2.heap.size w2 wr n v (lineTo xs ts n i)) (fun q _ => n - (intOf q).toNat)
  case atStart => exact ⟨0, _, Nat.zero_le _, rfl, hst0⟩
  case round =>
    obtain ⟨i, v, hi', rfl, hS⟩ := hrel
    have b1r := cell_in hS.past b1
    by_cases hin : i < n
    · go_wp2
      go_loopw [8] (fun q wi => ∃ (k : Nat) (v : Value), k ≤ n ∧ q = .int .i64 k ∧ LSt w2.heap.size w2 wi n v (lineTo xs ts n i ++ rowL xs ts i k)) (fun q _ => n - (intOf q).toNat)
      case atStart => exact ⟨0, v, Nat.zero_le _, rfl, by simpa [rowL] using hS⟩
      case round =>
        clear hS b1r
        obtain ⟨k, v, hk', rfl, hS⟩ := hrel
        have b1r := cell_in hS.past b1
        by_cases hkn : k < n
        · obtain ⟨a, ha⟩ : ∃ a, xs[i]? = some a := ⟨_, List.getElem?_eq_getElem (by have := HX.out; omega)⟩
          obtain ⟨⟨f', t', c', l', d'⟩, hb'⟩ : ∃ a, xs[k]? = some a := ⟨_, List.getElem?_eq_getElem (by have := HX.out; omega)⟩
          obtain ⟨f, t, ca, la, da⟩ := a
          obtain ⟨g, o, rfl, _, d1, _, _, _⟩ := (hx2.below hS.past) i _ ha
          obtain ⟨g', o', eg, f0, _, f2, _, _⟩ := (hx2.below hS.past) k _ hb'
          injection eg with eg
          injection eg with eg1 eg2
          subst eg1 eg2
          have cT := l4Cost_any B l cb ts (i : Int) (k : Int) wr hl HL.out (ht2.below hS.past)
          have hcb := costF_bd (turnsB_all HT.out).2.2.1 (i : Int) (k : Int)
          have hbo := ((netB_iff _ _).1 HB.out).2.2 _ (List.mem_of_getElem? hb')
          have hao := ((netB_iff _ _).1 HB.out).2.2 _ (List.mem_of_getElem? ha)
          simp only [arcB, Bool.and_eq_true, inB_iff, Bool.not_eq_true', beq_eq_false_iff_ne] at hbo hao
          have hc99 : 0 ≤ c' ∧ c' ≤ 99 := hbo.2.2.2.1
          have hfa : f ≠ t := hao.2.2.1
          have HA := Lib.hid ha
          have HB' := Lib.hid hb'
          obtain ⟨C, hC⟩ : ∃ C, C = costF ts (i : Int) (k : Int) := ⟨_, rfl⟩
          rw [← hC] at hcb cT
          have HCC := Lib.hid hC
          have i0' : (0 : Int) ≤ (i : Int) := by omega
          have i1 : (i : Int) < (n : Int) := by omega
          have k0 : (0 : Int) ≤ (k : Int) := by omega
          have k1 : (k : Int) < (n : Int) := by omega
          simp only at d1 f0 f2
          clear ha hb' hC hbo hao
          go_wp2_with fail
          refine cT.mono ?_
          rintro e w4 ⟨rfl, rfl⟩
          clear cT
          by_cases hE : t = f'
          rotate_left
          · have q1 : (t == f') = false := by simpa using hE
            have HN : Hid (lineTo xs ts n i ++ rowL xs ts i (k + 1) = lineTo xs ts n i ++ rowL xs ts i k) := by rw [Hid, rowL, lineArc_turn HA.out HB'.out hE, List.append_nil]
            clear hE
            go_wp2_with fail
            go_quiet (fail)
            go_wp2
            go_roundw
            case rel => exact ⟨k + 1, v, by omega, by go_num, by rw [HN.out]; exact hS.later ((Past.refl _).drewN _)⟩
            case measure => simp [intOf]; omega
          have q1 : (t == f') = true := by simpa using hE
          by_cases hneg : 0 ≤ C
          rotate_left
          · have q2 : ¬ (0 ≤ C) := hneg
            have HN : Hid (lineTo xs ts n i ++ rowL xs ts i (k + 1) = lineTo xs ts n i ++ rowL xs ts i k) := by rw [Hid, rowL, lineArc_no HA.out HB'.out (by rw [← HCC.out]; exact hneg), List.append_nil]
            have q3 : decide (0 ≤ C) = false := decide_eq_false hneg
            clear hE hneg
            go_wp2_with fail
            go_quiet (fail)
            go_wp2
            go_roundw
            case rel => exact ⟨k + 1, v, by omega, by go_num, by rw [HN.out]; exact hS.later ((Past.refl _).drewN _)⟩
            case measure => simp [intOf]; omega
          have q2 : decide (0 ≤ C) = true := decide_eq_true hneg
          have hik : ¬ i = k := fun e => by
            subst e
            have := HA.out.symm.trans HB'.out
            injection this with this
            injection this with h1 h2
            exact hfa (by omega)
          have q3 : ((i : Int) != (k : Int)) = true := by simp; omega
          have HN : Hid (lineTo xs ts n i ++ rowL xs ts i (k + 1) = (lineTo xs ts n i ++ rowL xs ts i k) ++ [⟨(i : Int), (k : Int), C + c', 0, 9⟩]) := by
            rw [Hid, rowL, lineArc_hit HA.out HB'.out hE (by rw [← HCC.out]; exact hneg), ← HCC.out, List.append_assoc]
          have hlen : (lineTo xs ts n i ++ rowL xs ts i k).length ≤ 72 := by
            have h1 := lineTo_len xs ts n i
            have h2 := rowL_len xs ts i k
            have h3 : i * n ≤ 8 * 8 := Nat.mul_le_mul (by omega) hn88
            rw [List.length_append]
            omega
          obtain ⟨L, hL⟩ : ∃ L, L = lineTo xs ts n i ++ rowL xs ts i k := ⟨_, rfl⟩
          rw [← hL] at hS hlen HN
          clear hE hL hik hfa
          go_wp2_with fail
          go_quiet (fail)
          obtain ⟨w5, hw5⟩ : ∃ u, u = wr.drewN nq := ⟨_, rfl⟩
          have hS : LSt w2.heap.size w2 w5 n v L := by rw [hw5]; exact hS.later ((Past.refl _).drewN _)
          have b1r : w5.cell? ⟨w.heap.size, 1, none⟩ = some (.slice (some ⟨g, o, none⟩) n c) := by rw [hw5]; exact b1r
          have f2 : w5.cell? ⟨g, o + k * 5 + 2, none⟩ = some (.int .i64 c') := by rw [hw5]; exact f2
          clear d1 f0 q1 q2 q3
          go_wp2_with fail
          rw [← hw5]
          clear hw5
          obtain ⟨D, hD⟩ : ∃ D, D = L.length := ⟨_, rfl⟩
          have hown : w5.ownsRow (w2.heap.size + 1) 52 5 v D (cellsOf L) := by rw [hD]; exact hS.own
          have hD72 : D ≤ 72 := by omega
          have o1 := hS.o1
          have s1 : IntKind.i64.wrap (C + c') = C + c' := IntWalk.i64_in _ (by omega)
          have HDD := Lib.hid hD
          have HO := Lib.hid hown
          have HS := Lib.hid hS
          have sz5 : w2.heap.size + 1 ≤ w5.heap.size := by have := hS.row.lt; omega
          have hgw : g < w2.heap.size ∨ True := .inr trivial
          have y0 := World.new_ne w5 _ b1r
          have y1 := World.new_ne w5 _ f2
          have y2 := World.new_ne w5 _ o1
          have hgX : g ≠ w2.heap.size := by
            obtain ⟨g3, o3, e3, h3, _⟩ := hx2 k _ HB'.out
            injection e3 with e3
            injection e3 with e4 e5
            subst e4
            have := lt_of_cell h3
            simp only at this
            omega
          have hbX : w.heap.size ≠ w2.heap.size := by omega
          have hq0 : ∀ (u : World) (x : Value), (u.setCell ⟨w2.heap.size, 1, none⟩ x).cell? ⟨w.heap.size, 1, none⟩ = u.cell? ⟨w.heap.size, 1, none⟩ := fun u x => World.cell?_setCell_other _ _ _ _ (by intro e; injection e; omega)
          have hq1 : ∀ (u : World) (x : Value), (u.setCell ⟨w2.heap.size, 1, none⟩ x).cell? ⟨g, o + k * 5 + 2, none⟩ = u.cell? ⟨g, o + k * 5 + 2, none⟩ := fun u x => World.cell?_setCell_other _ _ _ _ (by intro e; injection e; omega)
          have hgl : g < w2.heap.size := by
            obtain ⟨g3, o3, e3, h3, _⟩ := hx2 k _ HB'.out
            injection e3 with e3
            injection e3 with e4 e5
            subst e4
            exact lt_of_cell h3
          clear hS hown hD
          have hnews : ∀ j u, ([.int .i64 (i : Int), .int .i64 (k : Int), .int .i64 (C + c'), .int .i64 0, .int .i64 9] : List Value)[j]? = some u → (w5.drew.alloc (.cells #[.int .i64 (i : Int), .int .i64 (k : Int), .int .i64 (C + c'), .int .i64 0, .int .i64 9] 52)).cell? ((⟨w5.heap.size, 0, none⟩ : Addr).add j) = some u := five_news w5.drew _ _ _ _ _ _
          have hownA : (w5.drew.alloc (.cells #[.int .i64 (i : Int), .int .i64 (k : Int), .int .i64 (C + c'), .int .i64 0, .int .i64 9] 52)).ownsRow (w2.heap.size + 1) 52 5 v D (cellsOf L) := World.ownsRow.alloc (w := w5.drew) HO.out _
          have o1A : (w5.alloc (.cells #[.int .i64 (i : Int), .int .i64 (k : Int), .int .i64 (C + c'), .int .i64 0, .int .i64 9] 52)).cell? ⟨w2.heap.size, 1, none⟩ = some v := cell_in (W := w5) ((Past.refl w5).alloc _) o1
          have HNW := Lib.hid hnews
          have HOA := Lib.hid hownA
          clear hnews hownA hgX hbX hq0 hq1 hgl hgw
          go_region_law
            ((refine step_append_any (by rfl) _ _ _ (by rfl) (w2.heap.size + 1) 52 i0 _ 5 40 Try.underlying30 hi hz0 hz1 hz2 rfl (by omega) v D (cellsOf L) (by rfl) HOA.out ⟨w5.heap.size, 0, none⟩ 1 1 (by rfl) [.int .i64 (i : Int), .int .i64 (k : Int), .int .i64 (C + c'), .int .i64 0, .int .i64 9] rfl HNW.out (cellsOf_one [⟨(i : Int), (k : Int), C + c', 0, 9⟩]) (by unfold maxLen; omega) (by omega) (by simp; omega) ?_; intro v1 w9 hown1 hgrow1 hat1; obtain ⟨gv, cv, rfl, hgv, hgw⟩ := World.ownsRow.form hown1 (by omega); obtain ⟨⟨u9, x9⟩, z9, hS9⟩ := HS.out.put (a := ⟨(i : Int), (k : Int), C + c', 0, 9⟩) (Nat.le_refl _) (((Past.refl w5).drew).alloc _) hgrow1 hown1 (by rw [HDD.out]) rfl))
          all_goals go_wp2
          all_goals go_roundw
          all_goals first | (case rel => exact ⟨k + 1, _, by omega, by go_num, by rw [HN.out]; exact hS9⟩) | (case measure => simp [intOf]; omega)
        · obtain rfl : k = n := by omega
          go_wp2
          go_roundw
          case rel => exact ⟨i + 1, v, by omega, by go_num, hS⟩
          case measure => simp [intOf]; omega
    · obtain rfl : i = n := by omega
      have hlen : (lineTo xs ts i i).length ≤ 64 := by
        have h1 := lineTo_len xs ts i i
        have h3 : i * i ≤ 8 * 8 := Nat.mul_le_mul hn88 hn88
        omega
      have HLL : Hid (lineTo xs ts i i = lineL xs ts) := by rw [Hid, lineL, HX.out]
      obtain ⟨D, hDD⟩ : ∃ D, D = (lineTo xs ts i i).length := ⟨_, rfl⟩
      obtain ⟨A2, c2, rfl, hx9, _⟩ := (show ResA wr (w2.heap.size + 1) v (lineTo xs ts i i) from hS.own).form
      have hown := hS.own
      have o0 := hS.o0
      have o1 := hS.o1
      have hpr := hp2.trans hS.past
      have e0r := cell_in hS.past e0
      have e1r := cell_in hS.past e1
      have z0r := free_in hS.past e0 z0
      have z1r := free_in hS.past e1 z1
      rw [← hDD] at hlen hown o1
      have HDD := Lib.hid hDD
      have HS := Lib.hid hS
      clear hS hDD
      go_wp2_with fail
      refine (l1Ok_any (i : Int) A2 D c2 (lineTo xs ts i i) _ (by omega) HDD.out.symm hx9).mono ?_
      rintro e w5 ⟨rfl, hb5⟩
      have o0 := cell_in hb5 o0
      have o1 := cell_in hb5 o1
      have z0r := free_in hb5 e0r z0r
      have z1r := free_in hb5 e1r z1r
      have e0r := cell_in hb5 e0r
      have e1r := cell_in hb5 e1r
      have hown := World.ownsRow.kept hown (grown_of_below hb5 none) (by cases hv : (Value.slice A2 D c2).ownBlock <;> simp)
      have hpr := hpr.trans hb5
      cases hO : netB (i : Int) (lineTo xs ts i i) with
      | false =>
        have HV : Hid (tnetB m xs ts = false) := by rw [Hid, tnet_line HT.out, HX.out, ← HLL.out]; exact hO
        clear hO
        go_wp2
        exact bodyPost_ret (v := .tuple #[.agg #[.int .i64 0, .slice none 0 0], .bool false]) (by simp [results, Try.results36, go_sem, e0r, e1r]) rfl (givesNB_no HV.out rfl (Below.setCell (Below.setCell hpr (by simp) _) (by simp) _))
      | true =>
        have HV : Hid (tnetB m xs ts = true) := by rw [Hid, tnet_line HT.out, HX.out, ← HLL.out]; exact hO
        clear hO
        go_wp2
        refine bodyPost_ret (v := .tuple #[.agg #[.int .i64 (i : Int), .slice A2 D c2], .bool true]) (by simp [results, Try.results36, go_sem, e0r, e1r]) rfl ?_
        refine givesNB_yes (lo := w2.heap.size + 1) (cs := cellsOf (lineTo xs ts i i)) HV.out HX.out.symm (by omega) D (by rw [HDD.out, HLL.out]) (by rw [HLL.out]) ?_ (Below.setCell (Below.setCell hpr (by simp) _) (by simp) _)
        exact own_far (own_far hown (fun e => own_ne hown (g := w.heap.size + 1) (by omega) e.symm) _) (fun e => own_ne hown (g := w.heap.size + 1) (by omega) e.symm) _

end Go.Proofs.Ytaojognjkiifmaa

namespace Go.Proofs.Ytaojognjkiifmaa
open Go.RowKit Go.Shelf Go.Maps

attribute [local go_sem] Oper.semAt_some

/-- The line net, in new memory. -/
def LineG (w : World) (n : Nat) (xs : List ArcD) (ts : List TurnD) (e : Ending) (w' : World) : Prop :=
  ∃ v, e = .returned (.agg #[.int .i64 (n : Int), v]) ∧ ResA w' w.heap.size v (lineL xs ts) ∧ Below w.heap.size w w'

/-- The frame between two rounds. -/
def nFrame (V X : Nat) (m : Int) (A : Option Addr) (n c : Nat) (B : Option Addr) (l cb P i : Nat) (u : Nat → Value) (ds : List Deferred) : Act :=
  { tmps := (.agg #[.int .i64 m, .slice A n c] :: .slice B l cb :: .pointer (some ⟨V, 0, none⟩) :: undef :: .pointer (some ⟨V + 1, 0, none⟩) :: .pointer (some ⟨X, 0, none⟩) :: .pointer (some ⟨X + 1, 0, none⟩) :: u 7 :: u 8 :: u 9 :: u 10 :: .slice B l cb :: .map (some P) :: .pointer (some ⟨V, 1, none⟩) :: .slice A n c :: .int .i64 (n : Int) :: .agg #[.int .i64 (n : Int), .slice none 0 0] :: .pointer (some ⟨V, 1, none⟩) :: .slice A n c :: .int .i64 (n : Int) :: .int .i64 (i : Int) :: u 21 :: u 22 :: u 23 :: u 24 :: u 25 :: u 26 :: u 27 :: u 28 :: u 29 :: u 30 :: u 31 :: u 32 :: u 33 :: u 34 :: u 35 :: u 36 :: u 37 :: u 38 :: u 39 :: u 40 :: u 41 :: u 42 :: u 43 :: u 44 :: u 45 :: u 46 :: u 47 :: u 48 :: u 49 :: u 50 :: u 51 :: u 52 :: u 53 :: undef :: []).toArray, defers := ds }
theorem nFrame_mk {V X : Nat} {m : Int} {A : Option Addr} {n c : Nat} {B : Option Addr} {l cb P i : Nat} (t : Array Value) (ds : List Deferred) (h : t = (nFrame V X m A n c B l cb P i (fun i => t.getD i undef) ds).tmps) : ∃ u, (Act.mk t ds) = nFrame V X m A n c B l cb P i u ds :=
  ⟨fun i => t.getD i undef, by rw [nFrame]; congr 1⟩

/-- What comes of the arcs that an iterator has told so far. -/
def rowP (xs : List ArcD) (ts : List TurnD) (i : Nat) (p : List Int) : List ArcD := p.flatMap fun y => lineArc xs ts i y.toNat
theorem rowP_snoc (xs : List ArcD) (ts : List TurnD) (i : Nat) (p : List Int) (y : Int) : rowP xs ts i (p ++ [y]) = rowP xs ts i p ++ lineArc xs ts i y.toNat := by simp [rowP]
theorem rowP_all {xs : List ArcD} (ts : List TurnD) {i : Nat} {a : ArcD} (ha : xs[i]? = some a) : ∀ n, n ≤ xs.length → rowP xs ts i (outTo xs a.t n) = rowL xs ts i n
  | 0, _ => rfl
  | n + 1, hn => by
    have ih := rowP_all ts ha n (by omega)
    obtain ⟨b, hb⟩ : ∃ b, xs[n]? = some b := ⟨_, List.getElem?_eq_getElem (by omega)⟩
    rw [rowL, ← ih]
    cases he : (b.f == a.t) with
    | true => rw [outTo_hit hb he, rowP_snoc]; simp
    | false => rw [outTo_miss hb he, lineArc_turn ha hb (by simp at he; exact fun e => he e.symm), List.append_nil]
theorem rowP_len (xs : List ArcD) (ts : List TurnD) (i : Nat) : ∀ p : List Int, (rowP xs ts i p).length ≤ p.length
  | [] => by simp [rowP]
  | y :: p => by
    have h1 := rowP_len xs ts i p
    have h2 := lineArc_len xs ts i y.toNat
    simp only [rowP, List.flatMap_cons, List.length_append, List.length_cons] at *
    omega

/-- What holds between two rounds. -/
def LnLoop (w w1 : World) (m : Int) (A : Option Addr) (n c : Nat) (xs : List ArcD) (B : Option Addr) (l cb : Nat) (ts : List TurnD) (P : Nat) (q : Nat) (a : Act) (wr : World) : Prop :=
  ∃ (i : Nat) (v : Value) (rs : List Nat), i ≤ n ∧ n - i ≤ q ∧ (∃ u, a = nFrame w.heap.size w1.heap.size m A n c B l cb P i u (rs.map mkD)) ∧ LSt (w1.heap.size + 1) w1 wr n v (lineTo xs ts n i) ∧
    wr.cell? ⟨w1.heap.size, 0, none⟩ = some (.map (some P)) ∧ (∀ r ∈ rs, wr.heap[r]? = some (.deferred (some []))) ∧ rs.Nodup ∧ (∀ r ∈ rs, w1.heap.size + 2 ≤ r)
/-- What holds between two rounds of the inner loop; Y: the box of the arc's number. -/
structure LnIn (w1 W : World) (X Y n : Nat) (i : Nat) (P : Nat) (rs : List Nat) (v : Value) (L : List ArcD) : Prop where
  st : LSt (X + 1) w1 W n v L
  costs : W.cell? ⟨X, 0, none⟩ = some (.map (some P))
  num : W.cell? ⟨Y, 0, none⟩ = some (.int .i64 (i : Int))
  defs : ∀ r ∈ rs, W.heap[r]? = some (.deferred (some []))
  off : ∀ b, v.ownBlock = some b → b < Y ∨ Y + 4 ≤ b
  base : Y + 4 ≤ W.heap.size

section
variable {w1 W W' : World} {X Y n i P : Nat} {rs : List Nat} {v : Value} {L : List ArcD}
theorem LnIn.turn {row : Option Nat} (h : LnIn w1 W X Y n i P rs v L) (hXY : w1.heap.size ≤ Y) (hrs : ∀ r ∈ rs, r < Y + 4) (hg : W.grownBy W' row) (hr : ∀ r, row = some r → Y + 4 ≤ r ∧ ∃ o : Obj, W.heap[r]? = some o ∧ o.isCells = false) : LnIn w1 W' X Y n i P rs v L := by
  have no : ∀ x cs t f, W.heap[x]? = some (.cells cs t f) → some x ≠ row := fun x cs t f hx e => by
    obtain ⟨_, o, ho, hc⟩ := hr x e.symm
    rw [hx] at ho
    injection ho with ho
    rw [← ho] at hc
    cases hc
  refine ⟨⟨cell_kept h.st.o0 hg (fun r e => (hr r e).2), cell_kept h.st.o1 hg (fun r e => (hr r e).2), ?_, ?_, Below.grown h.st.past hg h.st.past.size (fun r e => by have := (hr r e).1; omega)⟩, cell_kept h.costs hg (fun r e => (hr r e).2), cell_kept h.num hg (fun r e => (hr r e).2), fun r hr' => ?_, h.off, Nat.le_trans h.base hg.size⟩
  · obtain ⟨cs, hcs, hl⟩ := h.st.row
    exact h.st.row.keep (hg.block _ h.st.row.lt (no _ _ _ _ hcs))
  · refine World.ownsRow.kept h.st.own hg ?_
    cases hv : v.ownBlock with
    | none => simp
    | some b =>
      obtain ⟨cs, hcs⟩ := cells_of_own h.st.own hv
      exact .inr (no _ _ _ _ hcs)
  · have hd := h.defs r hr'
    rw [hg.block r (Array.getElem?_eq_some_iff.1 hd).1 (fun e => by have := (hr r e.symm).1; have := hrs r hr'; omega)]
    exact hd
end

/-- One arc more. -/
theorem LnIn.fill {w1 W : World} {X Y n i P : Nat} {rs : List Nat} {v : Value} {L : List ArcD} (h : LnIn w1 W X Y n i P rs v L) (a : ArcD) (n0 : Nat) (hn0 : n0 ≤ X + 1) (hL : L.length ≤ 1000) (hX : w1.heap.size ≤ X) (hXY : X + 1 < Y) (hrs : ∀ r ∈ rs, X + 2 ≤ r) :
    ∃ v1 w9, (Builtin.append_ #[30, 30] 30 #[v, .slice (some ⟨W.heap.size, 0, none⟩) 1 1]).run Try.prog (W.drew.alloc (.cells #[.int .i64 a.f, .int .i64 a.t, .int .i64 a.c, .int .i64 a.l, .int .i64 a.d] 52)) = .ok v1 w9 ∧
      (∃ A2 k c2, v1 = .slice A2 k c2) ∧ (∀ p u, p.block < X + 2 ∨ (Y ≤ p.block ∧ p.block < Y + 4) → W.cell? p = some u → w9.cell? p = some u) ∧
      (∃ u, w9.cell? ⟨X + 1, 1, none⟩ = some u) ∧ w9.frozen? ⟨X + 1, 1, none⟩ = false ∧ LnIn w1 (w9.setCell ⟨X + 1, 1, none⟩ v1) X Y n i P rs v1 (L ++ [a]) ∧
      KeepsFrom (Y + 4) W (w9.setCell ⟨X + 1, 1, none⟩ v1) ∧ (∀ k, k < X + 1 ∨ (Y ≤ k ∧ k < Y + 4) → (w9.setCell ⟨X + 1, 1, none⟩ v1).heap[k]? = W.heap[k]?) ∧ Below n0 W (w9.setCell ⟨X + 1, 1, none⟩ v1) := by
  obtain ⟨i0, hi, hz0, hz1, hz2⟩ := info_parts infoArc
  have hown := h.st.own
  have hsz := h.base
  have hownA : (W.drew.alloc (.cells #[.int .i64 a.f, .int .i64 a.t, .int .i64 a.c, .int .i64 a.l, .int .i64 a.d] 52)).ownsRow (X + 1 + 1) 52 5 v L.length (cellsOf L) := World.ownsRow.alloc (w := W.drew) hown _
  obtain ⟨v1, w9, hr, h2, h3, _, h5⟩ := run_append_own_at (P := Try.prog) (W.drew.alloc (.cells #[.int .i64 a.f, .int .i64 a.t, .int .i64 a.c, .int .i64 a.l, .int .i64 a.d] 52)) (X + 1 + 1) 30 30 52 i0 _ 5 40 Try.underlying30 hi hz0 hz1 hz2 rfl (by omega) v L.length (cellsOf L) hownA ⟨W.heap.size, 0, none⟩ 1 1 [.int .i64 a.f, .int .i64 a.t, .int .i64 a.c, .int .i64 a.l, .int .i64 a.d] rfl (five_news W.drew _ _ _ _ _ _) (cellsOf_one [a]) (by unfold maxLen; omega) (by omega) (by simp; omega)
  obtain ⟨u9, z9, hS9⟩ := h.st.put (a := a) (wa := W.drew.alloc (.cells #[.int .i64 a.f, .int .i64 a.t, .int .i64 a.c, .int .i64 a.l, .int .i64 a.d] 52)) (by omega) (((Past.refl W).drew).alloc _) h3 h2 rfl rfl
  have hs1 : (W.drew.alloc (.cells #[.int .i64 a.f, .int .i64 a.t, .int .i64 a.c, .int .i64 a.l, .int .i64 a.d] 52)).heap.size = W.heap.size + 1 := by simp
  have off : ∀ k, k < X + 2 ∨ (Y ≤ k ∧ k < Y + 4) → some k ≠ v.ownBlock := fun k hk e => by
    rcases hk with hk | hk
    · exact own_ne hown (g := k) (by omega) e
    · have := h.off k e.symm; omega
  have old : ∀ k, k < W.heap.size → (W.drew.alloc (.cells #[.int .i64 a.f, .int .i64 a.t, .int .i64 a.c, .int .i64 a.l, .int .i64 a.d] 52)).heap[k]? = W.heap[k]? := fun k hk => Below.heap_alloc W.drew _ k hk
  have hX1 : X + 1 < W.heap.size := by omega
  have far : ∀ p u, p.block < X + 2 ∨ (Y ≤ p.block ∧ p.block < Y + 4) → W.cell? p = some u → w9.cell? p = some u := fun p u hp hc => h3.cell (cell_in (((Past.refl W).drew).alloc _) hc) (off _ hp)
  have h9 : ∀ k, k < W.heap.size → some k ≠ v.ownBlock → k ≠ X + 1 → (w9.setCell ⟨X + 1, 1, none⟩ v1).heap[k]? = W.heap[k]? := fun k hk hne hx => (Below.heap_setCell _ _ _ _ hx).trans ((h3.block k (by omega) hne).trans (old k hk))
  have hsz9 : W.heap.size ≤ (w9.setCell ⟨X + 1, 1, none⟩ v1).heap.size := by have := h3.size; rw [hs1] at this; simp; omega
  refine ⟨v1, w9, hr, ?_, far, u9, z9, ⟨hS9, ?_, ?_, fun r hr' => ?_, fun b e => ?_, by omega⟩, ⟨hsz9, fun k o hk ho hc => ?_⟩, fun k hk => h9 k (by omega) (off k (by omega)) (by omega), ?_⟩
  · obtain ⟨g, c, e, _⟩ := World.ownsRow.form h2 (by omega)
    exact ⟨_, _, _, e⟩
  · exact (World.cell?_setCell_other _ _ _ _ (by simp)).trans (far _ _ (.inl (by simp)) h.costs)
  · exact (World.cell?_setCell_other _ _ _ _ (by intro e; injection e; omega)).trans (far _ _ (.inr (by simp)) h.num)
  · have hd := h.defs r hr'
    refine (h9 r (Array.getElem?_eq_some_iff.1 hd).1 (fun e => ?_) (by have := hrs r hr'; omega)).trans hd
    obtain ⟨cs, hcs⟩ := cells_of_own hown e.symm
    rw [hcs] at hd
    cases hd
  · rcases h5 with e5 | e5
    · exact h.off b (e5.symm.trans e)
    · rw [e5] at e
      injection e with e
      omega
  · refine (h9 k (Array.getElem?_eq_some_iff.1 ho).1 (fun e => ?_) (by omega)).trans ho
    obtain ⟨cs, hcs⟩ := cells_of_own hown e.symm
    rw [hcs] at ho
    injection ho with ho
    rw [← ho] at hc
    cases hc
  · refine Below.setCell (Below.grown (Below.alloc (Below.drew (Below.refl n0 W)) (by simp; omega) _) h3 (by rw [hs1]; omega) (fun b e => by have := (hown.lt b e).1; omega)) (by simpa using hn0) _

set_option maxRecDepth 1000000 in
set_option maxHeartbeats 4000000 in
theorem line_in (m : Int) (A : Option Addr) (n c : Nat) (xs : List ArcD) (B : Option Addr) (l cb : Nat) (ts : List TurnD) (w : World) (hn : n ≤ 16) (hnx : xs.length = n) (hx : ArcsAt w A xs) (hl : l ≤ 1048576) (hlt : ts.length = l) (ht : TurnsAt w B ts) (hT : turnsB m xs ts = true) :
    CallsIn Fence.wide 4 Try.prog 63 #[.agg #[.int .i64 m, .slice A n c], .slice B l cb] w (LineG w n xs ts) := by
  have HX := Lib.hid hnx
  have HL := Lib.hid hlt
  have HT := Lib.hid hT
  clear hnx hlt hT
  have hb0 : Past w ((w.alloc (.cells #[.int .i64 m, .slice A n c] 32)).alloc (.cells #[.int .i64 0, .slice none 0 0] 32)) := ((Past.refl _).alloc _).alloc _
  have h16 : xs.length ≤ 16 := by rw [HX.out]; exact hn
  refine callsIn_of_wp_marks Try.func63 rfl trivial ?_ rfl
  simp only [Try.ntmps63, List.size_toArray, List.length_cons, List.length_nil, Nat.reduceAdd, Nat.reduceSub, Array.replicate_succ, Array.replicate_zero, List.push_toArray, List.append_toArray, List.nil_append, List.cons_append]
  gi_wp2_with fail
  refine ⟨trivial, ?_⟩
  refine (callsIn_wide.2 (turnCosts_any B l cb ts _ hl HL.out (ht.below hb0) (fun t hm => turn_wf h16 (List.all_eq_true.1 (turnsB_all HT.out).2.2.1 t hm)))).mono ?_
  rintro e w1 ⟨P, D, rfl, hown, hM, hb1⟩
  have b0 := cell_in (p := ⟨w.heap.size, 0, none⟩) (v := .int .i64 m) hb1 (by go_simp)
  have b1 := cell_in (p := ⟨w.heap.size, 1, none⟩) (v := .slice A n c) hb1 (by go_simp)
  have e0 := cell_in (p := ⟨w.heap.size + 1, 0, none⟩) (v := .int .i64 0) hb1 (by go_simp)
  have e1 := cell_in (p := ⟨w.heap.size + 1, 1, none⟩) (v := .slice none 0 0) hb1 (by go_simp)
  have hrc0 : RowN w1 (w.heap.size + 1) 32 2 := by
    refine RowN.keep (w := ((w.alloc (.cells #[.int .i64 m, .slice A n c] 32)).alloc (.cells #[.int .i64 0, .slice none 0 0] 32))) ⟨#[.int .i64 0, .slice none 0 0], ?_, rfl⟩ (hb1.block _ (by simp))
    have := heap_alloc_new (w.alloc (.cells #[.int .i64 m, .slice A n c] 32)) (.cells #[.int .i64 0, .slice none 0 0] 32)
    simpa using this
  have hp1 := hb0.trans hb1
  have HD := Lib.hid hM.vals
  clear hM hb0 hb1 h16
  have b1A := fun (o : Obj) => cell_in ((Past.refl w1).alloc o) b1
  have b1B := fun (o o' : Obj) => cell_in (((Past.refl w1).alloc o).alloc o') b1
  gi_wp2_with fail
  have hst0 : LSt (w1.heap.size + 1) w1 ((w1.alloc (.cells #[.map (some P)] 100)).alloc (.cells #[.int .i64 (n : Int), .slice none 0 0] 32)) n (.slice none 0 0) (lineTo xs ts n 0) := by
    refine ⟨by go_simp, by go_simp, ⟨_, by have := heap_alloc_new (w1.alloc (.cells #[.map (some P)] 100)) (.cells #[.int .i64 (n : Int), .slice none 0 0] 32); simpa using this, rfl⟩, World.ownsRow_nil _ _ _ _, ((Past.refl w1).alloc _).alloc _⟩
  have hc0 : ((w1.alloc (.cells #[.map (some P)] 100)).alloc (.cells #[.int .i64 (n : Int), .slice none 0 0] 32)).cell? ⟨w1.heap.size, 0, none⟩ = some (.map (some P)) := by go_simp
  refine wpIn_loop_ghost_k (LnLoop w w1 m A n c xs B l cb ts P) n ⟨0, .slice none 0 0, [], Nat.zero_le _, by omega, nFrame_mk _ _ (by rfl), hst0, hc0, by simp, List.nodup_nil, by simp⟩ ?_
  clear hst0 hc0 b1A b1B
  rintro q a wr ⟨i, v, rs, hin, hiq, ⟨u, rfl⟩, hS, hcb, hdf, hnd, hsi⟩ J K hJ hK
  simp only [nFrame]
  have b0r := cell_in hS.past b0
  have b1r := cell_in hS.past b1
  by_cases hlt : i < n
  · obtain ⟨⟨f, t, ca, la, da⟩, ha⟩ : ∃ a, xs[i]? = some a := ⟨_, List.getElem?_eq_getElem (by have := HX.out; omega)⟩
    obtain ⟨g, o, rfl, c0, c1, c2, c3, c4⟩ := ((hx.below hp1).below hS.past) i _ ha
    have HA := Lib.hid ha
    have i0 : (0 : Int) ≤ (i : Int) := by omega
    have i1 : (i : Int) < (n : Int) := by omega
    have b1A := fun (o : Obj) => cell_in ((Past.refl wr).alloc o) b1r
    have b1B := fun (o o' : Obj) => cell_in (((Past.refl wr).alloc o).alloc o') b1r
    have b0B := fun (o o' : Obj) => cell_in (((Past.refl wr).alloc o).alloc o') b0r
    clear ha
    gi_wp2_with fail
    refine ⟨trivial, ?_⟩
    refine (callsIn_wide.2 (arcsFrom_any m t (some ⟨g, o, none⟩) n c _)).mono ?_
    rintro e w5 ⟨rfl, hw5⟩
    clear b1A b1B b0B c0 c1 c2 c3 c4
    have hs5 : w5.heap.size = wr.heap.size + 4 := by rw [hw5]; simp
    have hp5 : Past wr w5 := by rw [hw5]; exact ((((Past.refl _).alloc _).alloc _).alloc _).alloc _
    have hnum : w5.cell? ⟨wr.heap.size, 0, none⟩ = some (.int .i64 (i : Int)) := by rw [hw5]; go_simp
    have hS5 := hS.later hp5
    have hcb5 := cell_in hp5 hcb
    have hdf5 : ∀ r ∈ rs, w5.heap[r]? = some (.deferred (some [])) := fun r hr => (hp5.block r (Array.getElem?_eq_some_iff.1 (hdf r hr)).1).trans (hdf r hr)
    have hC : ArcsC (wr.heap.size + 1 + 1) (wr.heap.size + 1 + 1 + 1) m t (some ⟨g, o, none⟩) n c xs w5 := ⟨by rw [hw5]; go_simp, by rw [hw5]; go_simp, by rw [hw5]; go_simp, ((hx.below hp1).below hS.past).below hp5⟩
    simp only [World.size_alloc]
    clear hw5
    gi_wp2_with fail
    have hrs : ∀ r ∈ rs, r < wr.heap.size + 4 := fun r hr => by have := (Array.getElem?_eq_some_iff.1 (hdf r hr)).1; omega
    have hXr : w1.heap.size + 1 < wr.heap.size := hS.row.lt
    have hw0 := hp1.size
    have hI0 : LnIn w1 w5 w1.heap.size wr.heap.size n i P rs v (lineTo xs ts n i) := ⟨hS5, hcb5, hnum, hdf5, fun b e => .inl (hS.own.lt b e).2, by omega⟩
    refine wpIn_rangeFunc_ownG rfl (by omega) (gf := 100) (lb := #[.pointer (some ⟨wr.heap.size + 1 + 1, 0, none⟩), .pointer (some ⟨wr.heap.size + 1 + 1 + 1, 0, none⟩)]) rfl trivial (enters_of Try.func100 (by kernel_rfl) rfl)
      (arcsK_stops Fence.wide 3 trivial rfl (by omega) (wr.heap.size + 1 + 1) (wr.heap.size + 1 + 1 + 1) w.heap.size m t (some ⟨g, o, none⟩) n c xs HX.out (by omega) w hx (Nat.le_refl _) w5 hC)
      (fun h k => h.trans k) (fun W l o o' hl ho hc hw => ⟨belowK_b (w := w5) (by omega) W l o o' hl ho hc hw, World.putObj_heap_other (by omega), World.putObj_heap_other (by omega)⟩) (Below.refl _ _) (fun _ => rfl)
      (fun pre W => ∃ v, LnIn w1 W w1.heap.size wr.heap.size n i P rs v (lineTo xs ts n i ++ rowP xs ts i (nums pre)))
      (fun _ _ _ => False)
      (fun pre A B row hs hg hr => by
        obtain ⟨v, h⟩ := hs
        exact ⟨v, h.turn (by omega) hrs hg (fun r e => by have := hr r e; rw [hs5] at this; exact this)⟩)
      (fun _ _ _ _ _ hs _ _ => hs)
      ⟨v, by simpa [nums, rowP] using hI0⟩
      (fun x => { tmps := (.agg #[.int .i64 m, .slice (some ⟨g, o, none⟩) n c] :: .slice B l cb :: .pointer (some ⟨w.heap.size, 0, none⟩) :: undef :: .pointer (some ⟨w.heap.size + 1, 0, none⟩) :: .pointer (some ⟨w1.heap.size, 0, none⟩) :: .pointer (some ⟨w1.heap.size + 1, 0, none⟩) :: .pointer (some ⟨wr.heap.size, 0, none⟩) :: .pointer (some ⟨wr.heap.size + 1, 0, none⟩) :: .int .i64 x.1 :: u 10 :: .slice B l cb :: .map (some P) :: .pointer (some ⟨w.heap.size, 1, none⟩) :: .slice (some ⟨g, o, none⟩) n c :: .int .i64 (n : Int) :: .agg #[.int .i64 (n : Int), .slice none 0 0] :: .pointer (some ⟨w.heap.size, 1, none⟩) :: .slice (some ⟨g, o, none⟩) n c :: .int .i64 (n : Int) :: .int .i64 (i : Int) :: .bool true :: .int .i64 (i : Int) :: .pointer (some ⟨g, o + i * 5, none⟩) :: .agg #[.int .i64 f, .int .i64 t, .int .i64 ca, .int .i64 la, .int .i64 da] :: .agg #[.int .i64 m, .slice (some ⟨g, o, none⟩) n c] :: .pointer (some ⟨wr.heap.size + 1, 1, none⟩) :: .int .i64 t :: .func (.func 100) #[] #[.pointer (some ⟨wr.heap.size + 1 + 1, 0, none⟩), .pointer (some ⟨wr.heap.size + 1 + 1 + 1, 0, none⟩)] :: .int .i64 x.1 :: u 30 :: u 31 :: u 32 :: u 33 :: u 34 :: u 35 :: u 36 :: u 37 :: u 38 :: u 39 :: u 40 :: u 41 :: u 42 :: u 43 :: u 44 :: u 45 :: u 46 :: u 47 :: u 48 :: u 49 :: u 50 :: u 51 :: u 52 :: u 53 :: undef :: []).toArray, defers := [] }) ?assign ?body ?done ?stop
    case assign =>
      intro l x W K hK
      gi_wp2
      exact hK
    case body =>
      rintro ld pre ⟨x, j, ⟨f', t', c', l', d'⟩, rfl, hb', hf⟩ W ⟨v, hI⟩ hlt'
      have hf : f' = t := hf
      subst hf
      have hjk : j < n := by rw [← HX.out]; exact (List.getElem?_eq_some_iff.1 hb').1
      obtain ⟨bb, oo, eg, d0, d1, d2, d3, d4⟩ := ((hx.below hp1).below hI.st.past) j _ hb'
      injection eg with eg
      injection eg with eg1 eg2
      subst eg1 eg2
      have hcst := hI.costs
      have hnm := hI.num
      have hmap := hown.kept (grown_of_below hI.st.past none) (by simp)
      obtain ⟨Kl, hkey⟩ := pair_key (i : Int) (j : Int) (WalkArith.wf_i64 (by omega)) (WalkArith.wf_i64 (by omega))
      have hrun : (Instr.lookup 100 (.map (some P)) (.agg #[.int .i64 (i : Int), .int .i64 (j : Int)]) false).run Try.prog W = .ok (.int .i64 (costF ts (i : Int) (j : Int))) W := by
        obtain ⟨cc, h1, h2, _⟩ := World.ownsMap.lookup_int (w := W) (q := .i64) (t := 100) (e := 3) hmap pairLaw Try.underlying100 Try.underlying3 (by kernel_rfl) hkey
        rw [HD.out (i : Int) (j : Int) Kl hkey, ← HL.out, costLT_all ts _ _ (turnsB_all HT.out).2.2.2] at h2
        have h3 : costF ts (i : Int) (j : Int) = cc := by simpa using h2
        rw [h1, h3]
      have hcb' := costF_bd (turnsB_all HT.out).2.2.1 (i : Int) (j : Int)
      obtain ⟨C, hCC⟩ : ∃ C, C = costF ts (i : Int) (j : Int) := ⟨_, rfl⟩
      rw [← hCC] at hrun hcb'
      have HCC := Lib.hid hCC
      have HB' := Lib.hid hb'
      clear hCC hkey hmap d0 d1 d3 d4
      have hrow : (nums (xs := xs) (node := f') pre).length ≤ n := by rw [nums_length]; omega
      by_cases hneg : C = -1
      · have q1 : (C != -1) = false := by simpa using hneg
        have HN : Hid (lineTo xs ts n i ++ rowP xs ts i (nums pre ++ [(j : Int)]) = lineTo xs ts n i ++ rowP xs ts i (nums pre)) := by
          rw [Hid, rowP_snoc, Int.toNat_natCast, lineArc_no HA.out HB'.out (by rw [← HCC.out]; omega), List.append_nil]
        clear hneg
        gi_wp2
        exact ⟨⟨Nat.le_refl _, fun b o _ ho _ => ho⟩, ⟨Below.refl _ _, rfl, rfl⟩, v, by rw [nums_snoc, HN.out]; exact hI⟩
      · have q1 : (C != -1) = true := by simpa using hneg
        gi_wp2_with fail
        have hbw := cell_in hI.st.past b1
        have o1 := hI.st.o1
        have hgl : g < w.heap.size := by
          obtain ⟨g3, o3, e3, h3, _⟩ := hx j _ HB'.out
          injection e3 with e3
          injection e3 with e4 e5
          subst e4
          exact lt_of_cell h3
        have hbo := ((netB_iff _ _).1 (turnsB_all HT.out).1).2.2 _ (List.mem_of_getElem? HB'.out)
        simp [arcB, inB_iff] at hbo
        obtain ⟨L, hL⟩ : ∃ L, L = lineTo xs ts n i ++ rowP xs ts i (nums pre) := ⟨_, rfl⟩
        have HN : Hid (lineTo xs ts n i ++ rowP xs ts i (nums pre ++ [(j : Int)]) = L ++ [⟨(i : Int), (j : Int), C + c', 0, 9⟩]) := by
          rw [Hid, rowP_snoc, Int.toNat_natCast, lineArc_hit HA.out HB'.out rfl (by rw [← HCC.out]; omega), ← HCC.out, ← List.append_assoc, hL]
        have hlen : L.length ≤ 1000 := by
          have h1 := lineTo_len xs ts n i
          have h2 := rowP_len xs ts i (nums pre)
          have h3 : i * n ≤ 16 * 16 := Nat.mul_le_mul (by omega) hn
          rw [hL, List.length_append]
          omega
        rw [← hL] at hI
        obtain ⟨v1, w9, hr, ⟨A2, k2, c2, rfl⟩, far, ⟨u9, x9⟩, z9, hI9, hkf, hblk, hbel⟩ := hI.fill ⟨(i : Int), (j : Int), C + c', 0, 9⟩ w.heap.size (by omega) hlen (Nat.le_refl _) hXr hsi
        have s1 : IntKind.i64.wrap (C + c') = C + c' := IntWalk.i64_in _ (by omega)
        generalize hV1 : Value.slice A2 k2 c2 = v1 at hr hI9 hkf hblk hbel
        refine wpIn_region_chain (by kernel_rfl) [13, 14, 16] { tmps := (.agg #[.int .i64 m, .slice (some ⟨g, o, none⟩) n c] :: .slice B l cb :: .pointer (some ⟨w.heap.size, 0, none⟩) :: undef :: .pointer (some ⟨w.heap.size + 1, 0, none⟩) :: .pointer (some ⟨w1.heap.size, 0, none⟩) :: .pointer (some ⟨w1.heap.size + 1, 0, none⟩) :: .pointer (some ⟨wr.heap.size, 0, none⟩) :: .pointer (some ⟨wr.heap.size + 1, 0, none⟩) :: .int .i64 (j : Int) :: .int .i64 C :: .slice B l cb :: .map (some P) :: .pointer (some ⟨w.heap.size, 1, none⟩) :: .slice (some ⟨g, o, none⟩) n c :: .int .i64 (n : Int) :: .agg #[.int .i64 (n : Int), .slice none 0 0] :: .pointer (some ⟨w.heap.size, 1, none⟩) :: .slice (some ⟨g, o, none⟩) n c :: .int .i64 (n : Int) :: .int .i64 (i : Int) :: .bool true :: .int .i64 (i : Int) :: .pointer (some ⟨g, o + i * 5, none⟩) :: .agg #[.int .i64 f, .int .i64 f', .int .i64 ca, .int .i64 la, .int .i64 da] :: .agg #[.int .i64 m, .slice (some ⟨g, o, none⟩) n c] :: .pointer (some ⟨wr.heap.size + 1, 1, none⟩) :: .int .i64 f' :: .func (.func 100) #[] #[.pointer (some ⟨wr.heap.size + 1 + 1, 0, none⟩), .pointer (some ⟨wr.heap.size + 1 + 1 + 1, 0, none⟩)] :: .int .i64 (j : Int) :: .map (some P) :: .int .i64 (i : Int) :: .int .i64 (j : Int) :: .agg #[.int .i64 (i : Int), .int .i64 (j : Int)] :: .int .i64 C :: .int .i64 C :: .bool true :: .pointer (some ⟨w1.heap.size + 1, 1, none⟩) :: v :: .int .i64 (i : Int) :: .int .i64 (j : Int) :: .int .i64 C :: .pointer (some ⟨w.heap.size, 1, none⟩) :: .slice (some ⟨g, o, none⟩) n c :: .int .i64 (j : Int) :: .pointer (some ⟨g, o + j * 5, none⟩) :: .pointer (some ⟨g, o + j * 5 + 2, none⟩) :: .int .i64 c' :: (.int .i64 (C + c')) :: (.agg #[.int .i64 (i : Int), .int .i64 (j : Int), .int .i64 (C + c'), .int .i64 0, .int .i64 9]) :: .slice (some ⟨W.heap.size, 0, none⟩) 1 1 :: v1 :: .pointer (some ⟨w1.heap.size + 1, 1, none⟩) :: u 53 :: undef :: []).toArray, defers := [] } (fun s => ([W.drew, W.drew.alloc (.cells #[.int .i64 (i : Int), .int .i64 (j : Int), .int .i64 (C + c'), .int .i64 0, .int .i64 9] 52), w9, w9.setCell ⟨w1.heap.size + 1, 1, none⟩ v1] : List World).getD s W) rfl (by kernel_rfl) (by decide) rfl rfl ?base ?eachop ?fin
        case base =>
          intro t ht
          iterate 37 (rcases t with _ | t; · rfl)
          rcases t with _ | t; · exact absurd rfl (ht 0 _ rfl)
          rcases t with _ | t; · exact absurd rfl (ht 1 _ rfl)
          rcases t with _ | t; · exact absurd rfl (ht 2 _ rfl)
          rcases t with _ | t; · exact absurd rfl (ht 3 _ rfl)
          rcases t with _ | t; · exact absurd rfl (ht 4 _ rfl)
          rcases t with _ | t; · exact absurd rfl (ht 5 _ rfl)
          rcases t with _ | t; · exact absurd rfl (ht 6 _ rfl)
          rcases t with _ | t; · exact absurd rfl (ht 7 _ rfl)
          rcases t with _ | t; · exact absurd rfl (ht 8 _ rfl)
          rcases t with _ | t; · exact absurd rfl (ht 9 _ rfl)
          rcases t with _ | t; · exact absurd rfl (ht 10 _ rfl)
          rcases t with _ | t; · exact absurd rfl (ht 11 _ rfl)
          rcases t with _ | t; · exact absurd rfl (ht 12 _ rfl)
          rcases t with _ | t; · exact absurd rfl (ht 13 _ rfl)
          rcases t with _ | t; · exact absurd rfl (ht 14 _ rfl)
          rcases t with _ | t; · exact absurd rfl (ht 15 _ rfl)
          rfl
        case eachop =>
          have g0 : ∀ s, s < 3 → (([W.drew, W.drew.alloc (.cells #[.int .i64 (i : Int), .int .i64 (j : Int), .int .i64 (C + c'), .int .i64 0, .int .i64 9] 52), w9, w9.setCell ⟨w1.heap.size + 1, 1, none⟩ v1] : List World).getD s W).cell? ⟨w1.heap.size + 1, 1, none⟩ = some v ∧
              (([W.drew, W.drew.alloc (.cells #[.int .i64 (i : Int), .int .i64 (j : Int), .int .i64 (C + c'), .int .i64 0, .int .i64 9] 52), w9, w9.setCell ⟨w1.heap.size + 1, 1, none⟩ v1] : List World).getD s W).cell? ⟨wr.heap.size, 0, none⟩ = some (.int .i64 (i : Int)) ∧
              (([W.drew, W.drew.alloc (.cells #[.int .i64 (i : Int), .int .i64 (j : Int), .int .i64 (C + c'), .int .i64 0, .int .i64 9] 52), w9, w9.setCell ⟨w1.heap.size + 1, 1, none⟩ v1] : List World).getD s W).cell? ⟨w.heap.size, 1, none⟩ = some (.slice (some ⟨g, o, none⟩) n c) ∧
              (([W.drew, W.drew.alloc (.cells #[.int .i64 (i : Int), .int .i64 (j : Int), .int .i64 (C + c'), .int .i64 0, .int .i64 9] 52), w9, w9.setCell ⟨w1.heap.size + 1, 1, none⟩ v1] : List World).getD s W).cell? ⟨g, o + j * 5 + 2, none⟩ = some (.int .i64 c') := by
            intro s hs
            rcases s with _ | _ | _ | s
            · exact ⟨o1, hnm, hbw, d2⟩
            · exact ⟨cell_in (((Past.refl W).drew).alloc _) o1, cell_in (((Past.refl W).drew).alloc _) hnm, cell_in (((Past.refl W).drew).alloc _) hbw, cell_in (((Past.refl W).drew).alloc _) d2⟩
            · exact ⟨far _ _ (.inl (by simp)) o1, far _ _ (.inr (by simp)) hnm, far _ _ (.inl (by simp; omega)) hbw, far _ _ (.inl (by simp; omega)) d2⟩
            · omega
          generalize hWS : ([W.drew, W.drew.alloc (.cells #[.int .i64 (i : Int), .int .i64 (j : Int), .int .i64 (C + c'), .int .i64 0, .int .i64 9] 52), w9, w9.setCell ⟨w1.heap.size + 1, 1, none⟩ v1] : List World) = wl at g0 ⊢
          have q0 : ∀ s, s < 3 → (wl.getD s W).cell? ⟨w1.heap.size + 1, 1, none⟩ = some v := fun s h => (g0 s h).1
          have q1 : ∀ s, s < 3 → (wl.getD s W).cell? ⟨wr.heap.size, 0, none⟩ = some (.int .i64 (i : Int)) := fun s h => (g0 s h).2.1
          have q2 : ∀ s, s < 3 → (wl.getD s W).cell? ⟨w.heap.size, 1, none⟩ = some (.slice (some ⟨g, o, none⟩) n c) := fun s h => (g0 s h).2.2.1
          have q3 : ∀ s, s < 3 → (wl.getD s W).cell? ⟨g, o + j * 5 + 2, none⟩ = some (.int .i64 c') := fun s h => (g0 s h).2.2.2
          have j0 : (0 : Int) ≤ (j : Int) := by omega
          have j1 : (j : Int) < (n : Int) := by omega
          refine ⟨?o0, ?o1, ?o2, ?o3, ?o4, ?o5, ?o6, ?o7, ?o8, ?o9, ?o10, ?o11, ?o12, ?o13, ?o14, ?o15, ?o16, trivial⟩
          case o13 => refine opAt_writer 0 (by decide) rfl (.inl ?_); subst hWS; go_simp
          case o14 =>
            refine opAt_writer 1 (by decide) rfl (.inl ?_)
            subst hWS
            unfold execOp
            simp only [resolve, invoke, builtin, Sem.run_bind, Sem.run_pure, Result.andThen_ok, List.map_toArray, List.map_cons, List.map_nil]
            refine Eq.trans (congrArg (fun r => Result.andThen r _) hr) ?_
            rfl
          case o16 => refine opAt_writer 2 (by decide) rfl (.inr ⟨rfl, ?_⟩); subst hWS hV1; go_simp
          all_goals refine opAt_quiet (by decide) fun s hs => .inl ?_
          all_goals have hs : s < 3 := hs
          all_goals have q0 := q0 s hs
          all_goals have q1 := q1 s hs
          all_goals have q2 := q2 s hs
          all_goals have q3 := q3 s hs
          all_goals clear hWS g0 far x9 z9 hI9 hkf hblk hbel hr
          all_goals generalize wl.getD s W = ww at *
          all_goals go_simp
        case fin =>
          exact ⟨by rw [hs5]; exact hkf, ⟨hbel, hblk _ (.inr (by omega)), hblk _ (.inr (by omega))⟩, _, by rw [nums_snoc, HN.out]; exact hI9⟩
    case done =>
      rintro Dd ys W hD hys ⟨v', hI⟩ hDd
      have hL : lineTo xs ts n i ++ rowP xs ts i (nums ys) = lineTo xs ts n (i + 1) := by
        rw [lineTo, hys, rowP_all ts HA.out n (by rw [HX.out]; exact Nat.le_refl _)]
      rw [hL] at hI
      have hI1 := hI.st
      have hI2 := hI.costs
      have hI3 := hI.defs
      clear hI hL
      gi_wp2
      refine Handed.intro (n - (i + 1)) (by omega) (hJ _ _ _ ⟨i + 1, v', Dd :: rs, by omega, Nat.le_refl _, nFrame_mk _ _ (by rfl), hI1, hI2, fun r hr => ?_, List.nodup_cons.2 ⟨fun hr => ?_, hnd⟩, fun r hr => ?_⟩)
      · rcases List.mem_cons.1 hr with rfl | hr
        · exact hDd
        · exact hI3 r hr
      · have := hrs Dd hr
        omega
      · rcases List.mem_cons.1 hr with rfl | hr
        · omega
        · exact hsi r hr
    case stop =>
      rintro D c pre W _ _ h _
      exact h.elim
  · obtain rfl : i = n := by omega
    have e0r := cell_in hS.past e0
    have e1r := cell_in hS.past e1
    have hrc : RowN w1 (w.heap.size + 1) 32 2 := hrc0
    have rr := hrc.keep (hS.past.block _ hrc.lt)
    have z0r := rr.frozen 0
    have z1r := rr.frozen 1
    have sv : w.heap.size + 1 < w1.heap.size := lt_of_cell e0
    obtain ⟨D, hD⟩ : ∃ D, D = (lineTo xs ts i i).length := ⟨_, rfl⟩
    obtain ⟨A2, c2, rfl, hx9, _⟩ := (show ResA wr (w1.heap.size + 1 + 1) v (lineTo xs ts i i) from hS.own).form
    have hown := hS.own
    have o0 := hS.o0
    have o1 := hS.o1
    rw [← hD] at hown o1
    have HDD := Lib.hid hD
    have HS := Lib.hid hS
    have HLL : Hid (lineTo xs ts i i = lineL xs ts) := by rw [Hid, lineL, HX.out]
    clear hS hD
    gi_wp2
    have hbl : Past w ((wr.setCell ⟨w.heap.size + 1, 0, none⟩ (.int .i64 (i : Int))).setCell ⟨w.heap.size + 1, 1, none⟩ (.slice A2 D c2)) := Below.setCell (Below.setCell (hp1.trans HS.out.past) (by simp) _) (by simp) _
    have hblk : ∀ r, r ≠ w.heap.size + 1 → ((wr.setCell ⟨w.heap.size + 1, 0, none⟩ (.int .i64 (i : Int))).setCell ⟨w.heap.size + 1, 1, none⟩ (.slice A2 D c2)).heap[r]? = wr.heap[r]? := fun r hr => (Below.heap_setCell _ _ _ _ hr).trans (Below.heap_setCell _ _ _ _ hr)
    refine leaves_marks rs _ hnd (fun r hr => (hblk r (by have := hsi r hr; omega)).trans (hdf r hr)) (fun W' hc => ⟨.agg #[.int .i64 (i : Int), .slice A2 D c2], ?_, ⟨_, rfl, ?_, ?_⟩⟩)
    · have nr : ¬ (w.heap.size + 1 ∈ rs) := fun h => by have := hsi _ h; omega
      have q0 := hc.cell (p := ⟨w.heap.size + 1, 0, none⟩) ((World.cell?_setCell_other _ _ _ _ (by simp)).trans (World.cell?_setCell_same wr ⟨w.heap.size + 1, 0, none⟩ (.int .i64 (i : Int)) e0r)) nr
      have q1 := hc.cell (p := ⟨w.heap.size + 1, 1, none⟩) (World.cell?_setCell_same (wr.setCell ⟨w.heap.size + 1, 0, none⟩ (.int .i64 (i : Int))) ⟨w.heap.size + 1, 1, none⟩ (.slice A2 D c2) ((World.cell?_setCell_other _ _ _ _ (by simp)).trans e1r)) nr
      simp [results, Try.results63, go_sem, q0, q1]
    · have h1 : ((wr.setCell ⟨w.heap.size + 1, 0, none⟩ (.int .i64 (i : Int))).setCell ⟨w.heap.size + 1, 1, none⟩ (.slice A2 D c2)).ownsRow (w1.heap.size + 1 + 1) 52 5 (.slice A2 D c2) D (cellsOf (lineTo xs ts i i)) :=
        own_far (own_far hown (fun e => own_ne hown (g := w.heap.size + 1) (by omega) e.symm) _) (fun e => own_ne hown (g := w.heap.size + 1) (by omega) e.symm) _
      have h2 := hc.own h1 (fun x e hx => by
        obtain ⟨cs, hcs⟩ := cells_of_own h1 e
        have hd := (hblk x (by have := (h1.lt x e).1; omega)).trans (hdf x hx)
        rw [hcs] at hd
        cases hd)
      rw [← HLL.out]
      refine ResA.lower (lo := w1.heap.size + 1 + 1) ?_ (by have := hp1.size; omega)
      unfold ResA
      rw [← HDD.out]
      exact h2
    · exact hbl.belowTrans (hc.below hbl.size (fun x hx hr => by have := hsi x hr; have := hp1.size; omega))

end Go.Proofs.Ytaojognjkiifmaa

namespace Go.Proofs.Ytaojognjkiifmaa
open Go.RowKit

theorem line_any (m : Int) (A : Option Addr) (n c : Nat) (xs : List ArcD) (B : Option Addr) (l cb : Nat) (ts : List TurnD) (w : World) (hn : n ≤ 16) (hnx : xs.length = n) (hx : ArcsAt w A xs) (hl : l ≤ 1048576) (hlt : ts.length = l) (ht : TurnsAt w B ts) (hT : turnsB m xs ts = true) :
    Calls Try.prog 63 #[.agg #[.int .i64 m, .slice A n c], .slice B l cb] w (LineG w n xs ts) :=
  (callsIn_wide (n := 4)).1 (line_in m A n c xs B l cb ts w hn hnx hx hl hlt ht hT)
theorem lineL_len (xs : List ArcD) (ts : List TurnD) (h : xs.length ≤ 16) : (lineL xs ts).length ≤ 256 := by
  have h1 := lineTo_len xs ts xs.length xs.length
  have h2 : xs.length * xs.length ≤ 16 * 16 := Nat.mul_le_mul h h
  rw [lineL]
  omega
theorem tnetL_lenM (m : Int) (xs : List ArcD) (ts : List TurnD) : (tnetL m xs ts).length ≤ 1048576 := by
  have := tnetL_len16 m xs ts
  omega

set_option maxRecDepth 100000 in
set_option maxHeartbeats 2000000 in
theorem implTurnNet_any (m : Int) (A : Option Addr) (n c : Nat) (xs : List ArcD) (B : Option Addr) (l cb : Nat) (ts : List TurnD) (w : World) (hn : n ≤ 1048576) (hnx : xs.length = n) (hx : ArcsAt w A xs) (hl : l ≤ 1048576) (hlt : ts.length = l) (ht : TurnsAt w B ts) :
    Calls Try.prog 35 #[.agg #[.int .i64 m, .slice A n c], .slice B l cb] w (GivesNB w (tnetN m xs ts) (tnetL m xs ts) (tnetB m xs ts)) := by
  have HX := Lib.hid hnx
  have HL := Lib.hid hlt
  clear hnx hlt
  have hb0 : Past w ((w.alloc (.cells #[.int .i64 m, .slice A n c] 32)).alloc (.cells #[.int .i64 0, .slice none 0 0] 32)) := ((Past.refl _).alloc _).alloc _
  go_enter Try.func35, Try.ntmps35
  go_wp2_with fail
  refine (implTurnsOk_any m A n c xs B l cb ts _ hn HX.out (hx.below hb0) hl HL.out (ht.below hb0)).mono ?_
  rintro e w1 ⟨rfl, hb1⟩
  have b0 := cell_in (p := ⟨w.heap.size, 0, none⟩) (v := .int .i64 m) hb1 (by go_simp)
  have b1 := cell_in (p := ⟨w.heap.size, 1, none⟩) (v := .slice A n c) hb1 (by go_simp)
  have e0 := cell_in (p := ⟨w.heap.size + 1, 0, none⟩) (v := .int .i64 0) hb1 (by go_simp)
  have e1 := cell_in (p := ⟨w.heap.size + 1, 1, none⟩) (v := .slice none 0 0) hb1 (by go_simp)
  have z0 := free_in (p := ⟨w.heap.size + 1, 0, none⟩) (v := .int .i64 0) hb1 (by go_simp) (by go_simp)
  have z1 := free_in (p := ⟨w.heap.size + 1, 1, none⟩) (v := .slice none 0 0) hb1 (by go_simp) (by go_simp)
  have hp1 := hb0.trans hb1
  have sw : w.heap.size + 1 < w1.heap.size := lt_of_cell e0
  clear hb0 hb1
  cases hB : turnsB m xs ts with
  | false =>
    have HF : Hid (tnetB m xs ts = false) := tnet_turns hB
    clear hB
    go_wp2
    exact bodyPost_ret (v := .tuple #[.agg #[.int .i64 0, .slice none 0 0], .bool false]) (by simp [results, Try.results35, go_sem, e0, e1]) rfl (givesNB_no HF.out rfl (Below.setCell (Below.setCell hp1 (by simp) _) (by simp) _))
  | true =>
  have HT := Lib.hid hB
  have h16 : xs.length ≤ 16 := ((netB_iff _ _).1 (turnsB_all hB).1).2.1
  have hln := lineL_len xs ts h16
  rw [HX.out] at h16
  clear hB
  go_wp2_with fail
  refine (line_any m A n c xs B l cb ts _ h16 HX.out (hx.below hp1) hl HL.out (ht.below hp1) HT.out).mono ?_
  rintro e w2 ⟨v, rfl, hv, hb2⟩
  have z0 := free_in hb2 e0 z0
  have z1 := free_in hb2 e1 z1
  have e0 := cell_in hb2 e0
  have e1 := cell_in hb2 e1
  have hp2 := hp1.trans hb2
  obtain ⟨D, hD⟩ : ∃ D, D = (lineL xs ts).length := ⟨_, rfl⟩
  obtain ⟨A2, c2, rfl, hx2, _⟩ := hv.form
  rw [← hD] at hv hln
  have hown : w2.ownsRow w1.heap.size 52 5 (.slice A2 D c2) D (cellsOf (lineL xs ts)) := by
    have h := hv
    unfold ResA at h
    rw [← hD] at h
    exact h
  rw [← hD]
  have HD := Lib.hid hD
  clear hD hv hb2 b0 b1
  have hbA : Past w2 (w2.alloc (.cells #[.int .i64 (n : Int), .slice A2 D c2] 32)) := (Past.refl w2).alloc _
  go_wp2_with fail
  refine (implNetOk_any (n : Int) A2 D c2 (lineL xs ts) _ (by omega) HD.out.symm (hx2.below hbA)).mono ?_
  rintro e w3 ⟨rfl, hb3⟩
  have q0 := cell_in (p := ⟨w2.heap.size, 0, none⟩) (v := .int .i64 (n : Int)) hb3 (by go_simp)
  have q1 := cell_in (p := ⟨w2.heap.size, 1, none⟩) (v := .slice A2 D c2) hb3 (by go_simp)
  have hp23 := hbA.trans hb3
  have z0 := free_in hp23 e0 z0
  have z1 := free_in hp23 e1 z1
  have e0 := cell_in hp23 e0
  have e1 := cell_in hp23 e1
  have hown := World.ownsRow.kept hown (grown_of_below hp23 none) (by cases hv : (Value.slice A2 D c2).ownBlock <;> simp)
  have hp3 := hp2.trans hp23
  have hp1s := hp1.size
  have HE : Hid (tnetB m xs ts = netB (n : Int) (lineL xs ts)) := by rw [Hid, tnet_line HT.out, HX.out]
  clear hb3 hbA hp23 hp2 hp1
  cases hO : netB (n : Int) (lineL xs ts) with
  | false =>
    have HV : Hid (tnetB m xs ts = false) := HE.out.trans hO
    clear hO
    go_wp2
    exact bodyPost_ret (v := .tuple #[.agg #[.int .i64 0, .slice none 0 0], .bool false]) (by simp [results, Try.results35, go_sem, e0, e1]) rfl (givesNB_no HV.out rfl (Below.setCell (Below.setCell hp3 (by simp) _) (by simp) _))
  | true =>
    have HV : Hid (tnetB m xs ts = true) := HE.out.trans hO
    clear hO
    go_wp2
    refine bodyPost_ret (v := .tuple #[.agg #[.int .i64 (n : Int), .slice A2 D c2], .bool true]) (by simp [results, Try.results35, go_sem, e0, e1]) rfl ?_
    refine givesNB_yes (lo := w1.heap.size) (cs := cellsOf (lineL xs ts)) HV.out HX.out.symm (by omega) D HD.out rfl ?_ (Below.setCell (Below.setCell hp3 (by simp) _) (by simp) _)
    exact own_far (own_far hown (fun e => own_ne hown (g := w.heap.size + 1) (by omega) e.symm) _) (fun e => own_ne hown (g := w.heap.size + 1) (by omega) e.symm) _

end Go.Proofs.Ytaojognjkiifmaa

namespace Go.Proofs.Ytaojognjkiifmaa

/-- Each arc's cost at its end, if it is less. -/
def minTo (xs : List ArcD) (d o : List Int) : Nat → List Int
  | 0 => o
  | k + 1 => match xs[k]? with
    | some a => (minTo xs d o k).set a.t.toNat (min (at_ (minTo xs d o k) a.t) (at_ d (k : Int)))
    | none => minTo xs d o k
theorem minTo_length (xs : List ArcD) (d o : List Int) : ∀ k, (minTo xs d o k).length = o.length
  | 0 => rfl
  | k + 1 => by
    have h := minTo_length xs d o k
    unfold minTo
    split
    · rw [List.length_set]; exact h
    · exact h
theorem minTo_next {xs : List ArcD} {d o : List Int} {k : Nat} {a : ArcD} (ha : xs[k]? = some a) : minTo xs d o (k + 1) = (minTo xs d o k).set a.t.toNat (min (at_ (minTo xs d o k) a.t) (at_ d (k : Int))) := by
  rw [minTo, ha]
theorem set_self_at {o : List Int} {t : Int} : o.set t.toNat (at_ o t) = o := by
  unfold at_
  apply List.ext_getElem?
  intro j
  rw [List.getElem?_set]
  split
  · rename_i e
    subst e
    split
    · rename_i h
      rw [List.getElem?_eq_getElem h]
      simp [h]
    · rename_i h
      rw [List.getElem?_eq_none (by omega)]
  · rfl

theorem minTo_into {m : Nat} {xs : List ArcD} {d : List Int} {s : Int} (hx : ArcsIn m xs) (hd : InR d) (hs : 0 ≤ s ∧ s < m) : ∀ k, (minTo xs d (List.replicate m farI) k).set s.toNat 0 = intoTo xs d (start m s) k
  | 0 => rfl
  | k + 1 => by
    have ih := minTo_into hx hd hs k
    cases ha : xs[k]? with
    | none => rw [minTo, intoTo, ha]; exact ih
    | some a =>
      have hb := hx a (List.mem_of_getElem? ha)
      have hl : (minTo xs d (List.replicate m farI) k).length = m := by rw [minTo_length]; simp
      have hk := hd.at_ (k : Int)
      rw [minTo_next ha, intoTo_next ha, ← ih]
      rw [at_set _ s a.t 0 hs.1 (by omega) (by omega)]
      by_cases e : a.t = s
      · rw [if_pos e, if_neg (by omega), e, List.set_set]
      · have hne : a.t.toNat ≠ s.toNat := by omega
        rw [if_neg e]
        split
        · rename_i h
          rw [Int.min_eq_right (by omega), List.set_comm _ _ hne]
        · rename_i h
          rw [Int.min_eq_left (by omega), set_self_at]

/-- What the implementation hands back. -/
theorem tall_of_near {M : Nat} {m : Int} {xs : List ArcD} {ts : List TurnD} {s : Int} (hT : turnsB m xs ts = true) (hM : m = M) (hs : 0 ≤ s ∧ s < m) :
    (minTo xs ((nearL (xs.length + 1) (turnArcs xs ts s) (xs.length : Int)).take xs.length) (List.replicate M farI) xs.length).set s.toNat 0 = tallL M xs ts s := by
  have hN := (turnsB_all hT).1
  have hB := (turnsB_all hT).2.2.1
  subst hM
  have hx := arcsIn_net hN
  rw [arcs_near hN hB, List.take_left' (arcsL_length xs ts s), tallL]
  refine minTo_into hx ?_ hs _
  exact (startA_in s hN).rounds (fun a ha => by
    obtain ⟨i, j, h⟩ := lineTo_mem _ ha
    exact lineArc_c hN h) _

end Go.Proofs.Ytaojognjkiifmaa

namespace Go.Proofs.Ytaojognjkiifmaa
open Go.RowKit Go.Shelf Go.Maps

/-- X: the net's box, X + 1: the box of the start, X + 2 and X + 3: the iterator's. The arcs lie anywhere else from lo on. -/
structure TaIn (w W : World) (X n lo : Nat) (v : Value) (L : List ArcD) : Prop where
  o0 : W.cell? ⟨X, 0, none⟩ = some (.int .i64 ((n : Int) + 1))
  o1 : W.cell? ⟨X, 1, none⟩ = some v
  num : W.cell? ⟨X + 1, 0, none⟩ = some (.int .i64 (n : Int))
  row : RowN W X 32 2
  own : W.ownsRow lo 52 5 v L.length (cellsOf L)
  off : ∀ b, v.ownBlock = some b → b < X ∨ X + 4 ≤ b
  base : X + 4 ≤ W.heap.size
  past : Past w W

theorem TaIn.turn {w W W' : World} {X n lo : Nat} {v : Value} {L : List ArcD} {row : Option Nat} (h : TaIn w W X n lo v L) (hwX : w.heap.size ≤ X) (hg : W.grownBy W' row) (hr : ∀ r, row = some r → X + 4 ≤ r ∧ ∃ o : Obj, W.heap[r]? = some o ∧ o.isCells = false) : TaIn w W' X n lo v L := by
  have no : ∀ x cs t f, W.heap[x]? = some (.cells cs t f) → some x ≠ row := fun x cs t f hx e => by
    obtain ⟨_, o, ho, hc⟩ := hr x e.symm
    rw [hx] at ho
    injection ho with ho
    rw [← ho] at hc
    cases hc
  refine ⟨cell_kept h.o0 hg (fun r e => (hr r e).2), cell_kept h.o1 hg (fun r e => (hr r e).2), cell_kept h.num hg (fun r e => (hr r e).2), ?_, ?_, h.off, Nat.le_trans h.base hg.size, Below.grown h.past hg h.past.size (fun r e => by have := (hr r e).1; omega)⟩
  · obtain ⟨cs, hcs, hl⟩ := h.row
    exact h.row.keep (hg.block _ h.row.lt (no _ _ _ _ hcs))
  · refine World.ownsRow.kept h.own hg ?_
    cases hv : v.ownBlock with
    | none => simp
    | some b =>
      obtain ⟨cs, hcs⟩ := cells_of_own h.own hv
      exact .inr (no _ _ _ _ hcs)

/-- One arc more. -/
theorem TaIn.fill {w W : World} {X n lo : Nat} {v : Value} {L : List ArcD} (h : TaIn w W X n lo v L) (a : ArcD) (hlo : w.heap.size ≤ lo) (hloX : lo ≤ X) (hL : L.length ≤ 1000) :
    ∃ v1 w9, (Builtin.append_ #[30, 30] 30 #[v, .slice (some ⟨W.heap.size, 0, none⟩) 1 1]).run Try.prog (W.drew.alloc (.cells #[.int .i64 a.f, .int .i64 a.t, .int .i64 a.c, .int .i64 a.l, .int .i64 a.d] 52)) = .ok v1 w9 ∧
      (∃ A2 k c2, v1 = .slice A2 k c2) ∧ (∀ p u, p.block < lo ∨ (X ≤ p.block ∧ p.block < X + 4) → W.cell? p = some u → w9.cell? p = some u) ∧
      (∃ u, w9.cell? ⟨X, 1, none⟩ = some u) ∧ w9.frozen? ⟨X, 1, none⟩ = false ∧ TaIn w (w9.setCell ⟨X, 1, none⟩ v1) X n lo v1 (L ++ [a]) ∧
      KeepsFrom (X + 4) W (w9.setCell ⟨X, 1, none⟩ v1) ∧ (∀ k, k < lo ∨ (X + 1 ≤ k ∧ k < X + 4) → (w9.setCell ⟨X, 1, none⟩ v1).heap[k]? = W.heap[k]?) ∧ Below w.heap.size W (w9.setCell ⟨X, 1, none⟩ v1) := by
  obtain ⟨i0, hi, hz0, hz1, hz2⟩ := info_parts infoArc
  have hown := h.own
  have hsz := h.base
  have hownA : (W.drew.alloc (.cells #[.int .i64 a.f, .int .i64 a.t, .int .i64 a.c, .int .i64 a.l, .int .i64 a.d] 52)).ownsRow lo 52 5 v L.length (cellsOf L) := World.ownsRow.alloc (w := W.drew) hown _
  obtain ⟨v1, w9, hr, h2, h3, _, h5⟩ := run_append_own_at (P := Try.prog) (W.drew.alloc (.cells #[.int .i64 a.f, .int .i64 a.t, .int .i64 a.c, .int .i64 a.l, .int .i64 a.d] 52)) lo 30 30 52 i0 _ 5 40 Try.underlying30 hi hz0 hz1 hz2 rfl (by omega) v L.length (cellsOf L) hownA ⟨W.heap.size, 0, none⟩ 1 1 [.int .i64 a.f, .int .i64 a.t, .int .i64 a.c, .int .i64 a.l, .int .i64 a.d] rfl (five_news W.drew _ _ _ _ _ _) (cellsOf_one [a]) (by unfold maxLen; omega) (by omega) (by simp; omega)
  have hs1 : (W.drew.alloc (.cells #[.int .i64 a.f, .int .i64 a.t, .int .i64 a.c, .int .i64 a.l, .int .i64 a.d] 52)).heap.size = W.heap.size + 1 := by simp
  have off : ∀ k, k < lo ∨ (X ≤ k ∧ k < X + 4) → some k ≠ v.ownBlock := fun k hk e => by
    rcases hk with hk | hk
    · exact own_ne hown (g := k) (by omega) e
    · have := h.off k e.symm; omega
  have old : ∀ k, k < W.heap.size → (W.drew.alloc (.cells #[.int .i64 a.f, .int .i64 a.t, .int .i64 a.c, .int .i64 a.l, .int .i64 a.d] 52)).heap[k]? = W.heap[k]? := fun k hk => Below.heap_alloc W.drew _ k hk
  have far : ∀ p u, p.block < lo ∨ (X ≤ p.block ∧ p.block < X + 4) → W.cell? p = some u → w9.cell? p = some u := fun p u hp hc => h3.cell (cell_in (((Past.refl W).drew).alloc _) hc) (off _ hp)
  have h9 : ∀ k, k < W.heap.size → some k ≠ v.ownBlock → k ≠ X → (w9.setCell ⟨X, 1, none⟩ v1).heap[k]? = W.heap[k]? := fun k hk hne hx => (Below.heap_setCell _ _ _ _ hx).trans ((h3.block k (by omega) hne).trans (old k hk))
  have hsz9 : W.heap.size ≤ (w9.setCell ⟨X, 1, none⟩ v1).heap.size := by have := h3.size; rw [hs1] at this; simp; omega
  have r9 : RowN w9 X 32 2 := h.row.keep ((h3.block X (by omega) (off X (.inr (by omega)))).trans (old X (by omega)))
  have x9 := far ⟨X, 1, none⟩ v (.inr (by simp)) h.o1
  have off1 : ∀ b, v1.ownBlock = some b → b < X ∨ X + 4 ≤ b := fun b e => by
    rcases h5 with e5 | e5
    · exact h.off b (e5.symm.trans e)
    · rw [e5] at e
      injection e with e
      omega
  have hbel : Below w.heap.size W (w9.setCell ⟨X, 1, none⟩ v1) := Below.setCell (Below.grown (Below.alloc (Below.drew (Below.refl w.heap.size W)) (by simp; omega) _) h3 (by rw [hs1]; omega) (fun b e => by have := (hown.lt b e).1; omega)) (by simp; omega) _
  refine ⟨v1, w9, hr, ?_, far, ⟨_, x9⟩, r9.frozen 1, ⟨?_, World.cell?_setCell_same _ _ _ x9, ?_, r9.set _ _, ?_, off1, by omega, h.past.belowTrans hbel⟩, ⟨hsz9, fun k o hk ho hc => ?_⟩, fun k hk => h9 k (by omega) (off k (by omega)) (by omega), hbel⟩
  · obtain ⟨g, c, e, _⟩ := World.ownsRow.form h2 (by omega)
    exact ⟨_, _, _, e⟩
  · exact (World.cell?_setCell_other _ _ _ _ (by simp)).trans (far _ _ (.inr (by simp)) h.o0)
  · exact (World.cell?_setCell_other _ _ _ _ (by intro e; injection e; omega)).trans (far _ _ (.inr (by simp)) h.num)
  · rw [List.length_append, cellsOf_append]
    exact own_far h2 (fun e => by have := off1 X e; omega) _
  · refine (h9 k (Array.getElem?_eq_some_iff.1 ho).1 (fun e => ?_) (by omega)).trans ho
    obtain ⟨cs, hcs⟩ := cells_of_own hown e.symm
    rw [hcs] at ho
    injection ho with ho
    rw [← ho] at hc
    cases hc

end Go.Proofs.Ytaojognjkiifmaa

namespace Go.Proofs.Ytaojognjkiifmaa

theorem turnsB_nil (m : Int) (xs : List ArcD) : turnsB m xs [] = netB m xs := by simp [turnsB, freeB]
theorem turnSum_nil (ys : List Int) : ∀ k, turnSum [] ys k = 0
  | 0 => rfl
  | k + 1 => by rw [turnSum, turnSum_nil ys k]; simp [costF]
theorem turnBad_nil (ys : List Int) : ∀ k, turnBad [] ys k = false
  | 0 => rfl
  | k + 1 => by rw [turnBad, turnBad_nil ys k]; simp [costF]
theorem twalkI_nil (m : Int) (xs : List ArcD) (ys : List Int) : twalkI m xs [] ys = costI m xs ys := by
  cases ho : okB m xs ys with
  | true =>
    have hn : turnsB m xs [] = true := by rw [turnsB_nil]; exact ((okB_iff _ _ _).1 ho).1
    rw [twalkI_ok hn ho, turnBad_nil, turnSum_nil, costI, ho]
    simp
  | false => rw [twalkI_walk ho, costI, ho]; simp
theorem costLT_bd {xs : List ArcD} {ts : List TurnD} (h : ts.all (turnB xs) = true) (a b : Int) : ∀ k, -1 ≤ costLT ts a b k ∧ costLT ts a b k ≤ 99
  | 0 => by simp [costLT]
  | k + 1 => by
    have ih := costLT_bd h a b k
    cases ht : ts[k]? with
    | none => rw [costLT, ht]; exact ih
    | some t =>
      cases hs : sameT a b t with
      | true =>
        rw [costLT_hit ht hs]
        have := List.all_eq_true.1 h t (List.mem_of_getElem? ht)
        simp only [turnB, Bool.and_eq_true, inB_iff] at this
        omega
      | false => rw [costLT_miss ht hs]; exact ih
theorem costLT_first {ts : List TurnD} {a b : Int} {k : Nat} {t : TurnD} (h : ts[k]? = some t) (hf : freeB ts ts.length = true) (e : sameT a b t = true) : costLT ts a b k = 0 := by
  have hk : k < ts.length := (List.getElem?_eq_some_iff.1 h).1
  have h1 := freeB_mono ts _ (k + 1) hk hf
  have h2 := freeB_mono ts _ k (by omega) hf
  rw [freeB_next h, Bool.and_eq_true, Bool.not_eq_true'] at h1
  obtain ⟨rfl, rfl⟩ := sameT_iff.1 e
  rw [costLT_free ts _ _ k (by omega) h2, costF_none h1.2]
theorem okB_long {m : Int} {xs : List ArcD} {ys : List Int} (h : okB m xs ys = true) : costI m xs ys = sumTo xs ys ys.length := by rw [costI, if_pos h]

end Go.Proofs.Ytaojognjkiifmaa

namespace Go.Proofs.Ytaojognjkiifmaa

/-- Numbers are nodes of a net that is ok, and not too many. -/
def listB (m : Int) (xs : List ArcD) (ys : List Int) : Bool := netB m xs && (decide (ys.length ≤ 8) && ys.all (fun z => inB z 0 (m - 1)))

theorem listB_iff (m : Int) (xs : List ArcD) (ys : List Int) : listB m xs ys = true ↔ netB m xs = true ∧ ys.length ≤ 8 ∧ ∀ y ∈ ys, 0 ≤ y ∧ y < m := by
  simp only [listB, Bool.and_eq_true, decide_eq_true_eq, List.all_eq_true, inB_iff]
  constructor
  · rintro ⟨h1, h2, h3⟩
    exact ⟨h1, h2, fun y hy => by have := h3 y hy; omega⟩
  · rintro ⟨h1, h2, h3⟩
    exact ⟨h1, h2, fun y hy => by have := h3 y hy; omega⟩

/-- Which of the first k numbers is least, and how much that is: -1 and Far, if none is less than Far. -/
def least (cs : List Int) : Nat → Int × Int
  | 0 => (-1, 99999)
  | k + 1 => if at_ cs (k : Int) < (least cs k).2 then ((k : Int), at_ cs (k : Int)) else least cs k

theorem least_bd (cs : List Int) : ∀ k : Nat, -1 ≤ (least cs k).1 ∧ (least cs k).1 < k ∧ (least cs k).2 ≤ 99999
  | 0 => by simp [least]
  | k + 1 => by
    have ih := least_bd cs k
    unfold least
    split
    · simp only; omega
    · omega

theorem least_le (cs : List Int) : ∀ k i : Nat, i < k → (least cs k).2 ≤ at_ cs (i : Int)
  | 0, i, h => by omega
  | k + 1, i, h => by
    have ih := least_le cs k
    unfold least
    by_cases e : i = k
    · subst e
      split
      · exact Int.le_refl _
      · omega
    · have := ih i (by omega)
      split
      · simp only; omega
      · exact this

theorem least_first (cs : List Int) : ∀ k i : Nat, i < k → (i : Int) < (least cs k).1 → (least cs k).2 < at_ cs (i : Int)
  | 0, i, h => by omega
  | k + 1, i, h => by
    have ih := least_first cs k
    have hle := least_le cs k
    have hbd := least_bd cs k
    unfold least
    split
    · intro h2
      simp only at h2 ⊢
      have := hle i (by omega)
      omega
    · intro h2
      exact ih i (by omega) h2

theorem least_at (cs : List Int) : ∀ k : Nat, ((least cs k).1 = -1 ∧ (least cs k).2 = 99999) ∨ ∃ j : Nat, j < k ∧ (least cs k).1 = j ∧ at_ cs (j : Int) = (least cs k).2
  | 0 => by simp [least]
  | k + 1 => by
    have ih := least_at cs k
    unfold least
    split
    · exact .inr ⟨k, by omega, rfl, rfl⟩
    · rcases ih with h | ⟨j, h1, h2⟩
      · exact .inl h
      · exact .inr ⟨j, by omega, h2⟩

theorem least_next_lt {cs : List Int} {k : Nat} {z : Int} (hz : at_ cs (k : Int) = z) (h : z < (least cs k).2) : least cs (k + 1) = ((k : Int), z) := by
  subst hz
  simp only [least, if_pos h]
theorem least_next_ge {cs : List Int} {k : Nat} {z : Int} (hz : at_ cs (k : Int) = z) (h : ¬ z < (least cs k).2) : least cs (k + 1) = least cs k := by
  subst hz
  simp only [least, if_neg h]

/-- What it costs from a node to each of a list. -/
def costsL (m : Int) (xs : List ArcD) (s : Int) (ys : List Int) : List Int := ys.map (at_ (nearL m.toNat xs s))

theorem at_map {f : Int → Int} {ys : List Int} {k : Nat} {y : Int} (h : ys[k]? = some y) : at_ (ys.map f) (k : Int) = f y := by
  simp [at_, h]

/-- Which of a list of nodes is nearest, and what that costs. -/
def manyW (m : Int) (xs : List ArcD) (s : Int) (ys : List Int) : Int := if listB m xs ys && inB s 0 (m - 1) then (least (costsL m xs s ys) ys.length).1 else -1
def manyC (m : Int) (xs : List ArcD) (s : Int) (ys : List Int) : Int := if listB m xs ys && inB s 0 (m - 1) then (least (costsL m xs s ys) ys.length).2 else -1

end Go.Proofs.Ytaojognjkiifmaa

namespace Go.Proofs.Ytaojognjkiifmaa

theorem getElem_at (d : List Int) (i : Nat) (h : i < d.length) : d[i]? = some (at_ d (i : Int)) := by simp [at_, h]
theorem Way.join {xs : List ArcD} {s u v c c' : Int} {l l' : List Int} (h : Way xs s u c l) (k : Way xs u v c' l') : ∃ l'', Way xs s v (c + c') l'' := by
  induction k with
  | nil => exact ⟨l, by rw [Int.add_zero]; exact h⟩
  | @snoc x c' l' a _ ha e ih =>
    obtain ⟨l'', h2⟩ := ih
    exact ⟨_, by have := Way.snoc h2 ha e; rw [Int.add_assoc] at this; exact this⟩
theorem near_over {m : Nat} {xs : List ArcD} {s u v : Int} (hm : m ≤ 17) (hx : ArcsIn m xs) (hs : 0 ≤ s ∧ s < m) (hu : 0 ≤ u ∧ u < m) (hv : 0 ≤ v ∧ v < m)
    (h1 : at_ (nearL m xs s) u < farI) (h2 : at_ (nearL m xs u) v < farI) : at_ (nearL m xs s) v ≤ at_ (nearL m xs s) u + at_ (nearL m xs u) v := by
  obtain ⟨l1, w1⟩ := ((nearL_sound hx hs).2 u hu.1 hu.2).2.resolve_left (by omega)
  obtain ⟨l2, w2⟩ := ((nearL_sound hx hu).2 v hv.1 hv.2).2.resolve_left (by omega)
  obtain ⟨l3, w3⟩ := w1.join w2
  exact nearL_le hm hx hs w3
theorem nearL_bound {m : Nat} {xs : List ArcD} {s v : Int} (hx : ArcsIn m xs) (hs : 0 ≤ s ∧ s < m) (hv : 0 ≤ v ∧ v < m) : 0 ≤ at_ (nearL m xs s) v ∧ at_ (nearL m xs s) v ≤ farI := by
  obtain ⟨h1, h2⟩ := (nearL_sound hx hs).2 v hv.1 hv.2
  refine ⟨?_, h1⟩
  rcases h2 with e | ⟨l, h⟩
  · rw [e]; unfold farI; omega
  · exact (h.cost hx).1
/-- What is reached has an arc that leads there, or is where one begins. -/
theorem nearL_last {m : Nat} {xs : List ArcD} {s v : Int} (hm : m ≤ 17) (hx : ArcsIn m xs) (hs : 0 ≤ s ∧ s < m) (hv : 0 ≤ v ∧ v < m) (h : at_ (nearL m xs s) v < farI) : v = s ∨ ∃ a ∈ xs, a.t = v ∧ at_ (nearL m xs s) a.f < farI ∧ at_ (nearL m xs s) v = at_ (nearL m xs s) a.f + a.c := by
  obtain ⟨l, w⟩ := ((nearL_sound hx hs).2 v hv.1 hv.2).2.resolve_left (by omega)
  generalize hc : at_ (nearL m xs s) v = c at w
  cases w with
  | nil => exact .inl rfl
  | @snoc u c l a w ha e =>
    right
    subst e
    have hb := hx a ha
    have h1 := nearL_le hm hx hs w
    have hlt : at_ (nearL m xs s) a.f < farI := by omega
    obtain ⟨l2, w2⟩ := ((nearL_sound hx hs).2 a.f (by omega) (by omega)).2.resolve_left (by omega)
    have h3 := nearL_le hm hx hs (.snoc w2 ha rfl)
    exact ⟨a, ha, rfl, hlt, by omega⟩
/-- No arc makes anything nearer. -/
theorem nearL_arc {m : Nat} {xs : List ArcD} {s : Int} (hm : m ≤ 17) (hx : ArcsIn m xs) (hs : 0 ≤ s ∧ s < m) {a : ArcD} (ha : a ∈ xs) (h : at_ (nearL m xs s) a.f < farI) : at_ (nearL m xs s) a.t ≤ at_ (nearL m xs s) a.f + a.c := by
  have hb := hx a ha
  obtain ⟨l, w⟩ := ((nearL_sound hx hs).2 a.f (by omega) (by omega)).2.resolve_left (by omega)
  exact nearL_le hm hx hs (.snoc w ha rfl)
theorem nearL_start {m : Nat} {xs : List ArcD} {s : Int} (hm : m ≤ 17) (hx : ArcsIn m xs) (hs : 0 ≤ s ∧ s < m) : at_ (nearL m xs s) s = 0 := by
  have h1 := nearL_le hm hx hs (.nil : Way xs s s 0 [])
  have h2 := (nearL_bound hx hs hs).1
  omega

end Go.Proofs.Ytaojognjkiifmaa

namespace Go.Proofs.Ytaojognjkiifmaa

theorem Way.one {xs : List ArcD} {a : ArcD} (ha : a ∈ xs) : Way xs a.f a.t a.c [a.f] := by
  have := Way.snoc (.nil : Way xs a.f a.f 0 []) ha rfl
  rw [Int.zero_add] at this
  exact this
theorem Way.back {xs : List ArcD} {s v c : Int} {l : List Int} (h : Way xs s v c l) : ∃ l', Way (xs.map flip) v s c l' := by
  induction h with
  | nil => exact ⟨_, .nil⟩
  | @snoc u c l a _ ha e ih =>
    obtain ⟨l', h'⟩ := ih
    subst e
    have h1 : Way (xs.map flip) a.t a.f a.c [a.t] := Way.one (a := flip a) (List.mem_map.2 ⟨a, ha, rfl⟩)
    obtain ⟨l2, h2⟩ := h1.join h'
    exact ⟨l2, by rw [Int.add_comm]; exact h2⟩
theorem flips_id (xs : List ArcD) : (xs.map flip).map flip = xs := by rw [List.map_map]; exact (List.map_congr_left fun _ _ => rfl).trans (List.map_id _)
theorem arcsIn_back {m : Int} {xs : List ArcD} (h : ArcsIn m xs) : ArcsIn m (xs.map flip) := fun a ha => by
  obtain ⟨b, hb, rfl⟩ := List.mem_map.1 ha
  have := h b hb
  simp only [flip]
  omega
theorem near_back {m : Nat} {xs : List ArcD} {s v : Int} (hm : m ≤ 17) (hx : ArcsIn m xs) (hs : 0 ≤ s ∧ s < m) (hv : 0 ≤ v ∧ v < m) : at_ (nearL m xs s) v = at_ (nearL m (xs.map flip) v) s := by
  have hy := arcsIn_back hx
  obtain ⟨a1, a2⟩ := (nearL_sound hx hs).2 v hv.1 hv.2
  obtain ⟨b1, b2⟩ := (nearL_sound hy hv).2 s hs.1 hs.2
  rcases a2 with a2 | ⟨l, a2⟩
  · rcases b2 with b2 | ⟨l', b2⟩
    · omega
    · obtain ⟨l2, h2⟩ := b2.back
      rw [flips_id] at h2
      have := nearL_le hm hx hs h2
      omega
  · obtain ⟨l2, h2⟩ := a2.back
    have h3 := nearL_le hm hy hv h2
    rcases b2 with b2 | ⟨l', b2⟩
    · omega
    · obtain ⟨l4, h4⟩ := b2.back
      rw [flips_id] at h4
      have := nearL_le hm hx hs h4
      omega

end Go.Proofs.Ytaojognjkiifmaa

namespace Go.Proofs.Ytaojognjkiifmaa
open Go.RowKit

/-- What can be reached costs little. -/
theorem nearL_small {m : Nat} {xs : List ArcD} {s v : Int} (hm : m ≤ 17) (hx : ArcsIn m xs) (hs : 0 ≤ s ∧ s < m) (hv : 0 ≤ v ∧ v < m) (h : at_ (nearL m xs s) v ≠ 99999) : at_ (nearL m xs s) v ≤ 11200 := by
  obtain ⟨_, h2⟩ := (nearL_sound hx hs).2 v hv.1 hv.2
  rcases h2 with h2 | ⟨l, h2⟩
  · exact absurd h2 h
  · obtain ⟨c2, l2, h1, _, _, h4⟩ := h2.simple hx
    have hf := h1.few hx hs h4
    have hc := h1.cost hx
    have := nearL_le hm hx hs h1
    omega

theorem near_tri {m : Nat} {xs : List ArcD} {s u v : Int} (hm : m ≤ 17) (hx : ArcsIn m xs) (hs : 0 ≤ s ∧ s < m) (hu : 0 ≤ u ∧ u < m) (hv : 0 ≤ v ∧ v < m) : at_ (nearL m xs s) v ≤ at_ (nearL m xs s) u + at_ (nearL m xs u) v := by
  have b1 := nearL_bound hx hs hu
  have b2 := nearL_bound hx hu hv
  have b3 := nearL_bound hx hs hv
  by_cases h1 : at_ (nearL m xs s) u < farI
  · by_cases h2 : at_ (nearL m xs u) v < farI
    · exact near_over hm hx hs hu hv h1 h2
    · omega
  · omega

/-- How much more one distance is than another one. -/
def surI (a b : Int) : Int := if b = 99999 then 0 else if 49999 < a - b then 99999 else a - b
/-- What is known of one mark: d from it, b to it. -/
def lessM (d b : List Int) (f t : Int) : Int :=
  let p := if at_ d f < 99999 ∧ 0 < at_ d t - at_ d f then at_ d t - at_ d f else 0
  let q := if at_ b t < 99999 ∧ p < at_ b f - at_ b t then at_ b f - at_ b t else p
  if 49999 < q then 99999 else q
theorem sur_less {d b : List Int} {f t z : Int} (h1 : 0 ≤ at_ d f ∧ at_ d f ≤ 99999) (h2 : 0 ≤ at_ d t ∧ at_ d t ≤ 99999) (h3 : 0 ≤ at_ b f ∧ at_ b f ≤ 99999) (h4 : 0 ≤ at_ b t ∧ at_ b t ≤ 99999) (hz : 0 ≤ z) :
    max (max z (surI (at_ d t) (at_ d f))) (surI (at_ b f) (at_ b t)) = max z (lessM d b f t) := by
  unfold surI lessM
  simp only
  split <;> split <;> (repeat' split) <;> omega
theorem lessM_bound {d b : List Int} {f t : Int} (_h1 : 0 ≤ at_ d f ∧ at_ d f ≤ 99999) (_h2 : 0 ≤ at_ d t ∧ at_ d t ≤ 99999) (_h3 : 0 ≤ at_ b f ∧ at_ b f ≤ 99999) (_h4 : 0 ≤ at_ b t ∧ at_ b t ≤ 99999) :
    0 ≤ lessM d b f t ∧ lessM d b f t ≤ 99999 := by
  unfold lessM
  simp only
  repeat' split
  all_goals omega

/-- What is known of the first k marks. -/
def boundTo (M : Nat) (xs : List ArcD) (ks : List Int) (f t : Int) : Nat → Int
  | 0 => 0
  | k + 1 => max (boundTo M xs ks f t k) (lessM (nearL M xs (at_ ks (k : Int))) (nearL M (xs.map flip) (at_ ks (k : Int))) f t)
def boundI (m : Int) (xs : List ArcD) (ks : List Int) (f t : Int) : Int := if listB m xs ks && (inB f 0 (m - 1) && inB t 0 (m - 1)) then boundTo m.toNat xs ks f t ks.length else -1

theorem at_mem {ks : List Int} {k : Nat} (h : k < ks.length) : at_ ks (k : Int) ∈ ks := by
  have : at_ ks (k : Int) = ks[k] := by simp [at_, h]
  rw [this]
  exact List.getElem_mem h

section
variable {M : Nat} {xs : List ArcD} {ks : List Int} {f t : Int}
theorem four (hx : ArcsIn M xs) (hf : 0 ≤ f ∧ f < M) (ht : 0 ≤ t ∧ t < M) {s : Int} (hs : 0 ≤ s ∧ s < M) :
    (0 ≤ at_ (nearL M xs s) f ∧ at_ (nearL M xs s) f ≤ 99999) ∧ (0 ≤ at_ (nearL M xs s) t ∧ at_ (nearL M xs s) t ≤ 99999) ∧ (0 ≤ at_ (nearL M (xs.map flip) s) f ∧ at_ (nearL M (xs.map flip) s) f ≤ 99999) ∧ (0 ≤ at_ (nearL M (xs.map flip) s) t ∧ at_ (nearL M (xs.map flip) s) t ≤ 99999) :=
  ⟨nearL_bound hx hs hf, nearL_bound hx hs ht, nearL_bound (arcsIn_back hx) hs hf, nearL_bound (arcsIn_back hx) hs ht⟩
theorem boundTo_bound (hx : ArcsIn M xs) (hk : ∀ y ∈ ks, 0 ≤ y ∧ y < M) (hf : 0 ≤ f ∧ f < M) (ht : 0 ≤ t ∧ t < M) : ∀ k, k ≤ ks.length → 0 ≤ boundTo M xs ks f t k ∧ boundTo M xs ks f t k ≤ 99999
  | 0, _ => by unfold boundTo; omega
  | k + 1, h => by
    have ih := boundTo_bound hx hk hf ht k (by omega)
    obtain ⟨h1, h2, h3, h4⟩ := four hx hf ht (hk _ (at_mem (ks := ks) (k := k) (by omega)))
    have := lessM_bound h1 h2 h3 h4
    unfold boundTo
    omega
/-- One mark says no more than what it costs. -/
theorem lessM_le (hM : M ≤ 17) (hx : ArcsIn M xs) (hf : 0 ≤ f ∧ f < M) (ht : 0 ≤ t ∧ t < M) {s : Int} (hs : 0 ≤ s ∧ s < M) :
    lessM (nearL M xs s) (nearL M (xs.map flip) s) f t ≤ at_ (nearL M xs f) t := by
  obtain ⟨h1, h2, h3, h4⟩ := four hx hf ht hs
  have c1 := near_tri hM hx hs hf ht
  have c2 := near_tri hM hx hf ht hs
  have e1 := near_back hM hx hf hs
  have e2 := near_back hM hx ht hs
  have b0 := nearL_bound hx hf ht
  have s1 := fun h => nearL_small hM hx hs hf h
  have s2 := fun h => nearL_small hM (arcsIn_back hx) hs ht h
  have s3 := fun h => nearL_small hM hx hf ht h
  unfold lessM
  simp only
  unfold farI at *
  rw [e1, e2] at c2
  repeat' split
  all_goals omega
theorem boundTo_le (hM : M ≤ 17) (hx : ArcsIn M xs) (hk : ∀ y ∈ ks, 0 ≤ y ∧ y < M) (hf : 0 ≤ f ∧ f < M) (ht : 0 ≤ t ∧ t < M) : ∀ k, k ≤ ks.length → boundTo M xs ks f t k ≤ at_ (nearL M xs f) t
  | 0, _ => by
    have := nearL_bound hx hf ht
    unfold boundTo
    omega
  | k + 1, h => by
    have ih := boundTo_le hM hx hk hf ht k (by omega)
    have := lessM_le hM hx hf ht (hk _ (at_mem (ks := ks) (k := k) (by omega)))
    unfold boundTo
    omega
/-- The first node as a mark says what it costs. -/
theorem lessM_self (hM : M ≤ 17) (hx : ArcsIn M xs) (hf : 0 ≤ f ∧ f < M) (ht : 0 ≤ t ∧ t < M) :
    lessM (nearL M xs f) (nearL M (xs.map flip) f) f t = at_ (nearL M xs f) t := by
  have hle := lessM_le hM hx hf ht hf
  obtain ⟨h1, h2, h3, h4⟩ := four hx hf ht hf
  have e0 := nearL_start hM hx hf
  have e1 := nearL_start hM (arcsIn_back hx) hf
  have s3 := fun h => nearL_small hM hx hf ht h
  unfold lessM at hle ⊢
  simp only at hle ⊢
  rw [e0, e1] at hle ⊢
  repeat' split at hle
  all_goals (repeat' split) <;> omega
theorem boundTo_app (js : List Int) : ∀ k, k ≤ ks.length → boundTo M xs (ks ++ js) f t k = boundTo M xs ks f t k
  | 0, _ => rfl
  | k + 1, h => by
    have ih := boundTo_app js k (by omega)
    have e : at_ (ks ++ js) (k : Int) = at_ ks (k : Int) := by simp [at_, List.getD_eq_getElem?_getD, List.getElem?_append_left (show k < ks.length by omega)]
    rw [boundTo, boundTo, ih, e]
theorem boundTo_with (hM : M ≤ 17) (hx : ArcsIn M xs) (hk : ∀ y ∈ ks, 0 ≤ y ∧ y < M) (hf : 0 ≤ f ∧ f < M) (ht : 0 ≤ t ∧ t < M) : boundTo M xs (ks ++ [f]) f t (ks.length + 1) = at_ (nearL M xs f) t := by
  have hle := boundTo_le hM hx hk hf ht ks.length (Nat.le_refl _)
  have e : at_ (ks ++ [f]) ((ks.length : Nat) : Int) = f := by simp [at_]
  rw [boundTo, boundTo_app _ _ (Nat.le_refl _), e, lessM_self hM hx hf ht]
  omega
/-- Over an arc. -/
theorem lessM_arc (hM : M ≤ 17) (hx : ArcsIn M xs) (ht : 0 ≤ t ∧ t < M) {s : Int} (hs : 0 ≤ s ∧ s < M) {a : ArcD} (ha : a ∈ xs) (hfar : lessM (nearL M xs s) (nearL M (xs.map flip) s) a.t t < 99999) :
    lessM (nearL M xs s) (nearL M (xs.map flip) s) a.f t ≤ a.c + lessM (nearL M xs s) (nearL M (xs.map flip) s) a.t t := by
  have hb := hx a ha
  have hf : 0 ≤ a.f ∧ a.f < M := ⟨hb.1, hb.2.1⟩
  have hg : 0 ≤ a.t ∧ a.t < M := ⟨hb.2.2.1, hb.2.2.2.1⟩
  obtain ⟨h1, h2, h3, h4⟩ := four hx hf ht hs
  obtain ⟨g1, _, g3, _⟩ := four hx hg ht hs
  have c1 : at_ (nearL M xs s) a.f < 99999 → at_ (nearL M xs s) a.t ≤ at_ (nearL M xs s) a.f + a.c := fun h => nearL_arc hM hx hs ha h
  have c2 : at_ (nearL M (xs.map flip) s) a.t < 99999 → at_ (nearL M (xs.map flip) s) a.f ≤ at_ (nearL M (xs.map flip) s) a.t + a.c := fun h => nearL_arc hM (arcsIn_back hx) hs (a := flip a) (List.mem_map_of_mem ha) h
  have s1 := fun h => nearL_small hM hx hs hf h
  have s2 := fun h => nearL_small hM hx hs hg h
  have s3 := fun h => nearL_small hM hx hs ht h
  have r1 := fun h => nearL_small hM (arcsIn_back hx) hs hf h
  have r2 := fun h => nearL_small hM (arcsIn_back hx) hs hg h
  have r3 := fun h => nearL_small hM (arcsIn_back hx) hs ht h
  unfold lessM at hfar ⊢
  simp only at hfar ⊢
  repeat' split at hfar
  all_goals (repeat' split) <;> omega
theorem boundTo_arc (hM : M ≤ 17) (hx : ArcsIn M xs) (hk : ∀ y ∈ ks, 0 ≤ y ∧ y < M) (ht : 0 ≤ t ∧ t < M) {a : ArcD} (ha : a ∈ xs) : ∀ k, k ≤ ks.length → boundTo M xs ks a.t t k < 99999 → boundTo M xs ks a.f t k ≤ a.c + boundTo M xs ks a.t t k
  | 0, _, _ => by
    have := hx a ha
    unfold boundTo
    omega
  | k + 1, h, hb => by
    have hs := hk _ (at_mem (ks := ks) (k := k) (by omega))
    unfold boundTo at hb ⊢
    have ih := boundTo_arc hM hx hk ht ha k (by omega) (by omega)
    have := lessM_arc hM hx ht hs ha (by omega)
    omega
theorem boundTo_self (hx : ArcsIn M xs) : ∀ k, boundTo M xs ks t t k = 0
  | 0 => rfl
  | k + 1 => by
    rw [boundTo, boundTo_self hx k]
    unfold lessM
    simp only [Int.sub_self]
    simp
end

end Go.Proofs.Ytaojognjkiifmaa

namespace Go.Proofs.Ytaojognjkiifmaa

/-- A walk with its turns, from s: the number of the last arc, and what it has cost. -/
inductive TW (xs : List ArcD) (ts : List TurnD) (s : Int) : Nat → Int → Prop
  | one {j : Nat} {b : ArcD} : xs[j]? = some b → b.f = s → TW xs ts s j b.c
  | more {i k : Nat} {a b : ArcD} {c : Int} : TW xs ts s i c → xs[i]? = some a → xs[k]? = some b → a.t = b.f → 0 ≤ costF ts i k → TW xs ts s k (c + (costF ts i k + b.c))

section
variable {m : Int} {xs : List ArcD} {ts : List TurnD} {s : Int}
theorem TW.has {j : Nat} {c : Int} (h : TW xs ts s j c) : ∃ b, xs[j]? = some b := by
  cases h with
  | one h _ => exact ⟨_, h⟩
  | more _ _ h _ _ => exact ⟨_, h⟩
theorem rowL_has {i j : Nat} {a : ArcD} (h : a ∈ lineArc xs ts i j) : ∀ k, j < k → a ∈ rowL xs ts i k
  | 0, hk => by omega
  | k + 1, hk => by
    simp only [rowL, List.mem_append]
    by_cases e : j = k
    · subst e; exact .inr h
    · exact .inl (rowL_has h k (by omega))
theorem lineTo_has {n i j : Nat} {a : ArcD} (h : a ∈ lineArc xs ts i j) (hj : j < n) : ∀ k, i < k → a ∈ lineTo xs ts n k
  | 0, hk => by omega
  | k + 1, hk => by
    simp only [lineTo, List.mem_append]
    by_cases e : i = k
    · subst e; exact .inr (rowL_has h n hj)
    · exact .inl (lineTo_has h hj k (by omega))
theorem lineArc_link {i k : Nat} {a : ArcD} (h : a ∈ lineArc xs ts i k) : ∃ x b, xs[i]? = some x ∧ xs[k]? = some b ∧ x.t = b.f ∧ 0 ≤ costF ts i k ∧ a = ⟨i, k, costF ts i k + b.c, 0, 9⟩ := by
  unfold lineArc at h
  split at h
  · rename_i x b hx hb
    split at h
    · rename_i hc
      exact ⟨x, b, hx, hb, hc.1, hc.2, by simpa using h⟩
    · simp at h
  · simp at h
/-- A way over the arcs' own arcs is a walk with its turns. -/
theorem way_tw {v c : Int} {l : List Int} (h : Way (turnArcs xs ts s) (xs.length : Int) v c l) : (v = xs.length ∧ c = 0) ∨ ∃ j : Nat, v = j ∧ TW xs ts s j c := by
  induction h with
  | nil => exact .inl ⟨rfl, rfl⟩
  | @snoc u c l a _ ha e ih =>
    right
    rcases List.mem_append.1 ha with ha | ha
    · obtain ⟨i, j, ha⟩ := lineTo_mem _ ha
      obtain ⟨x, b, h1, h2, h3, h4, rfl⟩ := lineArc_link ha
      simp only at e ⊢
      have hi := (List.getElem?_eq_some_iff.1 h1).1
      rcases ih with ⟨e1, _⟩ | ⟨i', e1, ht⟩
      · omega
      · obtain rfl : i = i' := by omega
        exact ⟨j, rfl, .more ht h1 h2 h3 h4⟩
    · obtain ⟨j, b, _, h2, h3, rfl⟩ := extra_mem _ ha
      simp only at e ⊢
      rcases ih with ⟨_, e2⟩ | ⟨i', e1, ht⟩
      · exact ⟨j, rfl, by rw [e2, Int.zero_add]; exact .one h2 h3⟩
      · obtain ⟨b', hb'⟩ := ht.has
        have := (List.getElem?_eq_some_iff.1 hb').1
        omega
theorem TW.way {j : Nat} {c : Int} (h : TW xs ts s j c) : ∃ l, Way (turnArcs xs ts s) (xs.length : Int) (j : Int) c l := by
  induction h with
  | @one j b h1 h2 =>
    have hj := (List.getElem?_eq_some_iff.1 h1).1
    have := Way.snoc (xs := turnArcs xs ts s) (s := (xs.length : Int)) .nil (a := ⟨(xs.length : Int), (j : Int), b.c, 0, 0⟩) (List.mem_append_right _ (extra_has h1 h2 _ hj)) rfl
    rw [Int.zero_add] at this
    exact ⟨_, this⟩
  | @more i k a b c _ h1 h2 h3 h4 ih =>
    obtain ⟨l, w⟩ := ih
    have hi := (List.getElem?_eq_some_iff.1 h1).1
    have hk := (List.getElem?_eq_some_iff.1 h2).1
    exact ⟨_, .snoc w (a := ⟨(i : Int), (k : Int), costF ts i k + b.c, 0, 9⟩) (List.mem_append_left _ (lineTo_has (i := i) (j := k) (by rw [lineArc_hit h1 h2 h3 h4]; simp) hk _ hi)) rfl⟩

/-- No walk with its turns costs less than what is told of its last arc. -/
theorem arcsL_le (hT : turnsB m xs ts = true) {j : Nat} {c : Int} (h : TW xs ts s j c) : at_ (arcsL xs ts s) (j : Int) ≤ c ∧ at_ (arcsL xs ts s) (j : Int) < farI := by
  have hN := (turnsB_all hT).1
  have hB := (turnsB_all hT).2.2.1
  have h16 := ((netB_iff _ _).1 hN).2.1
  have hx := turnArcs_in (xs := xs) (ts := ts) s hN hB
  obtain ⟨b, hb⟩ := h.has
  have hj := (List.getElem?_eq_some_iff.1 hb).1
  obtain ⟨l, w⟩ := h.way
  have hs : (0 : Int) ≤ (xs.length : Int) ∧ (xs.length : Int) < ((xs.length + 1 : Nat) : Int) := by omega
  have e : at_ (arcsL xs ts s) (j : Int) = at_ (nearL (xs.length + 1) (turnArcs xs ts s) (xs.length : Int)) (j : Int) := by
    rw [arcs_near hN hB, at_app (by omega) (by rw [arcsL_length]; omega)]
  rw [e]
  obtain ⟨c2, l2, h1, h2, _, h4⟩ := w.simple hx
  have hf := h1.few hx hs h4
  have hc := h1.cost hx
  have := nearL_le (by omega) hx hs h1
  unfold farI
  omega
/-- What is told of an arc is far, or what a walk with its turns costs. -/
theorem arcsL_is (hT : turnsB m xs ts = true) {j : Nat} (hj : j < xs.length) : 0 ≤ at_ (arcsL xs ts s) (j : Int) ∧ (at_ (arcsL xs ts s) (j : Int) = farI ∨ TW xs ts s j (at_ (arcsL xs ts s) (j : Int))) := by
  have hN := (turnsB_all hT).1
  have hB := (turnsB_all hT).2.2.1
  have h16 := ((netB_iff _ _).1 hN).2.1
  have hx := turnArcs_in (xs := xs) (ts := ts) s hN hB
  have hs : (0 : Int) ≤ (xs.length : Int) ∧ (xs.length : Int) < ((xs.length + 1 : Nat) : Int) := by omega
  have e : at_ (arcsL xs ts s) (j : Int) = at_ (nearL (xs.length + 1) (turnArcs xs ts s) (xs.length : Int)) (j : Int) := by
    rw [arcs_near hN hB, at_app (by omega) (by rw [arcsL_length]; omega)]
  have hb := nearL_bound hx hs (v := (j : Int)) (by omega)
  rw [e]
  refine ⟨hb.1, ?_⟩
  rcases ((nearL_sound hx hs).2 (j : Int) (by omega) (by omega)).2 with h | ⟨l, w⟩
  · exact .inl h
  · right
    rcases way_tw w with ⟨e1, _⟩ | ⟨i, e1, ht⟩
    · omega
    · obtain rfl : j = i := by omega
      exact ht

/-- The least of the arcs that lead there. -/
theorem into_fact {d o : List Int} (hx : ∀ a ∈ xs, 0 ≤ a.t ∧ a.t.toNat < o.length) (v : Int) (hv : 0 ≤ v) : ∀ k, k ≤ xs.length → (∀ j b, j < k → xs[j]? = some b → b.t = v → at_ (intoTo xs d o k) v ≤ at_ d (j : Int)) ∧ at_ (intoTo xs d o k) v ≤ at_ o v ∧ (at_ (intoTo xs d o k) v = at_ o v ∨ ∃ j b, j < k ∧ xs[j]? = some b ∧ b.t = v ∧ at_ (intoTo xs d o k) v = at_ d (j : Int))
  | 0, _ => ⟨fun j b h => by omega, Int.le_refl _, .inl rfl⟩
  | k + 1, hk => by
    obtain ⟨h1, h2, h3⟩ := into_fact hx v hv (d := d) k (by omega)
    obtain ⟨a, ha⟩ : ∃ a, xs[k]? = some a := ⟨_, List.getElem?_eq_getElem (show k < xs.length by omega)⟩
    have hb := hx a (List.mem_of_getElem? ha)
    rw [intoTo_next ha]
    split
    · rename_i hlt
      rw [at_set _ _ _ _ hb.1 (by rw [intoTo_length]; exact hb.2) hv]
      split
      · rename_i e
        subst e
        refine ⟨fun j b hj hjb hbt => ?_, by omega, .inr ⟨k, a, by omega, ha, rfl, rfl⟩⟩
        by_cases e : j = k
        · subst e; exact Int.le_refl _
        · have := h1 j b (by omega) hjb hbt; omega
      · rename_i e
        refine ⟨fun j b hj hjb hbt => ?_, h2, ?_⟩
        · by_cases e' : j = k
          · subst e'; rw [ha] at hjb; injection hjb with hjb; subst hjb; exact absurd hbt.symm e
          · exact h1 j b (by omega) hjb hbt
        · rcases h3 with h3 | ⟨j, b, g1, g2, g3, g4⟩
          · exact .inl h3
          · exact .inr ⟨j, b, by omega, g2, g3, g4⟩
    · rename_i hlt
      refine ⟨fun j b hj hjb hbt => ?_, h2, ?_⟩
      · by_cases e' : j = k
        · subst e'; rw [ha] at hjb; injection hjb with hjb; subst hjb; subst hbt; omega
        · exact h1 j b (by omega) hjb hbt
      · rcases h3 with h3 | ⟨j, b, g1, g2, g3, g4⟩
        · exact .inl h3
        · exact .inr ⟨j, b, by omega, g2, g3, g4⟩

variable {M : Nat}
theorem tall_fact (hT : turnsB (M : Int) xs ts = true) (hs : 0 ≤ s ∧ s < M) {v : Int} (hv : 0 ≤ v ∧ v < M) : (∀ (j : Nat) (b : ArcD), xs[j]? = some b → b.t = v → at_ (tallL M xs ts s) v ≤ at_ (arcsL xs ts s) (j : Int)) ∧ at_ (tallL M xs ts s) v ≤ (if v = s then 0 else farI) ∧ (at_ (tallL M xs ts s) v = (if v = s then 0 else farI) ∨ ∃ (j : Nat) (b : ArcD), xs[j]? = some b ∧ b.t = v ∧ at_ (tallL M xs ts s) v = at_ (arcsL xs ts s) (j : Int)) := by
  have hx := arcsIn_net (turnsB_all hT).1
  have h := into_fact (xs := xs) (d := arcsL xs ts s) (o := start M s) (fun a ha => by have := hx a ha; rw [start_length]; omega) v hv.1 xs.length (Nat.le_refl _)
  rw [at_start M s v hs hv] at h
  refine ⟨fun j b hj hb => h.1 j b (List.getElem?_eq_some_iff.1 hj).1 hj hb, h.2.1, ?_⟩
  rcases h.2.2 with h3 | ⟨j, b, _, g2, g3, g4⟩
  · exact .inl h3
  · exact .inr ⟨j, b, g2, g3, g4⟩
theorem tall_bound (hT : turnsB (M : Int) xs ts = true) (hs : 0 ≤ s ∧ s < M) {v : Int} (hv : 0 ≤ v ∧ v < M) : 0 ≤ at_ (tallL M xs ts s) v ∧ at_ (tallL M xs ts s) v ≤ farI := by
  obtain ⟨_, h2, h3⟩ := tall_fact hT hs hv
  constructor
  · rcases h3 with h | ⟨j, b, g2, _, g4⟩
    · rw [h]; split
      · omega
      · unfold farI; omega
    · rw [g4]; exact (arcsL_is hT (List.getElem?_eq_some_iff.1 g2).1).1
  · split at h2
    · unfold farI; omega
    · exact h2
theorem tall_start (hT : turnsB (M : Int) xs ts = true) (hs : 0 ≤ s ∧ s < M) : at_ (tallL M xs ts s) s = 0 := by
  have h1 := (tall_fact hT hs hs).2.1
  have h2 := (tall_bound hT hs hs).1
  rw [if_pos rfl] at h1
  omega
/-- No walk with its turns costs less. -/
theorem tall_le (hT : turnsB (M : Int) xs ts = true) (hs : 0 ≤ s ∧ s < M) {j : Nat} {b : ArcD} {c : Int} (hb : xs[j]? = some b) (h : TW xs ts s j c) : at_ (tallL M xs ts s) b.t ≤ c ∧ at_ (tallL M xs ts s) b.t < farI := by
  have hbd := arcsIn_net (turnsB_all hT).1 b (List.mem_of_getElem? hb)
  have h1 := (tall_fact hT hs (v := b.t) (by omega)).1 j b hb rfl
  have h2 := arcsL_le hT h
  omega
/-- What is told is far, nothing, or what a walk with its turns costs. -/
theorem tall_is (hT : turnsB (M : Int) xs ts = true) (hs : 0 ≤ s ∧ s < M) {v : Int} (hv : 0 ≤ v ∧ v < M) (hf : at_ (tallL M xs ts s) v < farI) : v = s ∨ ∃ (j : Nat) (b : ArcD), xs[j]? = some b ∧ b.t = v ∧ TW xs ts s j (at_ (tallL M xs ts s) v) := by
  obtain ⟨_, _, h3⟩ := tall_fact hT hs hv
  by_cases e : v = s
  · exact .inl e
  · right
    rw [if_neg e] at h3
    rcases h3 with h | ⟨j, b, g2, g3, g4⟩
    · omega
    · refine ⟨j, b, g2, g3, ?_⟩
      rcases (arcsL_is hT (s := s) (List.getElem?_eq_some_iff.1 g2).1).2 with h | h
      · omega
      · rw [g4]; exact h

/-- Without its turns a walk costs no more. -/
theorem TW.plain {j : Nat} {b : ArcD} {c : Int} (h : TW xs ts s j c) (hb : xs[j]? = some b) : ∃ c2 l, Way xs s b.t c2 l ∧ c2 ≤ c := by
  induction h generalizing b with
  | @one j b' h1 h2 =>
    rw [h1] at hb
    injection hb with hb
    subst hb
    have := Way.snoc (xs := xs) (s := s) .nil (List.mem_of_getElem? h1) h2
    rw [Int.zero_add] at this
    exact ⟨_, _, this, Int.le_refl _⟩
  | @more i k a b' c _ h1 h2 h3 h4 ih =>
    rw [h2] at hb
    injection hb with hb
    subst hb
    obtain ⟨c2, l, w, hc⟩ := ih h1
    exact ⟨_, _, .snoc w (List.mem_of_getElem? h2) h3.symm, by omega⟩
/-- Where turns cost nothing is nearer. -/
theorem tall_near (hT : turnsB (M : Int) xs ts = true) (hs : 0 ≤ s ∧ s < M) {v : Int} (hv : 0 ≤ v ∧ v < M) : at_ (nearL M xs s) v ≤ at_ (tallL M xs ts s) v := by
  have hN := (turnsB_all hT).1
  have hM := ((netB_iff _ _).1 hN).1
  have hx := arcsIn_net hN
  have hb := nearL_bound hx hs hv
  by_cases hf : at_ (tallL M xs ts s) v < farI
  · rcases tall_is hT hs hv hf with e | ⟨j, b, g2, g3, g4⟩
    · subst e
      have := nearL_start (by omega) hx hs
      have := (tall_bound hT hs hs).1
      omega
    · obtain ⟨c2, l, w, hc⟩ := g4.plain g2
      rw [g3] at w
      have := nearL_le (by omega) hx hs w
      omega
  · omega
theorem costF_nil (a b : Int) : costF [] a b = 0 := rfl
/-- Without turns the walk of a way. -/
theorem way_none {v c : Int} {l : List Int} (h : Way xs s v c l) : (v = s ∧ c = 0) ∨ ∃ (j : Nat) (b : ArcD), xs[j]? = some b ∧ b.t = v ∧ TW xs [] s j c := by
  induction h with
  | nil => exact .inl ⟨rfl, rfl⟩
  | @snoc u c l a _ ha e ih =>
    right
    obtain ⟨k, hk⟩ := List.getElem?_of_mem ha
    refine ⟨k, a, hk, rfl, ?_⟩
    rcases ih with ⟨e1, e2⟩ | ⟨i, b, g1, g2, g3⟩
    · rw [e2, Int.zero_add]
      exact .one hk (by omega)
    · have := TW.more g3 g1 hk (by omega) (by rw [costF_nil]; omega)
      rw [costF_nil, Int.zero_add] at this
      exact this
theorem TW.none {j : Nat} {b : ArcD} {c : Int} (h : TW xs [] s j c) (hb : xs[j]? = some b) : ∃ l, Way xs s b.t c l := by
  induction h generalizing b with
  | @one j b' h1 h2 =>
    rw [h1] at hb
    injection hb with hb
    subst hb
    have := Way.snoc (xs := xs) (s := s) .nil (List.mem_of_getElem? h1) h2
    rw [Int.zero_add] at this
    exact ⟨_, this⟩
  | @more i k a b' c _ h1 h2 h3 h4 ih =>
    rw [h2] at hb
    injection hb with hb
    subst hb
    obtain ⟨l, w⟩ := ih h1
    have := Way.snoc w (List.mem_of_getElem? h2) h3.symm
    rw [costF_nil, Int.zero_add]
    exact ⟨_, this⟩
/-- Without turns all is as near. -/
theorem tall_none (hN : netB (M : Int) xs = true) (hs : 0 ≤ s ∧ s < M) : tallL M xs [] s = nearL M xs s := by
  have hT : turnsB (M : Int) xs [] = true := by rw [turnsB_nil]; exact hN
  have hM := ((netB_iff _ _).1 hN).1
  have hx := arcsIn_net hN
  refine nearL_unique (by omega) hx hs ⟨by rw [tallL_length], fun v h0 h1 => ?_⟩ (fun {v c l} w => ?_)
  · have hb := tall_bound hT hs ⟨h0, h1⟩
    refine ⟨hb.2, ?_⟩
    by_cases hf : at_ (tallL M xs [] s) v < farI
    · right
      rcases tall_is hT hs ⟨h0, h1⟩ hf with e | ⟨j, b, g2, g3, g4⟩
      · subst e
        rw [tall_start hT hs]
        exact ⟨[], .nil⟩
      · obtain ⟨l, w⟩ := g4.none g2
        rw [g3] at w
        exact ⟨l, w⟩
    · left; omega
  · rcases way_none w with ⟨e1, e2⟩ | ⟨j, b, g1, g2, g3⟩
    · rw [e1, e2, tall_start hT hs]; exact Int.le_refl _
    · have := (tall_le hT hs g1 g3).1
      rw [g2] at this
      exact this
theorem tallI_none (m : Int) (xs : List ArcD) (s : Int) : tallI m xs [] s = nearI m xs s := by
  unfold tallI nearI
  have e : theretB m xs [] s = hereB m xs s := by rw [theretB, turnsB_nil, hereB]
  rw [e]
  split
  · rename_i h
    obtain ⟨hN, h0, h1⟩ := (hereB_iff _ _ _).1 h
    obtain ⟨M, rfl, _, _⟩ := here_nat hN
    rw [Int.toNat_natCast]
    exact tall_none hN ⟨h0, h1⟩
  · rfl
end

end Go.Proofs.Ytaojognjkiifmaa

namespace Go.Proofs.Ytaojognjkiifmaa
open Go.RowKit

theorem makeIntR (n : Nat) (hn : n ≤ 1048576) (u : World) : (Instr.makeSlice 28 (.int .i64 (n : Int)) (.int .i64 (n : Int))).run Try.prog u =
    .ok (.slice (some ⟨u.heap.size, 0, none⟩) n n) (u.alloc (.cells (madeCells #[.int .i64 0] n) 3)) := makeIntZ n hn u _ rfl

theorem run_copyI (u : World) (ty g o dLen dCap : Nat) (ad : Addr) (sLen sCap : Nat) (cur : Array Value) (cs : List Value) (hg : u.heap[g]? = some (.cells cur 3 (0, 0))) (hn : cs.length = Nat.min sLen dLen)
    (hsrc : ∀ j v, cs[j]? = some v → u.cell? (ad.add j) = some v) (hfit : o + cs.length ≤ cur.size) (h1 : ∀ v ∈ cs, v.oneCell' = true) :
    (Builtin.copy_ #[28, 28] ty #[.slice (some ⟨g, o, none⟩) dLen dCap, .slice (some ad) sLen sCap]).run Try.prog u = .ok (goInt (Nat.min sLen dLen)) (u.setRow g (cur.toList.take o ++ cs ++ cur.toList.drop (o + cs.length)).toArray) := by
  obtain ⟨i0, hi, hz0, hz1, hz2⟩ := info_parts infoInt
  have hl := run_loadCells_list (P := Try.prog) u ad cs hsrc
  have hst := run_storeCells_at (P := Try.prog) g o 3 cs 0 cur u hg (by simpa using hfit) h1
  simp only [Nat.add_zero] at hst
  simp [Builtin.copy_, run_underlying Try.underlying28, Builtin.lenOf, Builtin.firstCells, sizeOf, typeInfo, hi, hz1, ← hn, hl, hst]

/-- The first j of n are x. -/
def repI (x : Int) (n j : Nat) : List Int := List.replicate j x ++ List.replicate (n - j) 0
theorem repI_len (x : Int) {n j : Nat} (h : j ≤ n) : (repI x n j).length = n := by simp [repI]; omega
theorem repI_made (x : Int) (n : Nat) (hn : n ≤ 17) : madeCells #[.int .i64 0] n = (ints (repI x n 0)).toArray := by
  have h : n = 0 ∨ n = 1 ∨ n = 2 ∨ n = 3 ∨ n = 4 ∨ n = 5 ∨ n = 6 ∨ n = 7 ∨ n = 8 ∨ n = 9 ∨ n = 10 ∨ n = 11 ∨ n = 12 ∨ n = 13 ∨ n = 14 ∨ n = 15 ∨ n = 16 ∨ n = 17 := by omega
  rcases h with rfl | rfl | rfl | rfl | rfl | rfl | rfl | rfl | rfl | rfl | rfl | rfl | rfl | rfl | rfl | rfl | rfl | rfl
  all_goals (simp [madeCells, repI, ints, Array.range, List.replicate]; try rfl)
theorem ints_one1 (xs : List Int) : ∀ v ∈ ints xs, v.oneCell' = true := fun v hv => by
  obtain ⟨x, _, rfl⟩ := List.mem_map.1 hv
  rfl
theorem repI_step (x : Int) (n j m : Nat) : (ints (repI x n j)).take j ++ ints (List.replicate m x) ++ (ints (repI x n j)).drop (j + m) = ints (repI x n (j + m)) := by
  unfold ints
  rw [← List.map_take, ← List.map_drop, ← List.map_append, ← List.map_append]
  congr 1
  unfold repI
  rw [List.take_left' (by simp), List.drop_append, List.length_replicate, List.drop_of_length_le (by simp), List.nil_append, List.drop_replicate, show j + m - j = m by omega, show n - j - m = n - (j + m) by omega, List.replicate_append_replicate]

theorem copy_stepI (u w : World) (x : Int) (n j m g sLen dLen : Nat) (ad : Addr) (hg : u.heap[g]? = some (.cells (ints (repI x n j)).toArray 3 (0, 0))) (hb : Past w u) (hgw : w.heap.size ≤ g) (hjm : j + m ≤ n)
    (hsrc : ∀ i v, (ints (List.replicate m x))[i]? = some v → u.cell? (ad.add i) = some v) (hmin : Nat.min sLen dLen = m) :
    ∃ u', (∀ ty dCap sCap, (Builtin.copy_ #[28, 28] ty #[.slice (some ⟨g, j, none⟩) dLen dCap, .slice (some ad) sLen sCap]).run Try.prog u = .ok (.int .i64 (m : Int)) u') ∧ u'.heap[g]? = some (.cells (ints (repI x n (j + m))).toArray 3 (0, 0)) ∧ Past w u' := by
  have hl : (ints (List.replicate m x)).length = m := by simp [ints]
  refine ⟨u.setRow g (ints (repI x n (j + m))).toArray, fun ty dCap sCap => ?_, setRow_heap u g _ _ _ _ hg, below_setRow hb hgw _⟩
  have h := run_copyI u ty g j dLen dCap ad sLen sCap _ (ints (List.replicate m x)) hg (by rw [hl, hmin]) hsrc (by have e := repI_len x (show j ≤ n by omega); rw [List.size_toArray, hl]; simp only [ints, List.length_map, e]; omega) (ints_one1 _)
  rw [h, hmin]
  simp only []
  rw [hl, repI_step x n j m]
  rfl
theorem rep_srcI (u : World) (x : Int) (n j m g : Nat) (hm : m ≤ j) (hg : u.heap[g]? = some (.cells (ints (repI x n j)).toArray 3 (0, 0))) : ∀ i v, (ints (List.replicate m x))[i]? = some v → u.cell? ((⟨g, 0, none⟩ : Addr).add i) = some v := fun i v hv => by
  rw [Addr.add_lit, Nat.zero_add, cell_of_row _ _ _ _ _ _ hg]
  have h1 : ints (repI x n j) = ints (List.replicate m x) ++ ints (List.replicate (j - m) x ++ List.replicate (n - j) 0) := by
    rw [← ints_append, ← List.append_assoc, List.replicate_append_replicate, show m + (j - m) = j by omega]
    rfl
  have hlt := (List.getElem?_eq_some_iff.1 hv).1
  rw [List.getElem?_toArray, h1, List.getElem?_append_left hlt]
  exact hv

/-- Behind Repeat. -/
def RepeatedI (w : World) (x : Int) (n : Nat) (e : Ending) (w' : World) : Prop :=
  e = .returned (.slice (some ⟨w.heap.size, 0, none⟩) n n) ∧ w'.heap[w.heap.size]? = some (.cells (ints (List.replicate n x)).toArray 3 (0, 0)) ∧ Past w w'
theorem RowI.of_rep {w : World} {g n : Nat} {x : Int} (h : w.heap[g]? = some (.cells (ints (List.replicate n x)).toArray 3 (0, 0))) : RowI w g (List.replicate n x) :=
  ⟨⟨_, h, by simp [ints]⟩, fun k y hk => ⟨g, 0, rfl, by
    rw [Nat.zero_add, cell_of_row _ _ _ _ _ _ h, List.getElem?_toArray]
    unfold ints
    rw [List.getElem?_map, hk]
    rfl⟩⟩

set_option maxRecDepth 1000000 in
set_option maxHeartbeats 4000000 in
theorem repeatI_any (b n : Nat) (x : Int) (w : World) (hn : n ≤ 17) (h0 : w.cell? ⟨b, 0, none⟩ = some (.int .i64 x)) :
    Calls Try.prog 65 #[.slice (some ⟨b, 0, none⟩) 1 1, .int .i64 (n : Int)] w (RepeatedI w x n) := by
  have hmk := makeIntR n (by omega)
  simp only [repI_made x n hn] at hmk
  have k1 : IntKind.u64.wrap (n : Int) = (n : Int) := IntWalk.u64_in _ (by omega)
  have k2 : IntKind.i64.wrap (n : Int) = (n : Int) := IntWalk.i64_in _ (by omega)
  have k3 : ¬ ((9223372036854775807 : Int) < (n : Int)) := by omega
  have k3' : decide ((9223372036854775807 : Int) < (n : Int)) = false := decide_eq_false k3
  have k4 : ¬ ((n : Int) < 0) := by omega
  have hpV : Past w (w.alloc (.cells (ints (repI x n 0)).toArray 3)) := (Past.refl w).alloc _
  obtain ⟨m0, hm0⟩ : ∃ m0, m0 = min 1 n := ⟨_, rfl⟩
  have hm1 : m0 ≤ n := by omega
  have hm2 : n = 0 ∨ 1 ≤ m0 := by omega
  obtain ⟨W1, hcp, hW1, hp1⟩ := copy_stepI _ w x n 0 m0 w.heap.size 1 n ⟨b, 0, none⟩ (heap_alloc_new w (.cells (ints (repI x n 0)).toArray 3)) hpV (Nat.le_refl _) (by omega)
    (fun i v hv => by
      have hi := (List.getElem?_eq_some_iff.1 hv).1
      simp [ints] at hi
      obtain rfl : i = 0 := by omega
      obtain rfl : m0 = 1 := by omega
      simp [ints] at hv
      subst hv
      rw [Addr.add_lit]
      exact cell_in hpV h0) (by rw [hm0])
  simp only [Nat.zero_add] at hcp hW1
  have hcp1 := hcp 3 n 1
  have HW := Lib.hid hW1
  clear hcp hpV hW1 hm0
  go_enter Try.func65, Try.ntmps65
  go_wp2_with fail
  refine (mul_one n hn _).mono ?_
  rintro e w1 ⟨rfl, rfl⟩
  go_wp2
  go_loopw [8] (fun c wr => ∃ j : Nat, c = .int .i64 j ∧ (n = 0 ∨ 1 ≤ j) ∧ j ≤ n ∧ Hid (wr.heap[w1.heap.size]? = some (.cells (ints (repI x n j)).toArray 3 (0, 0))) ∧ Past w1 wr) (fun c _ => n - (intOf c).toNat)
  case atStart => exact ⟨m0, rfl, hm2, hm1, HW, hp1⟩
  case round =>
    obtain ⟨j, rfl, hj1, hjn, HJ, hbr⟩ := hrel
    by_cases hlt : j < n
    · have hlt' : (j : Int) < (n : Int) := by omega
      obtain ⟨m, hm⟩ : ∃ m, m = min j (n - j) := ⟨_, rfl⟩
      obtain ⟨W2, hcp2, hW2, hp2⟩ := copy_stepI wr.drew w1 x n j m w1.heap.size j (n - j) ⟨w1.heap.size, 0, none⟩ HJ.out hbr.drew (Nat.le_refl _) (by omega) (rep_srcI wr.drew x n j m w1.heap.size (by omega) HJ.out) hm.symm
      have HW2 := Lib.hid hW2
      have hcp3 := hcp2 3 (n - j) n
      have i0 : (0 : Int) ≤ (j : Int) := by omega
      have i1 : (j : Int) ≤ (n : Int) := by omega
      have wj : IntKind.i64.wrap ((j : Int) + (m : Int)) = (j : Int) + (m : Int) := IntWalk.i64_in _ (by omega)
      have hnj : ¬ n = j := by omega
      have HMM := Lib.hid hm
      clear hW2 hcp2 hm
      go_wp2_with fail
      clear hmk hcp1 HW k1 k2 k3 k4 h0 hp1
      go_region_law ((refine step_copy_run' (by rfl) (.tmp 41) (.tmp 44) 28 28 (by rfl) (.slice (some ⟨w1.heap.size, j, none⟩) (n - j) (n - j)) (.slice (some ⟨w1.heap.size, 0, none⟩) j n) (by rfl) (by rfl) hcp3 ?_))
      go_simp
      go_wp2
      go_roundw
      case rel => exact ⟨j + m, by go_num, by omega, by have := HMM.out; omega, HW2, hp2⟩
      case measure => have := HMM.out; simp [intOf]; omega
    · obtain rfl : n = j := by omega
      go_wp2
      go_ret
      refine ⟨rfl, ?_, hbr⟩
      have := HJ.out
      simpa [repI] using this

end Go.Proofs.Ytaojognjkiifmaa

namespace Go.Proofs.Ytaojognjkiifmaa
open Go.RowKit Go.Shelf Go.Maps

attribute [local go_sem] Oper.semAt_some

/-- What comes of the arcs that the iterator has told so far. -/
def exArc (xs : List ArcD) (N k : Nat) : List ArcD := match xs[k]? with | some b => [⟨(N : Int), (k : Int), b.c, 0, 0⟩] | none => []
def exP (xs : List ArcD) (N : Nat) (p : List Int) : List ArcD := p.flatMap fun y => exArc xs N y.toNat
theorem exP_snoc (xs : List ArcD) (N : Nat) (p : List Int) (y : Int) : exP xs N (p ++ [y]) = exP xs N p ++ exArc xs N y.toNat := by simp [exP]
theorem exP_all {xs : List ArcD} {s : Int} {N : Nat} : ∀ n, n ≤ xs.length → exP xs N (outTo xs s n) = extraTo xs s N n
  | 0, _ => rfl
  | n + 1, hn => by
    have ih := exP_all (xs := xs) (s := s) (N := N) n (by omega)
    obtain ⟨b, hb⟩ : ∃ b, xs[n]? = some b := ⟨_, List.getElem?_eq_getElem (show n < xs.length by omega)⟩
    rw [extraTo, ← ih, hb]
    cases he : (b.f == s) with
    | true => rw [outTo_hit hb he, exP_snoc]; simp at he; simp [exArc, hb, he]
    | false => rw [outTo_miss hb he]; simp at he; simp [he]
theorem exP_len (xs : List ArcD) (N : Nat) : ∀ p : List Int, (exP xs N p).length ≤ p.length
  | [] => by simp [exP]
  | y :: p => by
    have h1 := exP_len xs N p
    have h2 : (exArc xs N y.toNat).length ≤ 1 := by unfold exArc; split <;> simp
    simp only [exP, List.flatMap_cons, List.length_append, List.length_cons] at *
    omega

theorem extraTo_len (xs : List ArcD) (s : Int) (N : Nat) : ∀ k, (extraTo xs s N k).length ≤ k
  | 0 => by simp [extraTo]
  | k + 1 => by
    have ih := extraTo_len xs s N k
    rw [extraTo, List.length_append]
    cases xs[k]? with
    | none => simp; omega
    | some b => simp only; split <;> simp <;> omega
theorem turnArcs_len (xs : List ArcD) (ts : List TurnD) (s : Int) (h : xs.length ≤ 16) : (turnArcs xs ts s).length ≤ 400 := by
  have h1 := lineL_len xs ts h
  have h2 := extraTo_len xs s xs.length xs.length
  rw [turnArcs, List.length_append]
  omega
theorem turnArcs_ne {m : Int} {xs : List ArcD} {ts : List TurnD} (s : Int) (hn : netB m xs = true) : ∀ a ∈ turnArcs xs ts s, a.f ≠ a.t := fun a ha => by
  rcases List.mem_append.1 ha with ha | ha
  · obtain ⟨i, j, ha⟩ := lineTo_mem _ ha
    obtain ⟨x, b, h1, h2, h3, _, rfl⟩ := lineArc_link ha
    intro e
    simp only at e
    obtain rfl : i = j := by omega
    rw [h1] at h2
    injection h2 with h2
    subst h2
    exact net_ne hn x (List.mem_of_getElem? h1) h3.symm
  · obtain ⟨j, b, h1, h2, _, rfl⟩ := extra_mem _ ha
    simp only
    omega

set_option maxRecDepth 1000000 in
set_option maxHeartbeats 4000000 in
theorem tall_in (m : Int) (A : Option Addr) (n c : Nat) (xs : List ArcD) (B : Option Addr) (l cb : Nat) (ts : List TurnD) (s : Int) (w : World) (hn : n ≤ 1048576) (hnx : xs.length = n) (hx : ArcsAt w A xs) (hl : l ≤ 1048576) (hlt : ts.length = l) (ht : TurnsAt w B ts) :
    CallsIn Fence.wide 4 Try.prog 20 #[.agg #[.int .i64 m, .slice A n c], .slice B l cb, .int .i64 s] w (Gives w (tallI m xs ts s)) := by
  have HX := Lib.hid hnx
  have HL := Lib.hid hlt
  clear hnx hlt
  have hb0 : Past w (w.alloc (.cells #[.int .i64 m, .slice A n c] 32)) := (Past.refl _).alloc _
  refine callsIn_of_wp_marks Try.func20 rfl trivial ?_ rfl
  simp only [Try.ntmps20, List.size_toArray, List.length_cons, List.length_nil, Nat.reduceAdd, Nat.reduceSub, Array.replicate_succ, Array.replicate_zero, List.push_toArray, List.append_toArray, List.nil_append, List.cons_append]
  gi_wp2_with fail
  refine ⟨trivial, ?_⟩
  refine (callsIn_wide.2 (implTurnsOk_any m A n c xs B l cb ts _ hn HX.out (hx.below hb0) hl HL.out (ht.below hb0))).mono ?_
  rintro e w1 ⟨rfl, hb1⟩
  have b0 := cell_in (p := ⟨w.heap.size, 0, none⟩) (v := .int .i64 m) hb1 (by go_simp)
  have b1 := cell_in (p := ⟨w.heap.size, 1, none⟩) (v := .slice A n c) hb1 (by go_simp)
  have hp1 : Past w w1 := hb0.trans hb1
  clear hb0 hb1
  cases hB : turnsB m xs ts with
  | false =>
    have HF : Hid (theretB m xs ts s = false) := by rw [Hid, theretB, hB]; rfl
    clear hB
    gi_wp2_with fail
    refine ⟨trivial, ?_⟩
    gi_wp2
    exact leaves_marks [] _ List.nodup_nil (by simp) (fun W' hc => ⟨.slice none 0 0, by simp [results, Try.results20, go_sem], ⟨_, rfl, by rw [tallI, HF.out]; exact Res.nil _ _, hp1.belowTrans (hc.below hp1.size (by simp))⟩⟩)
  | true =>
  have HT := Lib.hid hB
  have hz : IntsAt (w1.alloc (.cells #[.int .i64 s] 3)) (some ⟨w1.heap.size, 0, none⟩) [s] := fun k y hk => by
    cases k with
    | zero => simp at hk; subst hk; exact ⟨_, _, rfl, by go_simp⟩
    | succ k => simp at hk
  have b0A := fun (o : Obj) => cell_in ((Past.refl w1).alloc o) b0
  have b1A := fun (o : Obj) => cell_in ((Past.refl w1).alloc o) b1
  clear hB
  gi_wp2_with fail
  refine ⟨trivial, ?_⟩
  refine (callsIn_wide.2 (netHas_any m A n c xs _ 1 1 [s] _ hn HX.out ((hx.below hp1).below ((Past.refl w1).alloc _)) (by omega) rfl hz)).mono ?_
  rintro e w2 ⟨rfl, hb2⟩
  have hp12 : Past w1 w2 := ((Past.refl w1).alloc (.cells #[.int .i64 s] 3)).trans hb2
  have b0 := cell_in hp12 b0
  have b1 := cell_in hp12 b1
  have hp2 : Past w w2 := hp1.trans hp12
  clear b0A b1A hb2 hp12 hz
  have hH : (netB m xs && [s].all (fun z => inB z 0 (m - 1))) = inB s 0 (m - 1) := by rw [(turnsB_all HT.out).1]; simp
  rw [hH]
  clear hH
  cases hD : inB s 0 (m - 1) with
  | false =>
    have HF : Hid (theretB m xs ts s = false) := by rw [Hid, theretB, hD, Bool.and_false]
    clear hD
    gi_wp2
    exact leaves_marks [] _ List.nodup_nil (by simp) (fun W' hc => ⟨.slice none 0 0, by simp [results, Try.results20, go_sem], ⟨_, rfl, by rw [tallI, HF.out]; exact Res.nil _ _, hp2.belowTrans (hc.below hp2.size (by simp))⟩⟩)
  | true =>
  have HF : Hid (theretB m xs ts s = true) := by rw [Hid, theretB, HT.out, hD]; rfl
  have hs := (inB_iff _ _ _).1 hD
  have h16 : n ≤ 16 := by rw [← HX.out]; exact ((netB_iff _ _).1 (turnsB_all HT.out).1).2.1
  have hm8 := ((netB_iff _ _).1 (turnsB_all HT.out).1).1
  obtain ⟨M, rfl⟩ : ∃ M : Nat, m = M := ⟨m.toNat, by omega⟩
  clear hD
  gi_wp2_with fail
  refine ⟨trivial, ?_⟩
  refine (callsIn_wide.2 (line_any (M : Int) A n c xs B l cb ts _ h16 HX.out (hx.below hp2) hl HL.out (ht.below hp2) HT.out)).mono ?_
  rintro e w3 ⟨v, rfl, hv, hb3⟩
  have hp23 : Past w2 w3 := hb3
  have hs23 := hp23.size
  have hs02 := hp2.size
  have B0 := Lib.hid b0
  have B1 := Lib.hid b1
  have b0 := cell_in hb3 b0
  have b1 := cell_in hb3 b1
  have hp3 : Past w w3 := hp2.trans hb3
  have s1 : IntKind.i64.wrap ((n : Int) + 1) = (n : Int) + 1 := IntWalk.i64_in _ (by omega)
  obtain ⟨K, hK⟩ : ∃ K, K = (lineL xs ts).length := ⟨_, rfl⟩
  obtain ⟨A2, c2, rfl, hx2, _⟩ := hv.form
  rw [← hK]
  have HK := Lib.hid hK
  have HV := Lib.hid hv
  clear hK hv hb3 hx2
  have b0B := fun (o o' : Obj) => cell_in (((Past.refl w3).alloc o).alloc o') b0
  have b1B := fun (o o' : Obj) => cell_in (((Past.refl w3).alloc o).alloc o') b1
  gi_wp2_with fail
  refine ⟨trivial, ?_⟩
  refine (callsIn_wide.2 (arcsFrom_any (M : Int) s A n c _)).mono ?_
  rintro e w5 ⟨rfl, hw5⟩
  clear b0B b1B
  have hs5 : w5.heap.size = w3.heap.size + 4 := by rw [hw5]; simp
  have hp35 : Past w3 w5 := by rw [hw5]; exact ((((Past.refl _).alloc _).alloc _).alloc _).alloc _
  have hpA : Past (w3.alloc (.cells #[.int .i64 ((n : Int) + 1), .slice A2 K c2] 32)) w5 := by rw [hw5]; exact (((Past.refl _).alloc _).alloc _).alloc _
  have hp5 : Past w w5 := hp3.trans hp35
  have hown3 : w3.ownsRow w2.heap.size 52 5 (.slice A2 K c2) (lineL xs ts).length (cellsOf (lineL xs ts)) := by rw [HK.out]; exact HV.out
  have hT0 : TaIn w2 w5 w3.heap.size n w2.heap.size (.slice A2 K c2) (lineL xs ts) := by
    refine ⟨by rw [hw5]; go_simp, by rw [hw5]; go_simp, by rw [hw5]; go_simp, ?_, World.ownsRow.kept hown3 (grown_of_below hp35 none) (by cases hv : (Value.slice A2 K c2).ownBlock <;> simp), fun b e => .inl (hown3.lt b e).2, by omega, hp23.trans hp35⟩
    exact RowN.keep (w := w3.alloc (.cells #[.int .i64 ((n : Int) + 1), .slice A2 K c2] 32)) ⟨_, heap_alloc_new w3 _, rfl⟩ (hpA.block _ (by simp))
  have hC : ArcsC (w3.heap.size + 1 + 1) (w3.heap.size + 1 + 1 + 1) (M : Int) s A n c xs w5 := ⟨by rw [hw5]; go_simp, by rw [hw5]; go_simp, by rw [hw5]; go_simp, hx.below hp5⟩
  have b0 := cell_in hp35 b0
  have b1 := cell_in hp35 b1
  simp only [World.size_alloc]
  clear hw5 hpA hp35 hown3
  gi_wp2_with fail
  refine wpIn_rangeFunc_ownG rfl (by omega) (gf := 100) (lb := #[.pointer (some ⟨w3.heap.size + 1 + 1, 0, none⟩), .pointer (some ⟨w3.heap.size + 1 + 1 + 1, 0, none⟩)]) rfl trivial (enters_of Try.func100 (by kernel_rfl) rfl)
    (arcsK_stops Fence.wide 3 trivial rfl (by omega) (w3.heap.size + 1 + 1) (w3.heap.size + 1 + 1 + 1) w2.heap.size (M : Int) s A n c xs HX.out (by omega) w2 (hx.below hp2) (Nat.le_refl _) w5 hC)
    (fun h k => h.trans k) (fun W l o o' hl ho hc hw => ⟨belowK_b (w := w5) (by omega) W l o o' hl ho hc hw, World.putObj_heap_other (by omega), World.putObj_heap_other (by omega)⟩) (Below.refl _ _) (fun _ => rfl)
    (fun pre W => ∃ v, TaIn w2 W w3.heap.size n w2.heap.size v (lineL xs ts ++ exP xs n (nums pre)))
    (fun _ _ _ => False)
    (fun pre A B row hs hg hr => by
      obtain ⟨v, h⟩ := hs
      exact ⟨v, h.turn hs23 hg (fun r e => by have := hr r e; rw [hs5] at this; exact this)⟩)
    (fun _ _ _ _ _ hs _ _ => hs)
    ⟨_, by simpa [nums, exP] using hT0⟩
    (fun x => { tmps := (.agg #[.int .i64 (M : Int), .slice A n c] :: .slice B l cb :: .int .i64 s :: .pointer (some ⟨w.heap.size, 0, none⟩) :: undef :: undef :: .slice none 0 0 :: .pointer (some ⟨w3.heap.size, 0, none⟩) :: .pointer (some ⟨w3.heap.size + 1, 0, none⟩) :: .int .i64 x.1 :: undef :: undef :: undef :: undef :: .agg #[.int .i64 (M : Int), .slice A n c] :: .slice B l cb :: .bool true :: .bool false :: .bool false :: .agg #[.int .i64 (M : Int), .slice A n c] :: .int .i64 s :: .slice (some ⟨w1.heap.size, 0, none⟩) 1 1 :: .bool true :: .bool false :: .bool false :: .agg #[.int .i64 (M : Int), .slice A n c] :: .slice B l cb :: .agg #[.int .i64 (n : Int), .slice A2 K c2] :: .pointer (some ⟨w3.heap.size, 0, none⟩) :: .int .i64 (n : Int) :: .pointer (some ⟨w3.heap.size, 0, none⟩) :: .int .i64 (n : Int) :: .int .i64 ((n : Int) + 1) :: .pointer (some ⟨w3.heap.size, 0, none⟩) :: .agg #[.int .i64 (M : Int), .slice A n c] :: .int .i64 s :: .func (.func 100) #[] #[.pointer (some ⟨w3.heap.size + 1 + 1, 0, none⟩), .pointer (some ⟨w3.heap.size + 1 + 1 + 1, 0, none⟩)] :: .int .i64 x.1 :: undef :: undef :: undef :: undef :: undef :: undef :: undef :: undef :: undef :: undef :: undef :: undef :: undef :: undef :: undef :: undef :: undef :: undef :: undef :: undef :: undef :: undef :: undef :: undef :: undef :: undef :: undef :: undef :: undef :: undef :: undef :: undef :: undef :: undef :: undef :: undef :: undef :: undef :: undef :: undef :: undef :: undef :: undef :: undef :: undef :: undef :: undef :: undef :: undef :: undef :: []).toArray, defers := [] }) ?assign ?body ?done ?stop
  case assign =>
    intro l x W K hK
    gi_wp2
    exact hK
  case body =>
    rintro ld pre ⟨x, j, ⟨f', t', c', l', d'⟩, rfl, hb', hf⟩ W ⟨v, hI⟩ hlt'
    have hjk : j < n := by rw [← HX.out]; exact (List.getElem?_eq_some_iff.1 hb').1
    obtain ⟨g, o, rfl, d0, d1, d2, d3, d4⟩ := ((hx.below hp2).below hI.past) j _ hb'
    have hgl : g < w.heap.size := by
      obtain ⟨g3, o3, e3, h3, _⟩ := hx j _ hb'
      injection e3 with e3
      injection e3 with e4 e5
      subst e4
      exact lt_of_cell h3
    have hln := lineL_len xs ts (by rw [HX.out]; exact h16)
    have hbw := cell_in hI.past B1.out
    have o1 := hI.o1
    have hnm := hI.num
    have HN : Hid (lineL xs ts ++ exP xs n (nums pre ++ [(j : Int)]) = (lineL xs ts ++ exP xs n (nums pre)) ++ [⟨(n : Int), (j : Int), c', 0, 0⟩]) := by
      rw [Hid, exP_snoc, Int.toNat_natCast, exArc, hb', ← List.append_assoc]
    have hlen : (lineL xs ts ++ exP xs n (nums pre)).length ≤ 1000 := by
      have h2 := exP_len xs n (nums pre)
      rw [nums_length] at h2
      rw [List.length_append]
      omega
    obtain ⟨v1, w9, hr, ⟨A3, k3, c3, hV1⟩, far, ⟨u9, x9⟩, z9, hI9, hkf, hblk, hbel⟩ := hI.fill ⟨(n : Int), (j : Int), c', 0, 0⟩ (Nat.le_refl _) hs23 hlen
    have hlw : w.heap.size < w2.heap.size := lt_of_cell B1.out
    clear d0 d1 d3 d4
    gi_wp2_with fail
    refine wpIn_region_chain (by kernel_rfl) [11, 12, 14] { tmps := (.agg #[.int .i64 (M : Int), .slice (some ⟨g, o, none⟩) n c] :: .slice B l cb :: .int .i64 s :: .pointer (some ⟨w.heap.size, 0, none⟩) :: undef :: undef :: .slice none 0 0 :: .pointer (some ⟨w3.heap.size, 0, none⟩) :: .pointer (some ⟨w3.heap.size + 1, 0, none⟩) :: .int .i64 (j : Int) :: undef :: undef :: undef :: undef :: .agg #[.int .i64 (M : Int), .slice (some ⟨g, o, none⟩) n c] :: .slice B l cb :: .bool true :: .bool false :: .bool false :: .agg #[.int .i64 (M : Int), .slice (some ⟨g, o, none⟩) n c] :: .int .i64 s :: .slice (some ⟨w1.heap.size, 0, none⟩) 1 1 :: .bool true :: .bool false :: .bool false :: .agg #[.int .i64 (M : Int), .slice (some ⟨g, o, none⟩) n c] :: .slice B l cb :: .agg #[.int .i64 (n : Int), .slice A2 K c2] :: .pointer (some ⟨w3.heap.size, 0, none⟩) :: .int .i64 (n : Int) :: .pointer (some ⟨w3.heap.size, 0, none⟩) :: .int .i64 (n : Int) :: .int .i64 ((n : Int) + 1) :: .pointer (some ⟨w3.heap.size, 0, none⟩) :: .agg #[.int .i64 (M : Int), .slice (some ⟨g, o, none⟩) n c] :: .int .i64 s :: .func (.func 100) #[] #[.pointer (some ⟨w3.heap.size + 1 + 1, 0, none⟩), .pointer (some ⟨w3.heap.size + 1 + 1 + 1, 0, none⟩)] :: .int .i64 (j : Int) :: .pointer (some ⟨w3.heap.size, 1, none⟩) :: v :: .int .i64 (n : Int) :: .int .i64 (j : Int) :: .pointer (some ⟨w.heap.size, 1, none⟩) :: .slice (some ⟨g, o, none⟩) n c :: .int .i64 (j : Int) :: .pointer (some ⟨g, o + j * 5, none⟩) :: .pointer (some ⟨g, o + j * 5 + 2, none⟩) :: .int .i64 c' :: .agg #[.int .i64 (n : Int), .int .i64 (j : Int), .int .i64 c', .int .i64 0, .int .i64 0] :: .slice (some ⟨W.heap.size, 0, none⟩) 1 1 :: v1 :: .pointer (some ⟨w3.heap.size, 1, none⟩) :: undef :: undef :: undef :: undef :: undef :: undef :: undef :: undef :: undef :: undef :: undef :: undef :: undef :: undef :: undef :: undef :: undef :: undef :: undef :: undef :: undef :: undef :: undef :: undef :: undef :: undef :: undef :: undef :: undef :: undef :: undef :: undef :: undef :: undef :: undef :: undef :: []).toArray, defers := [] } (fun s => ([W.drew, W.drew.alloc (.cells #[.int .i64 (n : Int), .int .i64 (j : Int), .int .i64 c', .int .i64 0, .int .i64 0] 52), w9, w9.setCell ⟨w3.heap.size, 1, none⟩ v1] : List World).getD s W) rfl (by kernel_rfl) (by decide) rfl rfl ?base ?eachop ?fin
    case base =>
      intro t ht
      iterate 38 (rcases t with _ | t; · rfl)
      rcases t with _ | t; · exact absurd rfl (ht 0 _ rfl)
      rcases t with _ | t; · exact absurd rfl (ht 1 _ rfl)
      rcases t with _ | t; · exact absurd rfl (ht 2 _ rfl)
      rcases t with _ | t; · exact absurd rfl (ht 3 _ rfl)
      rcases t with _ | t; · exact absurd rfl (ht 4 _ rfl)
      rcases t with _ | t; · exact absurd rfl (ht 5 _ rfl)
      rcases t with _ | t; · exact absurd rfl (ht 6 _ rfl)
      rcases t with _ | t; · exact absurd rfl (ht 7 _ rfl)
      rcases t with _ | t; · exact absurd rfl (ht 8 _ rfl)
      rcases t with _ | t; · exact absurd rfl (ht 9 _ rfl)
      rcases t with _ | t; · exact absurd rfl (ht 10 _ rfl)
      rcases t with _ | t; · exact absurd rfl (ht 11 _ rfl)
      rcases t with _ | t; · exact absurd rfl (ht 12 _ rfl)
      rcases t with _ | t; · exact absurd rfl (ht 13 _ rfl)
      rfl
    case eachop =>
      have g0 : ∀ s, s < 3 → (([W.drew, W.drew.alloc (.cells #[.int .i64 (n : Int), .int .i64 (j : Int), .int .i64 c', .int .i64 0, .int .i64 0] 52), w9, w9.setCell ⟨w3.heap.size, 1, none⟩ v1] : List World).getD s W).cell? ⟨w3.heap.size, 1, none⟩ = some v ∧ (([W.drew, W.drew.alloc (.cells #[.int .i64 (n : Int), .int .i64 (j : Int), .int .i64 c', .int .i64 0, .int .i64 0] 52), w9, w9.setCell ⟨w3.heap.size, 1, none⟩ v1] : List World).getD s W).cell? ⟨w3.heap.size + 1, 0, none⟩ = some (.int .i64 (n : Int)) ∧ (([W.drew, W.drew.alloc (.cells #[.int .i64 (n : Int), .int .i64 (j : Int), .int .i64 c', .int .i64 0, .int .i64 0] 52), w9, w9.setCell ⟨w3.heap.size, 1, none⟩ v1] : List World).getD s W).cell? ⟨w.heap.size, 1, none⟩ = some (.slice (some ⟨g, o, none⟩) n c) ∧ (([W.drew, W.drew.alloc (.cells #[.int .i64 (n : Int), .int .i64 (j : Int), .int .i64 c', .int .i64 0, .int .i64 0] 52), w9, w9.setCell ⟨w3.heap.size, 1, none⟩ v1] : List World).getD s W).cell? ⟨g, o + j * 5 + 2, none⟩ = some (.int .i64 c') := by
        intro s hs
        rcases s with _ | _ | _ | s
        · exact ⟨o1, hnm, hbw, d2⟩
        · exact ⟨cell_in (((Past.refl W).drew).alloc _) o1, cell_in (((Past.refl W).drew).alloc _) hnm, cell_in (((Past.refl W).drew).alloc _) hbw, cell_in (((Past.refl W).drew).alloc _) d2⟩
        · exact ⟨far _ _ (.inr (by simp)) o1, far _ _ (.inr (by simp)) hnm, far _ _ (.inl hlw) hbw, far _ _ (.inl (Nat.lt_of_lt_of_le hgl hs02)) d2⟩
        · omega
      generalize hWS : ([W.drew, W.drew.alloc (.cells #[.int .i64 (n : Int), .int .i64 (j : Int), .int .i64 c', .int .i64 0, .int .i64 0] 52), w9, w9.setCell ⟨w3.heap.size, 1, none⟩ v1] : List World) = wl at g0 ⊢
      have q0 : ∀ s, s < 3 → (wl.getD s W).cell? ⟨w3.heap.size, 1, none⟩ = some v := fun s h => (g0 s h).1
      have q1 : ∀ s, s < 3 → (wl.getD s W).cell? ⟨w3.heap.size + 1, 0, none⟩ = some (.int .i64 (n : Int)) := fun s h => (g0 s h).2.1
      have q2 : ∀ s, s < 3 → (wl.getD s W).cell? ⟨w.heap.size, 1, none⟩ = some (.slice (some ⟨g, o, none⟩) n c) := fun s h => (g0 s h).2.2.1
      have q3 : ∀ s, s < 3 → (wl.getD s W).cell? ⟨g, o + j * 5 + 2, none⟩ = some (.int .i64 c') := fun s h => (g0 s h).2.2.2
      have j0 : (0 : Int) ≤ (j : Int) := by omega
      have j1 : (j : Int) < (n : Int) := by omega
      refine ⟨?p0, ?p1, ?p2, ?p3, ?p4, ?p5, ?p6, ?p7, ?p8, ?p9, ?p10, ?p11, ?p12, ?p13, ?p14, trivial⟩
      case p11 => refine opAt_writer 0 (by decide) rfl (.inl ?_); subst hWS; go_simp
      case p12 =>
        refine opAt_writer 1 (by decide) rfl (.inl ?_)
        subst hWS
        unfold execOp
        simp only [resolve, invoke, builtin, Sem.run_bind, Sem.run_pure, Result.andThen_ok, List.map_toArray, List.map_cons, List.map_nil]
        refine Eq.trans (congrArg (fun r => Result.andThen r _) hr) ?_
        rfl
      case p14 => refine opAt_writer 2 (by decide) rfl (.inr ⟨rfl, ?_⟩); subst hWS hV1; go_simp
      all_goals refine opAt_quiet (by decide) fun s hs => .inl ?_
      all_goals have hs : s < 3 := hs
      all_goals have q0 := q0 s hs
      all_goals have q1 := q1 s hs
      all_goals have q2 := q2 s hs
      all_goals have q3 := q3 s hs
      all_goals clear hWS g0 far x9 z9 hI9 hkf hblk hbel hr
      all_goals generalize wl.getD s W = ww at *
      all_goals go_simp
    case fin =>
      exact ⟨by rw [hs5]; exact hkf, ⟨hbel, hblk _ (.inr (by omega)), hblk _ (.inr (by omega))⟩, _, by rw [nums_snoc, HN.out]; exact hI9⟩
  case done =>
    rintro Dd ys W hD hys ⟨v', hI⟩ hDd
    have hL : lineL xs ts ++ exP xs n (nums ys) = turnArcs xs ts s := by
      rw [turnArcs, hys, ← exP_all (s := s) (N := xs.length) xs.length (Nat.le_refl _), HX.out]
    rw [hL] at hI
    clear hL
    have hM18 : 1 ≤ M ∧ M ≤ 8 := by omega
    have hN := (turnsB_all HT.out).1
    have hTB := (turnsB_all HT.out).2.2.1
    have htl := turnArcs_len xs ts s (by rw [HX.out]; exact h16)
    have hlen : (turnArcs xs ts s).length ≤ 400 := by omega
    obtain ⟨A3, c3, rfl, hx9, _⟩ := (show ResA W w2.heap.size v' (turnArcs xs ts s) from hI.own).form
    obtain ⟨K3, hK3⟩ : ∃ K3, K3 = (turnArcs xs ts s).length := ⟨_, rfl⟩
    have o0 := hI.o0
    have o1 := hI.o1
    have hnm := hI.num
    rw [← hK3] at o1 hlen
    have b0 := cell_in hI.past B0.out
    have b1 := cell_in hI.past B1.out
    have hpA : Past W (W.alloc (.cells #[.int .i64 99999] 3)) := (Past.refl W).alloc _
    have hbs := hI.base
    have hDl : Dd < W.heap.size := (Array.getElem?_eq_some_iff.1 hDd).1
    have hpW := hI.past
    have b0A := fun (o : Obj) => cell_in ((Past.refl W).alloc o) b0
    have b1A := fun (o : Obj) => cell_in ((Past.refl W).alloc o) b1
    clear hI hC hT0
    gi_wp2_with fail
    refine ⟨trivial, ?_⟩
    refine (callsIn_wide.2 (repeatI_any W.heap.size M 99999 _ (by omega) (by go_simp))).mono ?_
    rintro e w6 ⟨rfl, hrow6, hb6⟩
    clear b0A b1A
    have hp6 : Past W w6 := hpA.trans hb6
    have hs6 := hb6.size
    simp only [World.size_alloc] at hrow6 hs6 ⊢
    have hrow6 := RowI.of_rep hrow6
    have o0 := cell_in hp6 o0
    have o1 := cell_in hp6 o1
    have hnm := cell_in hp6 hnm
    have b0 := cell_in hp6 b0
    have b1 := cell_in hp6 b1
    have hx9 := hx9.below hp6
    have hK := Lib.hid hK3.symm
    have e1 : ((n + 1 : Nat) : Int) = (n : Int) + 1 := by omega
    have i0n : (0 : Int) ≤ (n : Int) := by omega
    have i1n : (n : Int) ≤ (n : Int) + 1 := by omega
    have hin : ArcsIn ((n + 1 : Nat) : Int) (turnArcs xs ts s) := by have := turnArcs_in (ts := ts) s hN hTB; rwa [HX.out] at this
    have cL := Lib.hid (fun (q : PastOf w6) => lengths_any (n + 1) n A3 K3 c3 (turnArcs xs ts s) q.W hlen hK.out (hx9.below q.h) hin (turnArcs_ne s hN) (by omega) (by omega) (by omega))
    rw [e1] at cL
    clear hpA hb6 hK3
    gi_wp2_with fail
    simp only [wpIn_wide] at *
    go_region_held3 (fun w' => w'.cell? ⟨w3.heap.size, 0, none⟩ = some (.int .i64 ((n : Int) + 1)) ∧ w'.cell? ⟨w3.heap.size, 1, none⟩ = some (.slice A3 K3 c3) ∧ w'.cell? ⟨w3.heap.size + 1, 0, none⟩ = some (.int .i64 (n : Int))) (go_keep)
      (first
        | (go_at_call 66; (with_reducible refine (cL.out ⟨w6.drew, (Past.refl w6).drew⟩).mono ?_); rintro e w7 ⟨g, L, rfl, hrow, hLl, hlabs, hopen, hb7⟩; have o0 := cell_in hb7 o0; have o1 := cell_in hb7 o1; have hnm := cell_in hb7 hnm))
    have hp67 : Past w6 w7 := (Past.refl w6).drew.trans hb7
    have hg6 : w6.heap.size ≤ g := ((show w7.ownsRow w6.drew.heap.size 88 2 (.slice (some ⟨g, 0, none⟩) (n + 1) (n + 1)) L.length (cellsLen L) from hrow).lt g rfl).1
    have hnear := hlabs.near hin (by omega) (by omega) hopen
    obtain ⟨ds, hds⟩ : ∃ ds, ds = (L.map LenD.x0).take n := ⟨_, rfl⟩
    have hfin : (minTo xs ds (List.replicate M 99999) n).set s.toNat 0 = tallL M xs ts s := by
      have h := tall_of_near (s := s) HT.out rfl (by omega)
      rw [HX.out, ← hnear, ← hds] at h
      exact h
    have hdl : ds.length = n := by rw [hds, List.length_take, List.length_map, hLl]; omega
    have HG := Lib.hid (fun j a (hj : L[j]? = some a) => hrow.get hLl hj)
    have HDS := Lib.hid hds
    have HFIN := Lib.hid hfin
    have hrow7 := hrow6.below hp67
    have hx7 := ((hx.below hp2).below hpW).below (hp6.trans hp67)
    have hpw7 : Past w w7 := (hp2.trans hpW).trans (hp6.trans hp67)
    have hdd7 : w7.heap[Dd]? = some (.deferred (some [])) := ((hp6.trans hp67).block Dd hDl).trans hDd
    have b1 := cell_in hp67 b1
    have hww : w.heap.size ≤ W.heap.size := (hp2.trans hpW).size
    have hin2 := arcsIn_net hN
    have hs7 := hp67.size
    have hs6' : W.heap.size + 1 < w6.heap.size := hrow6.1.lt
    clear hlabs hopen hds hfin hnear hrow cL hin o0 o1 hnm hx9 hb7
    go_wp2
    go_loopw [62] (fun i wr => ∃ j : Nat, j ≤ n ∧ i = .int .i64 j ∧ RowI wr (W.heap.size + 1) (minTo xs ds (List.replicate M 99999) j) ∧ w7.grownBy wr (some (W.heap.size + 1))) (fun i _ => n - (intOf i).toNat)
    case atStart => exact ⟨0, by omega, rfl, hrow7, grown_refl _ _⟩
    case round =>
      obtain ⟨j, hj, rfl, hrw, hg⟩ := hrel
      have b1 := cell_far hg b1 (by show w.heap.size ≠ W.heap.size + 1; omega)
      by_cases hlt : j < n
      · obtain ⟨⟨f, t, c', l', d'⟩, ha⟩ : ∃ a, xs[j]? = some a := ⟨_, List.getElem?_eq_getElem (by have := HX.out; omega)⟩
        obtain ⟨⟨x0, x1⟩, hL⟩ : ∃ a, L[j]? = some a := ⟨_, List.getElem?_eq_getElem (by omega)⟩
        obtain ⟨ga, oa, rfl, a0, a1, a2, a3, a4⟩ := hx7 j _ ha
        have hgl : ga < w.heap.size := by
          obtain ⟨g3, o3, e3, h3, _⟩ := hx j _ ha
          injection e3 with e3
          injection e3 with e4 e5
          subst e4
          exact lt_of_cell h3
        have a1 := cell_far hg a1 (by show ga ≠ W.heap.size + 1; omega)
        obtain ⟨c0, c1⟩ := HG.out j _ hL
        have c0 := cell_far hg c0 (by show g ≠ W.heap.size + 1; omega)
        have c1 := cell_far hg c1 (by show g ≠ W.heap.size + 1; omega)
        have hb := hin2 _ (List.mem_of_getElem? ha)
        simp only at hb a1 c0 c1
        have hml : (minTo xs ds (List.replicate M 99999) j).length = M := by rw [minTo_length, List.length_replicate]
        have hat : at_ ds (j : Int) = x0 := by rw [HDS.out]; unfold at_; simp [hL, hlt]
        have hnx := minTo_next (d := ds) (o := List.replicate M 99999) ha
        rw [hat] at hnx
        simp only at hnx
        obtain ⟨D, hD⟩ : ∃ D, D = minTo xs ds (List.replicate M 99999) j := ⟨_, rfl⟩
        rw [← hD] at hrw hml hnx
        have dt := hrw.at_ (v := t) (by omega) (by omega)
        obtain ⟨q, hq⟩ : ∃ q, q = at_ D t := ⟨_, rfl⟩
        rw [← hq] at dt hnx
        have htl : t.toNat < D.length := by omega
        have z1 := hrw.1.frozen t.toNat
        have HNX := Lib.hid hnx
        have i0 : (0 : Int) ≤ (j : Int) := by omega
        have i1 : (j : Int) < (n : Int) := by omega
        have t0 : (0 : Int) ≤ t := by omega
        have t1 : t < (M : Int) := by omega
        have b1A := fun (o : Obj) => cell_in ((Past.refl wr).alloc o) b1
        have a1A := fun (o : Obj) => cell_in ((Past.refl wr).alloc o) a1
        obtain ⟨W2, hW2⟩ : ∃ W2, W2 = wr.alloc (.cells #[.int .i64 x0, .int .i64 x1] 88) := ⟨_, rfl⟩
        have hrow2 : RowI W2.drew (W.heap.size + 1) D := by rw [hW2]; exact hrw.alloc _
        have dt2 : W2.cell? ⟨W.heap.size + 1, t.toNat, none⟩ = some (.int .i64 q) := by rw [hW2]; exact cell_in ((Past.refl wr).alloc _) dt
        have x2 : W2.cell? ⟨wr.heap.size, 0, none⟩ = some (.int .i64 x0) := by rw [hW2]; go_simp
        have z2 : W2.frozen? ⟨W.heap.size + 1, t.toNat, none⟩ = false := hrow2.1.frozen t.toNat
        have hset2 := hrow2.set t.toNat (min q x0) htl
        have hg2 : w7.grownBy (W2.drew.setCell ⟨W.heap.size + 1, t.toNat, none⟩ (.int .i64 (min q x0))) (some (W.heap.size + 1)) := by rw [hW2]; exact grown_set (grown_trans hg (grown_of_below (((Past.refl wr).alloc _).drew) _)) _ _
        have HSET := Lib.hid hset2
        have HG2 := Lib.hid hg2
        have HW2 := Lib.hid hW2
        clear ha hL hnx hat hD hq a0 a2 a3 a4 hb hset2 hg2 hrow2 hW2 dt z1
        go_wp2_with fail
        rw [← HW2.out]
        clear b1A a1A
        go_still_tail 10, (by kernel_rfl)
        change wpList _ _ _ _ _ W2.drew
        go_wp2
        go_roundw
        case rel => exact ⟨j + 1, by omega, by go_num, by rw [HNX.out]; exact HSET.out, HG2.out⟩
        case measure => simp [intOf]; omega
      · obtain rfl : j = n := by omega
        have hml : (minTo xs ds (List.replicate M 99999) j).length = M := by rw [minTo_length, List.length_replicate]
        have dt := hrw.at_ (v := s) (by omega) (by omega)
        have z1 := hrw.1.frozen s.toNat
        have t0 : (0 : Int) ≤ s := by omega
        have t1 : s < (M : Int) := by omega
        have hset := hrw.set s.toNat 0 (by omega)
        rw [HFIN.out] at hset
        have HSET := Lib.hid hset
        have hfin2 : Past w (wr.setCell ⟨W.heap.size + 1, s.toNat, none⟩ (.int .i64 0)) := Below.grown hpw7 (grown_set hg _ _) hpw7.size (fun r e => by injection e with e; omega)
        have hdd : (wr.setCell ⟨W.heap.size + 1, s.toNat, none⟩ (.int .i64 0)).heap[Dd]? = some (.deferred (some [])) := ((grown_set hg s.toNat (.int .i64 0)).block Dd (Array.getElem?_eq_some_iff.1 hdd7).1 (by intro e; injection e; omega)).trans hdd7
        clear hset
        go_wp2
        refine leaves_marks [Dd] _ (by simp) (fun r hr => by simp at hr; subst hr; exact hdd) (fun W' hc => ⟨.slice (some ⟨W.heap.size + 1, 0, none⟩) M M, by simp [results, Try.results20, go_sem], ⟨_, rfl, ?_, hfin2.belowTrans (hc.below hfin2.size (fun x hx hr => by simp at hr; omega))⟩⟩)
        have h1 := HSET.out.res (n := M) (lo := w.heap.size) (tallL_length M xs ts s) (by omega) (by omega)
        rw [tallI, HF.out, if_pos rfl, Int.toNat_natCast]
        exact hc.own h1 (fun x e hx => by
          simp at hx
          subst hx
          obtain ⟨cs, hcs⟩ := cells_of_own h1 e
          rw [hcs] at hdd
          cases hdd)
  case stop =>
    rintro D c pre W _ _ h _
    exact h.elim

theorem implTurnAll_any (m : Int) (A : Option Addr) (n c : Nat) (xs : List ArcD) (B : Option Addr) (l cb : Nat) (ts : List TurnD) (s : Int) (w : World) (hn : n ≤ 1048576) (hnx : xs.length = n) (hx : ArcsAt w A xs) (hl : l ≤ 1048576) (hlt : ts.length = l) (ht : TurnsAt w B ts) :
    Calls Try.prog 20 #[.agg #[.int .i64 m, .slice A n c], .slice B l cb, .int .i64 s] w (Gives w (tallI m xs ts s)) :=
  (callsIn_wide (n := 4)).1 (tall_in m A n c xs B l cb ts s w hn hnx hx hl hlt ht)

end Go.Proofs.Ytaojognjkiifmaa

namespace Go.Proofs.Ytaojognjkiifmaa
open Go.RowKit

set_option maxHeartbeats 400000 in
theorem eqIntS_same (A B : Option Addr) (n c c' : Nat) (xs : List Int) (w : World) (hn : n ≤ 1048576) (hl : xs.length = n) (hx : IntsAt w A xs) (hy : IntsAt w B xs) :
    Calls Try.prog 21 #[.slice A n c, .slice B n c'] w fun e w' => e = .returned (.bool true) ∧ Below w.heap.size w w' := by
  go_enter Try.func21, Try.ntmps21
  go_wp2
  go_loopw [5] (fun i wr => ∃ k : Nat, k ≤ n ∧ i = .int .i64 k ∧ Below w.heap.size w wr) (fun i _ => n - (intOf i).toNat)
  case atStart => exact ⟨0, by omega, rfl, Below.refl _ _⟩
  case round =>
    obtain ⟨k, hk, rfl, hb⟩ := hrel
    by_cases hlt : k < n
    · obtain ⟨x, ha⟩ : ∃ a, xs[k]? = some a := ⟨_, List.getElem?_eq_getElem (by omega)⟩
      obtain ⟨g, o, rfl, c0⟩ := (hx.below hb) k _ ha
      obtain ⟨g', o', rfl, d0⟩ := (hy.below hb) k _ ha
      have hi : (k : Int) < (n : Int) := by omega
      have h0 : (0 : Int) ≤ (k : Int) := by omega
      clear ha hl
      go_wp2_with fail
      go_quiet (fail)
      go_wp2
      go_roundw
      case rel => exact ⟨k + 1, by omega, by go_num, by first | exact hb.drewN _ | exact ⟨hb.os, hb.tape, hb.output, hb.size, hb.block⟩⟩
      case measure => simp [intOf]; omega
    · go_wp2
      go_ret
      exact ⟨rfl, hb⟩


end Go.Proofs.Ytaojognjkiifmaa

namespace Go.Proofs.Ytaojognjkiifmaa
open Go.RowKit

set_option maxRecDepth 100000 in
set_option maxHeartbeats 400000 in
theorem eqArcS_same (A B : Option Addr) (n c c' : Nat) (xs : List ArcD) (w : World) (hn : n ≤ 1048576) (hl : xs.length = n) (hx : ArcsAt w A xs) (hy : ArcsAt w B xs) :
    Calls Try.prog 67 #[.slice A n c, .slice B n c'] w fun e w' => e = .returned (.bool true) ∧ Below w.heap.size w w' := by
  go_enter Try.func67, Try.ntmps67
  go_wp2
  go_loopw [5] (fun i wr => ∃ k : Nat, k ≤ n ∧ i = .int .i64 k ∧ Below w.heap.size w wr) (fun i _ => n - (intOf i).toNat)
  case atStart => exact ⟨0, by omega, rfl, Below.refl _ _⟩
  case round =>
    obtain ⟨k, hk, rfl, hb⟩ := hrel
    by_cases hlt : k < n
    · obtain ⟨⟨f, t, c, l, d⟩, ha⟩ : ∃ a, xs[k]? = some a := ⟨_, List.getElem?_eq_getElem (by omega)⟩
      obtain ⟨g, o, rfl, c0, c1, c2, c3, c4⟩ := (hx.below hb) k _ ha
      obtain ⟨g', o', rfl, d0, d1, d2, d3, d4⟩ := (hy.below hb) k _ ha
      have hi : (k : Int) < (n : Int) := by omega
      have h0 : (0 : Int) ≤ (k : Int) := by omega
      clear ha hl
      go_wp2_with fail
      go_still_tail 8, (by kernel_rfl)
      change wpList _ _ _ _ _ wr.drew
      go_wp2_with fail
      refine (eqArc_same f t c l d _).mono ?_
      rintro e w1 ⟨rfl, hb1⟩
      go_wp2
      go_roundw
      case rel => exact ⟨k + 1, by omega, by go_num, hb.drew.trans (hb1.mono hb.size)⟩
      case measure => simp [intOf]; omega
    · go_wp2
      go_ret
      exact ⟨rfl, hb⟩

theorem eqNet_same (m : Int) (A B : Option Addr) (n c c' : Nat) (xs : List ArcD) (w : World) (hn : n ≤ 1048576) (hl : xs.length = n) (hx : ArcsAt w A xs) (hy : ArcsAt w B xs) :
    Calls Try.prog 22 #[.agg #[.int .i64 m, .slice A n c], .agg #[.int .i64 m, .slice B n c']] w fun e w' => e = .returned (.bool true) ∧ Below w.heap.size w w' := by
  have HL := Lib.hid hl
  clear hl
  go_enter Try.func22, Try.ntmps22
  go_wp2_with fail
  have hb0 : Below w.heap.size w ((w.alloc (.cells #[.int .i64 m, .slice A n c] 32)).alloc (.cells #[.int .i64 m, .slice B n c'] 32)) := ((Below.refl _ _).alloc (Nat.le_refl _) _).alloc (by simp) _
  refine (eqArcS_same A B n c c' xs _ hn HL.out (hx.below hb0) (hy.below hb0)).mono ?_
  rintro e w1 ⟨rfl, hb1⟩
  go_wp2
  go_ret
  exact ⟨rfl, bel_trans hb0 hb1⟩

end Go.Proofs.Ytaojognjkiifmaa

namespace Go.Proofs.Ytaojognjkiifmaa
open Go.RowKit

/-- k, k + 1, .. -/
def markInts (k : Nat) (n : Nat) : List Int := (List.range n).map fun i => ((k + i : Nat) : Int)
theorem markInts_length (k n : Nat) : (markInts k n).length = n := by simp [markInts]
theorem markInts_at (k n i : Nat) (h : i < n) : (markInts k n)[i]? = some ((k + i : Nat) : Int) := by simp [markInts, h]
theorem markIntS_any (A : Option Addr) (n c k lo t : Nat) (w : World) (hn : n ≤ 1048576) (ki : Int) (hki : ki = (k : Int)) (hk : k ≤ 100000000) (ho : OwnAt w lo A t 1 n) :
    Calls Try.prog 26 #[.slice A n c, .int .i64 ki] w (Marked w A (k + n) fun w' => IntsAt w' A (markInts k n)) := by
  subst hki
  rcases ho with ⟨rfl, rfl⟩ | ⟨g, sz, rfl, hlo, hr, hs⟩
  · go_enter Try.func26, Try.ntmps26
    go_wp2
    go_loop [5, 1] (fun i q => i = .int .i64 0 ∧ q = .int .i64 k) (fun _ _ => 0)
    case atStart => exact ⟨rfl, rfl⟩
    case round =>
      obtain ⟨rfl, rfl⟩ := hrel
      go_wp2
      go_ret
      exact ⟨ret_int (by simp), grown_refl _ _, fun i x h => by simp [markInts] at h⟩
  · go_enter Try.func26, Try.ntmps26
    go_wp2
    go_loopw [5, 1] (fun i q wr => ∃ j : Nat, j ≤ n ∧ i = .int .i64 j ∧ q = .int .i64 ((k : Int) + (j : Int)) ∧ w.grownBy wr (some g) ∧ MadeI wr g t sz (markInts k n) j) (fun i _ _ => n - (intOf i).toNat)
    case atStart => exact ⟨0, by omega, rfl, by simp, grown_refl _ _, hr, fun j x h => absurd h (by omega)⟩
    case round =>
      obtain ⟨j, hj, rfl, rfl, hb, hm⟩ := hrel
      by_cases hlt : j < n
      · have HM := Lib.hid (markInts_at k n j hlt)
        obtain ⟨v0, e0⟩ := hm.1.cell (i := j) (by omega)
        have z0 := hm.1.frozen j
        have hjs : j < sz := by omega
        go_wp2
        go_roundw
        case rel => exact ⟨j + 1, by omega, by go_num, by go_num, grown_set hb _ _, by have := hm.next HM.out hjs; simpa using this⟩
        case measure => simp [intOf]; omega
      · obtain rfl : n = j := by omega
        go_wp2
        go_ret
        exact ⟨rfl, hb, fun i x h => ⟨g, 0, rfl, by
          have hi : i < n := by have := (List.getElem?_eq_some_iff.1 h).1; simpa [markInts_length] using this
          rw [Nat.zero_add]; exact hm.2 i x hi h⟩⟩

theorem heldIntS_any (A : Option Addr) (n c k : Nat) (w : World) (hn : n ≤ 1048576) (ki : Int) (hki : ki = (k : Int)) (hk : k ≤ 100000000) (hx : IntsAt w A (markInts k n)) :
    Calls Try.prog 27 #[.slice A n c, .int .i64 ki] w fun e w' => e = .returned (.int .i64 (k + n)) ∧ w = w' := by
  subst hki
  go_enter Try.func27, Try.ntmps27
  go_wp2
  go_loop [5, 1] (fun i q => ∃ j : Nat, j ≤ n ∧ i = .int .i64 j ∧ q = .int .i64 ((k : Int) + (j : Int))) (fun i _ => n - (intOf i).toNat)
  case atStart => exact ⟨0, by omega, rfl, by simp⟩
  case round =>
    obtain ⟨j, hj, rfl, rfl⟩ := hrel
    by_cases hlt : j < n
    · obtain ⟨g, o, rfl, c0⟩ := hx j _ (markInts_at k n j hlt)
      have hne : ((((k + j : Nat) : Int)) != (k : Int) + (j : Int)) = false := by simp
      go_wp2
      go_round
      case rel => exact ⟨j + 1, by omega, by go_num, by go_num⟩
      case measure => simp [intOf]; omega
    · obtain rfl : n = j := by omega
      go_wp2
      go_ret
      exact ⟨rfl, rfl⟩

/-- What lies in elder blocks than the one that is written. -/
theorem IntsAt.old {wE w w' : World} {A : Option Addr} {xs : List Int} {g : Nat} (hE : IntsAt wE A xs) (h : IntsAt w A xs) (hg : w.grownBy w' (some g)) (hle : wE.heap.size ≤ g) : IntsAt w' A xs := fun k x hk => by
  obtain ⟨b, o, rfl, hc⟩ := hE k x hk
  obtain ⟨b', o', e, hc'⟩ := h k x hk
  have hb : b < wE.heap.size := lt_of_cell hc
  injection e with e
  injection e with e1 e2
  subst e1 e2
  exact ⟨b, o, rfl, hg.cell hc' (by simp only [ne_eq, Option.some.injEq]; omega)⟩
/-- What lies in younger blocks. -/
theorem IntsAt.young {w w' : World} {A : Option Addr} {xs : List Int} {g lo t : Nat} (ho : OwnAt w lo A t 1 xs.length) (h : IntsAt w A xs) (hg : w.grownBy w' (some g)) (hlt : g < lo) : IntsAt w' A xs := fun k x hk => by
  obtain ⟨b', o', rfl, hc'⟩ := h k x hk
  rcases ho with ⟨h0, _⟩ | ⟨b, sz, e, hl, _, _⟩
  · cases h0
  · injection e with e
    injection e with e1 e2
    subst e1
    exact ⟨b', o', rfl, hg.cell hc' (by simp only [ne_eq, Option.some.injEq]; omega)⟩
theorem IntsAt.under {wE w w' : World} {A : Option Addr} {xs : List Int} {lo : Nat} (hE : IntsAt wE A xs) (h : IntsAt w A xs) (hb : Below lo w w') (hle : wE.heap.size ≤ lo) : IntsAt w' A xs := fun k x hk => by
  obtain ⟨b, o, rfl, hc⟩ := hE k x hk
  obtain ⟨b', o', e, hc'⟩ := h k x hk
  have hb' : b < wE.heap.size := lt_of_cell hc
  injection e with e
  injection e with e1 e2
  subst e1 e2
  exact ⟨b, o, rfl, (hb.cell (p := ⟨b, o + k, none⟩) (by simp only; omega)).trans hc'⟩

end Go.Proofs.Ytaojognjkiifmaa

namespace Go.Proofs.Ytaojognjkiifmaa
open Go.RowKit

def markArcs (k : Nat) (n : Nat) : List ArcD := (List.range n).map fun i => ⟨((k + 5 * i : Nat) : Int), ((k + 5 * i + 1 : Nat) : Int), ((k + 5 * i + 2 : Nat) : Int), ((k + 5 * i + 3 : Nat) : Int), ((k + 5 * i + 4 : Nat) : Int)⟩
theorem markArcs_length (k n : Nat) : (markArcs k n).length = n := by simp [markArcs]
theorem markArcs_at (k n i : Nat) (h : i < n) : (markArcs k n)[i]? = some ⟨((k + 5 * i : Nat) : Int), ((k + 5 * i + 1 : Nat) : Int), ((k + 5 * i + 2 : Nat) : Int), ((k + 5 * i + 3 : Nat) : Int), ((k + 5 * i + 4 : Nat) : Int)⟩ := by simp [markArcs, h]

/-- Made, with room to spare. -/
theorem Made.nextMark {w : World} {g t n sz k j : Nat} (h : RowN w g t sz ∧ ∀ i a, i < j → (markArcs k n)[i]? = some a → Arc5 w g (i * 5) a) (hj : j < n) (hs : n * 5 ≤ sz) :
    let w' := (((((w.setCell ⟨g, j * 5, none⟩ (.int .i64 ((k + 5 * j : Nat) : Int))).setCell ⟨g, j * 5 + 1, none⟩ (.int .i64 ((k + 5 * j + 1 : Nat) : Int))).setCell ⟨g, j * 5 + 2, none⟩ (.int .i64 ((k + 5 * j + 2 : Nat) : Int))).setCell ⟨g, j * 5 + 3, none⟩ (.int .i64 ((k + 5 * j + 3 : Nat) : Int))).setCell ⟨g, j * 5 + 4, none⟩ (.int .i64 ((k + 5 * j + 4 : Nat) : Int)))
    RowN w' g t sz ∧ ∀ i a, i < j + 1 → (markArcs k n)[i]? = some a → Arc5 w' g (i * 5) a := by
  intro w'
  refine ⟨((((h.1.set _ _).set _ _).set _ _).set _ _).set _ _, fun i a hi hia => ?_⟩
  rcases Nat.lt_or_ge i j with hlt | hge
  · exact (((((h.2 i a hlt hia).set _ _ (by omega)).set _ _ (by omega)).set _ _ (by omega)).set _ _ (by omega)).set _ _ (by omega)
  · obtain rfl : i = j := by omega
    rw [markArcs_at k n i hj] at hia
    injection hia with hia
    subst hia
    exact Arc5.put h.1 (by omega) _ _ _ _ _

/-- The row and the marks so far. -/
def MarkedTo (w : World) (g t sz k n j : Nat) : Prop := RowN w g t sz ∧ ∀ i a, i < j → (markArcs k n)[i]? = some a → Arc5 w g (i * 5) a

set_option maxHeartbeats 1000000 in
theorem markArcS_any (A : Option Addr) (n c k lo t : Nat) (w : World) (hn : n ≤ 1048576) (ki : Int) (hki : ki = (k : Int)) (hk : k ≤ 100000000) (ho : OwnAt w lo A t 5 n) :
    Calls Try.prog 69 #[.slice A n c, .int .i64 ki] w (Marked w A (k + 5 * n) fun w' => ArcsAt w' A (markArcs k n)) := by
  subst hki
  rcases ho with ⟨rfl, rfl⟩ | ⟨g, sz, rfl, hlo, hr, hs⟩
  · go_enter Try.func69, Try.ntmps69
    go_wp2
    go_loop [5, 1] (fun i q => i = .int .i64 0 ∧ q = .int .i64 k) (fun _ _ => 0)
    case atStart => exact ⟨rfl, rfl⟩
    case round =>
      obtain ⟨rfl, rfl⟩ := hrel
      go_wp2
      go_ret
      exact ⟨ret_int (by simp), grown_refl _ _, fun i x h => by simp [markArcs] at h⟩
  · go_enter Try.func69, Try.ntmps69
    go_wp2
    go_loopw [5, 1] (fun i q wr => ∃ j : Nat, j ≤ n ∧ i = .int .i64 j ∧ q = .int .i64 ((k : Int) + 5 * (j : Int)) ∧ w.grownBy wr (some g) ∧ MarkedTo wr g t sz k n j) (fun i _ _ => n - (intOf i).toNat)
    case atStart => exact ⟨0, by omega, rfl, by simp, grown_refl _ _, hr, fun j x h => absurd h (by omega)⟩
    case round =>
      obtain ⟨j, hj, rfl, rfl, hb, hm⟩ := hrel
      by_cases hlt : j < n
      · obtain ⟨v0, e0⟩ := hm.1.cell (i := j * 5) (by omega)
        obtain ⟨v1, e1⟩ := hm.1.cell (i := j * 5 + 1) (by omega)
        obtain ⟨v2, e2⟩ := hm.1.cell (i := j * 5 + 2) (by omega)
        obtain ⟨v3, e3⟩ := hm.1.cell (i := j * 5 + 3) (by omega)
        obtain ⟨v4, e4⟩ := hm.1.cell (i := j * 5 + 4) (by omega)
        have z0 := hm.1.frozen (j * 5)
        have z1 := hm.1.frozen (j * 5 + 1)
        have z2 := hm.1.frozen (j * 5 + 2)
        have z3 := hm.1.frozen (j * 5 + 3)
        have z4 := hm.1.frozen (j * 5 + 4)
        have hm2 : MarkedTo (((((wr.setCell ⟨g, j * 5, none⟩ (.int .i64 ((k : Int) + 5 * (j : Int)))).setCell ⟨g, j * 5 + 1, none⟩ (.int .i64 ((k : Int) + 5 * (j : Int) + 1))).setCell ⟨g, j * 5 + 2, none⟩ (.int .i64 ((k : Int) + 5 * (j : Int) + 1 + 1))).setCell ⟨g, j * 5 + 3, none⟩ (.int .i64 ((k : Int) + 5 * (j : Int) + 1 + 1 + 1))).setCell ⟨g, j * 5 + 4, none⟩ (.int .i64 ((k : Int) + 5 * (j : Int) + 1 + 1 + 1 + 1))) g t sz k n (j + 1) := by
          have h := Made.nextMark hm hlt hs
          have q0 : ((k + 5 * j : Nat) : Int) = (k : Int) + 5 * (j : Int) := by omega
          have q1 : ((k + 5 * j + 1 : Nat) : Int) = (k : Int) + 5 * (j : Int) + 1 := by omega
          have q2 : ((k + 5 * j + 2 : Nat) : Int) = (k : Int) + 5 * (j : Int) + 1 + 1 := by omega
          have q3 : ((k + 5 * j + 3 : Nat) : Int) = (k : Int) + 5 * (j : Int) + 1 + 1 + 1 := by omega
          have q4 : ((k + 5 * j + 4 : Nat) : Int) = (k : Int) + 5 * (j : Int) + 1 + 1 + 1 + 1 := by omega
          rw [q0, q1, q2, q3, q4] at h
          exact h
        go_wp2
        go_roundw
        case rel => exact ⟨j + 1, by omega, by go_num, by go_num, grown_set (grown_set (grown_set (grown_set (grown_set hb _ _) _ _) _ _) _ _) _ _, hm2⟩
        case measure => simp [intOf]; omega
      · obtain rfl : n = j := by omega
        go_wp2
        go_ret
        exact ⟨rfl, hb, fun i x h => ⟨g, 0, rfl, by
          have hi : i < n := by have := (List.getElem?_eq_some_iff.1 h).1; simpa [markArcs_length] using this
          rw [Nat.zero_add]; exact hm.2 i x hi h⟩⟩

theorem markNet_any (m : Int) (A : Option Addr) (n c k lo t : Nat) (w : World) (hn : n ≤ 1048576) (ki : Int) (hki : ki = (k : Int)) (hk : k ≤ 100000000) (ho : OwnAt w lo A t 5 n) :
    Calls Try.prog 24 #[.agg #[.int .i64 m, .slice A n c], .int .i64 ki] w (Marked w A (k + 5 * n) fun w' => ArcsAt w' A (markArcs k n)) := by
  subst hki
  go_enter Try.func24, Try.ntmps24
  go_wp2_with fail
  have hb0 : Below w.heap.size w (w.alloc (.cells #[.int .i64 m, .slice A n c] 32)) := (Below.refl _ _).alloc (Nat.le_refl _) _
  refine (markArcS_any A n c k lo t _ hn _ rfl hk (ho.keep (grown_of_below hb0 none) (by simp))).mono ?_
  rintro e w1 ⟨rfl, hb1, hx⟩
  go_wp2
  go_ret
  exact ⟨rfl, grown_trans (grown_of_below hb0 _) hb1, hx⟩

theorem ArcsAt.old {wE w w' : World} {A : Option Addr} {xs : List ArcD} {g : Nat} (hE : ArcsAt wE A xs) (h : ArcsAt w A xs) (hg : w.grownBy w' (some g)) (hle : wE.heap.size ≤ g) : ArcsAt w' A xs := fun k x hk => by
  obtain ⟨b, o, rfl, hc⟩ := hE k x hk
  obtain ⟨b', o', e, hc'⟩ := h k x hk
  have hb := hc.lt
  injection e with e
  injection e with e1 e2
  subst e1 e2
  exact ⟨b, o, rfl, hc'.keep (hg.block b hc'.lt (by simp only [ne_eq, Option.some.injEq]; omega))⟩
theorem ArcsAt.young {w w' : World} {A : Option Addr} {xs : List ArcD} {g lo t : Nat} (ho : OwnAt w lo A t 5 xs.length) (h : ArcsAt w A xs) (hg : w.grownBy w' (some g)) (hlt : g < lo) : ArcsAt w' A xs := fun k x hk => by
  obtain ⟨b', o', rfl, hc'⟩ := h k x hk
  rcases ho with ⟨h0, _⟩ | ⟨b, sz, e, hl, _, _⟩
  · cases h0
  · injection e with e
    injection e with e1 e2
    subst e1
    exact ⟨b', o', rfl, hc'.keep (hg.block b' hc'.lt (by simp only [ne_eq, Option.some.injEq]; omega))⟩
theorem ArcsAt.under {wE w w' : World} {A : Option Addr} {xs : List ArcD} {lo : Nat} (hE : ArcsAt wE A xs) (h : ArcsAt w A xs) (hb : Below lo w w') (hle : wE.heap.size ≤ lo) : ArcsAt w' A xs := fun k x hk => by
  obtain ⟨b, o, rfl, hc⟩ := hE k x hk
  obtain ⟨b', o', e, hc'⟩ := h k x hk
  have hb' := hc.lt
  injection e with e
  injection e with e1 e2
  subst e1 e2
  exact ⟨b, o, rfl, hc'.keep (hb.block b (by omega))⟩

end Go.Proofs.Ytaojognjkiifmaa

namespace Go.Proofs.Ytaojognjkiifmaa
open Go.ChangeShapes Go.WideShapes Go.ChangeAt Go.RowKit Go.Deep Go.Joins

set_option maxRecDepth 100000 in
/-- Every number that a slice of numbers leads to. -/
theorem open_nums {H : Type} {enc : TypeId × Value → H} {W : World} {fuel : Nat} {v : Value} {x : DataW H × List MemPlace} (h : DataW.trod enc Try.prog W 0 (fun _ => true) true fuel 28 [v] = some x) :
    ∃ (A : Option Addr) (n c : Nat) (xs : List Int), v = .slice A n c ∧ xs.length = n ∧ n ≤ maxLen ∧ IntsAt W A xs := by
  rcases open_ints Try.underlying28 Try.underlying3 (by kernel_rfl) h with ⟨hcs, _⟩ | ⟨a, len, cap, zs, hcs, _, hl, hm, hz, _, hcell, _⟩
  · injection hcs with hcs
    exact ⟨none, 0, 0, [], hcs, rfl, Nat.zero_le _, fun k a hk => by simp at hk⟩
  · injection hcs with hcs
    simp only [if_true] at hz
    refine ⟨some a, len, cap, zs.take len, hcs, by simp; omega, by omega, fun k b hk => ?_⟩
    have hlt : k < len := by
      have := (List.getElem?_eq_some_iff.1 hk).1
      simp at this
      omega
    have hc := hcell k (by omega)
    obtain ⟨g, o, rfl⟩ := spotless (hcell 0 (by omega))
    rw [addr_add] at hc
    rw [List.getElem?_take_of_lt hlt] at hk
    rw [List.getD_eq_getElem?_getD, hk] at hc
    exact ⟨g, o, rfl, hc⟩

set_option maxRecDepth 100000 in
/-- A slice of numbers that comes in. -/
theorem open_list {H : Type} {enc : TypeId × Value → H} {W : World} {r : Reach} {b0 : Nat} {v : Value} {d : DataW H} {p : List MemPlace} (hv : Value.okWide Try.prog W r b0 28 v)
    (h : DataW.Trod enc Try.prog W 0 (fun _ => true) true 28 v d p) : ∃ (A : Option Addr) (n c : Nat) (xs : List Int), v = .slice A n c ∧ xs.length = n ∧ n ≤ maxLen ∧ IntsAt W A xs := by
  obtain ⟨a0, len, cap, rfl⟩ := okWide_slice Try.underlying28 hv
  obtain ⟨fuel, hf⟩ := h
  exact open_nums (by simpa [Value.cells] using hf)

end Go.Proofs.Ytaojognjkiifmaa

namespace Go.Proofs.Ytaojognjkiifmaa
open Go.ChangeShapes Go.WideShapes Go.ChangeAt Go.RowKit Go.Deep Go.Joins

set_option maxRecDepth 100000 in
/-- Every arc that a slice of arcs leads to. -/
theorem open_arcs {H : Type} {enc : TypeId × Value → H} {W : World} {fuel : Nat} {v : Value} {x : DataW H × List MemPlace} (h : DataW.trod enc Try.prog W 0 (fun _ => true) true fuel 22 [v] = some x) :
    ∃ (A : Option Addr) (n c : Nat) (xs : List ArcD), v = .slice A n c ∧ xs.length = n ∧ n ≤ maxLen ∧ ArcsAt W A xs := by
  rcases open_slice Try.underlying22 h with ⟨hcs, _⟩ | ⟨a, len, cap, m, n, D, Pl, hcs, _, hl, hm, hmm, _, hi⟩
  · injection hcs with hcs
    exact ⟨none, 0, 0, [], hcs, rfl, Nat.zero_le _, fun k a hk => by simp at hk⟩
  · injection hcs with hcs
    simp only [if_true] at hmm
    subst hmm
    have hC : Try.prog.cellsOf 114 = 5 := by kernel_rfl
    have hI : Try.prog.cellsOf 3 = 1 := by kernel_rfl
    have spot : 0 < len → ∃ g o, a = ⟨g, o, none⟩ := fun h0 => by
      obtain ⟨cs', hc, _⟩ := hi 0 (by omega)
      rw [hC] at hc
      obtain ⟨_, hcl, hat⟩ := World.cells?_some hc
      have := hat 0 (by omega)
      rw [add_add, List.getElem?_eq_getElem (by omega)] at this
      exact spotless this
    have key : ∀ i, i < len → ∃ b : ArcD, ∃ g o, a = ⟨g, o, none⟩ ∧ Arc5 W g (o + i * 5) b := fun i hlt => by
      obtain ⟨cs', hc, ht⟩ := hi i (by omega)
      rw [hC] at hc
      obtain ⟨_, hcl, hat⟩ := World.cells?_some hc
      obtain ⟨ys, n', _, _, _, _, hf⟩ := DataW.trod_struct Try.underlying114 ht
      match cs', hcl with
      | [v0, v1, v2, v3, v4], _ =>
        have h5 : ys.length = 5 := by assumption
        match ys, h5 with
        | [y0, y1, y2, y3, y4], _ =>
          have f0 : DataW.trod enc Try.prog W 0 (fun _ => true) true n' 3 (([v0, v1, v2, v3, v4].drop 0).take (Try.prog.cellsOf 3)) = some y0 := hf 0 _ rfl
          have f1 : DataW.trod enc Try.prog W 0 (fun _ => true) true n' 3 (([v0, v1, v2, v3, v4].drop 1).take (Try.prog.cellsOf 3)) = some y1 := hf 1 _ rfl
          have f2 : DataW.trod enc Try.prog W 0 (fun _ => true) true n' 3 (([v0, v1, v2, v3, v4].drop 2).take (Try.prog.cellsOf 3)) = some y2 := hf 2 _ rfl
          have f3 : DataW.trod enc Try.prog W 0 (fun _ => true) true n' 3 (([v0, v1, v2, v3, v4].drop 3).take (Try.prog.cellsOf 3)) = some y3 := hf 3 _ rfl
          have f4 : DataW.trod enc Try.prog W 0 (fun _ => true) true n' 3 (([v0, v1, v2, v3, v4].drop 4).take (Try.prog.cellsOf 3)) = some y4 := hf 4 _ rfl
          rw [hI] at f0 f1 f2 f3 f4
          obtain ⟨z0, e0, _⟩ := DataW.trod_int Try.underlying3 f0
          obtain ⟨z1, e1, _⟩ := DataW.trod_int Try.underlying3 f1
          obtain ⟨z2, e2, _⟩ := DataW.trod_int Try.underlying3 f2
          obtain ⟨z3, e3, _⟩ := DataW.trod_int Try.underlying3 f3
          obtain ⟨z4, e4, _⟩ := DataW.trod_int Try.underlying3 f4
          simp at e0 e1 e2 e3 e4
          subst e0 e1 e2 e3 e4
          have c0 := hat 0 (by omega)
          have c1 := hat 1 (by omega)
          have c2 := hat 2 (by omega)
          have c3 := hat 3 (by omega)
          have c4 := hat 4 (by omega)
          rw [add_add] at c0 c1 c2 c3 c4
          obtain ⟨g, o, rfl⟩ := spot (by omega)
          simp only [addr_add] at c0 c1 c2 c3 c4
          exact ⟨⟨z0, z1, z2, z3, z4⟩, g, o, rfl, by simpa using c0, by simpa [Nat.add_assoc] using c1, by simpa [Nat.add_assoc] using c2, by simpa [Nat.add_assoc] using c3, by simpa [Nat.add_assoc] using c4⟩
    obtain ⟨F, hF⟩ := choose_lt (α := ArcD) (p := fun i b => ∃ g o, a = ⟨g, o, none⟩ ∧ Arc5 W g (o + i * 5) b) (fun i hlt => by
      obtain ⟨b, h⟩ := key i hlt
      exact ⟨b, h⟩)
    refine ⟨some a, len, _, (List.range len).map F, hcs, by simp, by omega, fun k b hk => ?_⟩
    have hlt : k < len := by simpa using (List.getElem?_eq_some_iff.1 hk).1
    simp [hlt] at hk
    subst hk
    obtain ⟨g, o, ha, h5⟩ := hF k hlt
    exact ⟨g, o, by rw [ha], h5⟩

set_option maxRecDepth 100000 in
/-- A net that comes in. -/
theorem open_net {H : Type} {enc : TypeId × Value → H} {W : World} {r : Reach} {b0 : Nat} {v : Value} {d : DataW H} {p : List MemPlace} (hv : Value.okWide Try.prog W r b0 24 v)
    (h : DataW.Trod enc Try.prog W 0 (fun _ => true) true 24 v d p) :
    ∃ (m : Int) (A : Option Addr) (n c : Nat) (xs : List ArcD), v = .agg #[.int .i64 m, .slice A n c] ∧ xs.length = n ∧ n ≤ maxLen ∧ ArcsAt W A xs ∧ (Lit.int .i64 m).wf = true := by
  obtain ⟨v0, v1, y0, y1, k, rfl, _, _, h0, h1⟩ := open_agg2 Try.underlying24 (by kernel_rfl) (by kernel_rfl) hv h
  obtain ⟨m, e0, _, hm⟩ := DataW.trod_int Try.underlying3 h0
  injection e0 with e0
  subst e0
  obtain ⟨A, n, c, xs, rfl, hl, hn, hx⟩ := open_arcs h1
  exact ⟨m, A, n, c, xs, rfl, hl, hn, hx, hm⟩

end Go.Proofs.Ytaojognjkiifmaa

namespace Go.Proofs.Ytaojognjkiifmaa
open Go.ChangeShapes Go.WideShapes Go.ChangeAt Go.RowKit

set_option maxRecDepth 100000 in
set_option maxHeartbeats 2000000 in
theorem exactTurnAll_walk (m0 : Int) (A0 : Option Addr) (n0 c0 : Nat) (xs0 : List ArcD) (A1 : Option Addr) (n1 c1 : Nat) (xs1 : List TurnD) (z2 : Int) (w : World) (hn0 : n0 ≤ maxLen) (hl0 : xs0.length = n0) (hx0 : ArcsAt w A0 xs0) (hn1 : n1 ≤ maxLen) (hl1 : xs1.length = n1) (hx1 : TurnsAt w A1 xs1) :
    Calls Try.prog 3 #[.agg #[.int .i64 m0, .slice A0 n0 c0], .slice A1 n1 c1, .int .i64 z2] w fun e w' => e = .returned (.bool true) ∧ Below w.heap.size w w' := by
  have HX0 := Lib.hid hl0
  have HX1 := Lib.hid hl1
  clear hl0 hl1
  have hP : Past w (w.alloc (.cells #[.int .i64 m0, .slice A0 n0 c0] 24)) := ((Past.refl w).alloc _)
  go_enter Try.func3, Try.ntmps3
  go_wp2_with fail
  refine (szNet_any m0 A0 n0 c0 (1048576) _ (by omega) (by omega) hn0).mono ?_
  rintro e w1 ⟨rfl, hb⟩
  have a0_0 := cell_in (p := ⟨w.heap.size, 0, none⟩) (v := .int .i64 m0) hb (by go_simp)
  have a0_1 := cell_in (p := ⟨w.heap.size, 1, none⟩) (v := .slice A0 n0 c0) hb (by go_simp)
  have hx0 := (hx0.below hP).below hb
  have hx1 := (hx1.below hP).below hb
  have hP := Past.trans hP hb
  clear hb
  by_cases h20s_0 : (n0 : Int) ≤ 1048576
  rotate_left
  · have hr : roomLeft (1048576) n0 = -1 := by unfold roomLeft; rw [if_pos (by omega)]
    rw [hr]
    go_wp2
    go_ret
    exact ⟨rfl, hP⟩
  have hr : roomLeft (1048576) n0 = 1048576 - n0 := by unfold roomLeft; rw [if_neg (by omega)]
  rw [hr]
  clear hr
  have h20_0 : n0 ≤ 1048576 := by omega
  go_wp2_with fail
  refine (szTurnS_any A1 n1 c1 (1048576 - n0) _ (by omega) (by omega) hn1).mono ?_
  rintro e w_ ⟨rfl, rfl⟩
  by_cases h20s_1 : (n1 : Int) ≤ 1048576 - n0
  rotate_left
  · have hr : roomLeft (1048576 - n0) n1 = -1 := by unfold roomLeft; rw [if_pos (by omega)]
    rw [hr]
    go_wp2
    go_ret
    exact ⟨rfl, hP⟩
  have hr : roomLeft (1048576 - n0) n1 = 1048576 - n0 - n1 := by unfold roomLeft; rw [if_neg (by omega)]
  rw [hr]
  clear hr
  have h20_1 : n1 ≤ 1048576 := by omega
  go_wp2_with fail
  refine (toNet_any m0 A0 n0 c0 xs0 _ h20_0 HX0.out hx0).mono ?_
  rintro e w2 ⟨sg0, rfl, hb, hg, sm0⟩
  have hx0 := hx0.below hb
  have hx1 := hx1.below hb
  have a0_0 := cell_in hb a0_0
  have a0_1 := cell_in hb a0_1
  have hP := Past.trans hP hb
  have s2 := hb.size
  clear hb hg
  go_wp2_with fail
  refine (toTurnS_any A1 n1 c1 xs1 _ h20_1 HX1.out hx1).mono ?_
  rintro e w3 ⟨sg1, rfl, hb, hg, sm1⟩
  have hx0 := hx0.below hb
  have hx1 := hx1.below hb
  have a0_0 := cell_in hb a0_0
  have a0_1 := cell_in hb a0_1
  have sm0 := sm0.below hb
  have hP := Past.trans hP hb
  have s3 := hb.size
  clear hb hg
  go_wp2_with fail
  refine (specTurnAll_any m0 _ n0 n0 xs0 _ n1 n1 xs1 z2 _ h20_0 HX0.out (sm0.arcs HX0.out) h20_1 HX1.out (sm1.at_ HX1.out)).mono ?_
  rintro e w4 ⟨v4, rfl, hv4, hb⟩
  have hzl := tallI_len m0 xs0 xs1 z2
  obtain ⟨zs, hzs⟩ : ∃ zs, zs = tallI m0 xs0 xs1 z2 := ⟨_, rfl⟩
  rw [← hzs] at hv4 hzl
  obtain ⟨N, hN⟩ : ∃ N, N = zs.length := ⟨_, rfl⟩
  obtain ⟨A4, c4, rfl, hz, ho4⟩ := hv4.form
  rw [← hN] at hzl
  have HZ := Lib.hid hzs
  have HN := Lib.hid hN
  rw [← hN]
  clear hN hzs hv4 ho4
  have hx0 := hx0.below hb
  have hx1 := hx1.below hb
  have a0_0 := cell_in hb a0_0
  have a0_1 := cell_in hb a0_1
  have sm0 := sm0.below hb
  have sm1 := sm1.below hb
  have hP := Past.trans hP hb
  have s4 := hb.size
  clear hb
  clear sm0 sm1
  have hx0E := hx0
  have hx1E := hx1
  have hzE := hz
  have sb : w.heap.size < w4.heap.size := lt_of_cell a0_0
  have sP := hP.size
  go_wp2_with fail
  refine (toNet_any m0 A0 n0 c0 xs0 _ h20_0 HX0.out hx0).mono ?_
  rintro e w5 ⟨g0, rfl, hb, hg0, hm0⟩
  have sg0 := hm0.1.lt
  have hx0 := hx0.below hb
  have hx1 := hx1.below hb
  have a0_0 := cell_in hb a0_0
  have a0_1 := cell_in hb a0_1
  have hz := hz.below hb
  have hP := Past.trans hP hb
  have s5 := hb.size
  clear hb
  have hb : Past w5 (w5.alloc (.cells #[.int .i64 m0, .slice (some ⟨g0, 0, none⟩) n0 n0] 32)) := (Past.refl _).alloc _
  obtain ⟨w6, hw6⟩ : ∃ u, u = w5.alloc (.cells #[.int .i64 m0, .slice (some ⟨g0, 0, none⟩) n0 n0] 32) := ⟨_, rfl⟩
  go_wp2_with fail
  have p0_0 : w6.cell? ⟨w5.heap.size, 0, none⟩ = some (.int .i64 m0) := by rw [hw6]; go_simp
  have p0_1 : w6.cell? ⟨w5.heap.size, 1, none⟩ = some (.slice (some ⟨g0, 0, none⟩) n0 n0) := by rw [hw6]; go_simp
  rw [← hw6] at hb ⊢
  have sx0 : w5.heap.size < w6.heap.size := lt_of_cell p0_0
  clear hw6
  have hx0 := hx0.below hb
  have hx1 := hx1.below hb
  have a0_0 := cell_in hb a0_0
  have a0_1 := cell_in hb a0_1
  have hz := hz.below hb
  have hm0 := hm0.below hb
  have hP := Past.trans hP hb
  have s6 := hb.size
  clear hb
  go_wp2_with fail
  refine (toTurnS_any A1 n1 c1 xs1 _ h20_1 HX1.out hx1).mono ?_
  rintro e w7 ⟨g1, rfl, hb, hg1, hm1⟩
  have sg1 := hm1.1.lt
  have hx0 := hx0.below hb
  have hx1 := hx1.below hb
  have a0_0 := cell_in hb a0_0
  have a0_1 := cell_in hb a0_1
  have hz := hz.below hb
  have hm0 := hm0.below hb
  have p0_0 := cell_in hb p0_0
  have p0_1 := cell_in hb p0_1
  have hP := Past.trans hP hb
  have s7 := hb.size
  clear hb
  go_wp2_with fail
  refine (implTurnAll_any m0 _ n0 n0 xs0 _ n1 n1 xs1 z2 _ h20_0 HX0.out (hm0.arcs HX0.out) h20_1 HX1.out (hm1.at_ HX1.out)).mono ?_
  rintro e w8 ⟨v7, rfl, hv7, hb⟩
  rw [← HZ.out] at hv7
  obtain ⟨A7, c7, rfl, hi, ho⟩ := hv7.form
  rw [← HN.out] at ho
  rw [← HN.out]
  clear hv7
  have hx0 := hx0.below hb
  have hx1 := hx1.below hb
  have a0_0 := cell_in hb a0_0
  have a0_1 := cell_in hb a0_1
  have hz := hz.below hb
  have hm0 := hm0.below hb
  have p0_0 := cell_in hb p0_0
  have p0_1 := cell_in hb p0_1
  have hm1 := hm1.below hb
  have hP := Past.trans hP hb
  have s8 := hb.size
  clear hb
  go_wp2_with fail
  refine (eqIntS_same A7 A4 N c7 c4 zs _ hzl HN.out.symm hi hz).mono ?_
  rintro e w9 ⟨rfl, hb⟩
  have hx0 := hx0.below hb
  have hx1 := hx1.below hb
  have a0_0 := cell_in hb a0_0
  have a0_1 := cell_in hb a0_1
  have hz := hz.below hb
  have hm0 := hm0.below hb
  have p0_0 := cell_in hb p0_0
  have p0_1 := cell_in hb p0_1
  have hm1 := hm1.below hb
  have hi := hi.below hb
  have ho := ho.below hb
  have hP := Past.trans hP hb
  have s9 := hb.size
  clear hb
  have hq := (hm0.arcs HX0.out)
  go_wp2_with fail
  go_region_held3 (fun w' => w'.cell? ⟨w.heap.size, 0, none⟩ = some (.int .i64 m0) ∧ w'.cell? ⟨w.heap.size, 1, none⟩ = some (.slice A0 n0 c0) ∧ w'.cell? ⟨w5.heap.size, 0, none⟩ = some (.int .i64 m0) ∧ w'.cell? ⟨w5.heap.size, 1, none⟩ = some (.slice (some ⟨g0, 0, none⟩) n0 n0)) (go_keep)
    (first
      | (go_at_call 18; refine (toNet_any m0 A0 n0 c0 xs0 _ h20_0 HX0.out hx0.drew).mono ?_; rintro e w10 ⟨g9, rfl, hb9, hg9, hm9⟩; have a0_0 := cell_in hb9 a0_0; have a0_1 := cell_in hb9 a0_1; have p0_0 := cell_in hb9 p0_0; have p0_1 := cell_in hb9 p0_1)
      | (go_at_call 22; refine (eqNet_same m0 _ _ n0 n0 n0 xs0 _ h20_0 HX0.out (hq.drew.below hb9) (hm9.arcs HX0.out)).mono ?_; rintro e w11 ⟨rfl, hb10⟩; have a0_0 := cell_in hb10 a0_0; have a0_1 := cell_in hb10 a0_1; have p0_0 := cell_in hb10 p0_0; have p0_1 := cell_in hb10 p0_1))
  have hb : Past w9 w11 := (Past.refl w9).drew.trans (Past.trans hb9 hb10)
  clear hb9 hb10 hq hm9 hg9
  have hx0 := hx0.below hb
  have hx1 := hx1.below hb
  have hz := hz.below hb
  have hm0 := hm0.below hb
  have hm1 := hm1.below hb
  have hi := hi.below hb
  have ho := ho.below hb
  have hP := Past.trans hP hb
  have s11 := hb.size
  clear hb
  go_wp2_with fail
  refine (toTurnS_any A1 n1 c1 xs1 _ h20_1 HX1.out hx1).mono ?_
  rintro e w12 ⟨gq, rfl, hb, hgq, hmq⟩
  have hx0 := hx0.below hb
  have hx1 := hx1.below hb
  have a0_0 := cell_in hb a0_0
  have a0_1 := cell_in hb a0_1
  have hz := hz.below hb
  have hm0 := hm0.below hb
  have p0_0 := cell_in hb p0_0
  have p0_1 := cell_in hb p0_1
  have hm1 := hm1.below hb
  have hi := hi.below hb
  have ho := ho.below hb
  have hP := Past.trans hP hb
  have s12 := hb.size
  clear hb hgq
  go_wp2_with fail
  refine (eqTurnS_same _ _ n1 n1 n1 xs1 _ h20_1 HX1.out (hm1.at_ HX1.out) (hmq.at_ HX1.out)).mono ?_
  rintro e w13 ⟨rfl, hb⟩
  have hx0 := hx0.below hb
  have hx1 := hx1.below hb
  have a0_0 := cell_in hb a0_0
  have a0_1 := cell_in hb a0_1
  have hz := hz.below hb
  have hm0 := hm0.below hb
  have p0_0 := cell_in hb p0_0
  have p0_1 := cell_in hb p0_1
  have hm1 := hm1.below hb
  have hi := hi.below hb
  have ho := ho.below hb
  have hP := Past.trans hP hb
  have s13 := hb.size
  clear hb hmq
  have hr0 := hm0.1
  have hr1 := hm1.1
  clear hm0 hm1
  go_wp2_with fail
  clear p0_0 p0_1
  refine (markNet_any m0 (some ⟨g0, 0, none⟩) n0 n0 (1) g0 52 _ h20_0 _ (by first | rfl | (push_cast; omega)) (by omega) (.inr ⟨g0, n0 * 5, rfl, Nat.le_refl _, hr0, by omega⟩ : OwnAt _ g0 (some ⟨g0, 0, none⟩) 52 5 n0)).mono ?_
  rintro e w14 ⟨rfl, hb, _⟩
  have hb' : w13.grownBy w14 (some g0) := hb
  have hP : Past w w14 := below_marked hP hb (.inr ⟨g0, n0 * 5, rfl, Nat.le_refl _, hr0, by omega⟩ : OwnAt _ g0 (some ⟨g0, 0, none⟩) 52 5 n0) (by omega)
  have hx0 := ArcsAt.old hx0E hx0 hb' (by omega)
  have hx1 := TurnsAt.old hx1E hx1 hb' (by omega)
  have a0_0 := cell_far hb' a0_0 (by simp only [ne_eq]; omega)
  have a0_1 := cell_far hb' a0_1 (by simp only [ne_eq]; omega)
  have hz := IntsAt.old hzE hz hb' (by omega)
  have hi := IntsAt.young (by rw [← HN.out]; exact ho) hi hb' (by omega)
  have ho := ho.young hb' (by omega)
  have hr1 := hr1.young hb' (by omega)
  have s14 := hb'.size
  clear hb hb' hr0
  go_wp2_with fail
  refine (markTurnS_any (some ⟨g1, 0, none⟩) n1 n1 (1 + 5 * n0) g1 54 _ h20_1 _ (by first | rfl | (push_cast; omega)) (by omega) (.inr ⟨g1, n1 * 3, rfl, Nat.le_refl _, hr1, by omega⟩ : OwnAt _ g1 (some ⟨g1, 0, none⟩) 54 3 n1)).mono ?_
  rintro e w15 ⟨rfl, hb, _⟩
  have hb' : w14.grownBy w15 (some g1) := hb
  have hP : Past w w15 := below_marked hP hb (.inr ⟨g1, n1 * 3, rfl, Nat.le_refl _, hr1, by omega⟩ : OwnAt _ g1 (some ⟨g1, 0, none⟩) 54 3 n1) (by omega)
  have hx0 := ArcsAt.old hx0E hx0 hb' (by omega)
  have hx1 := TurnsAt.old hx1E hx1 hb' (by omega)
  have a0_0 := cell_far hb' a0_0 (by simp only [ne_eq]; omega)
  have a0_1 := cell_far hb' a0_1 (by simp only [ne_eq]; omega)
  have hz := IntsAt.old hzE hz hb' (by omega)
  have hi := IntsAt.young (by rw [← HN.out]; exact ho) hi hb' (by omega)
  have ho := ho.young hb' (by omega)
  have s15 := hb'.size
  clear hb hb' hr1
  have hkn : ¬ (((1 + 5 * n0 : Nat) : Int) + 3 * (n1 : Int) < 0) := by omega
  go_wp2_with fail
  refine (eqIntS_same A7 A4 N c7 c4 zs _ hzl HN.out.symm hi hz).mono ?_
  rintro e w16 ⟨rfl, hb⟩
  have hx0 := hx0.below hb
  have hx1 := hx1.below hb
  have a0_0 := cell_in hb a0_0
  have a0_1 := cell_in hb a0_1
  have hz := hz.below hb
  have hi := hi.below hb
  have ho := ho.below hb
  have hP := Past.trans hP hb
  have s16 := hb.size
  clear hb
  go_wp2_with fail
  refine (markIntS_any A7 N c7 1 w7.heap.size 3 _ hzl _ rfl (by omega) ho).mono ?_
  rintro e w17 ⟨rfl, hb, hk⟩
  have hbl : Below w7.heap.size w16 w17 := below_own hb ho (by omega)
  have hP : Past w w17 := below_marked hP hb ho (by omega)
  clear hi ho
  have hx0 := ArcsAt.under hx0E hx0 hbl (by omega)
  have hx1 := TurnsAt.under hx1E hx1 hbl (by omega)
  have a0_0 := (hbl.cell (p := ⟨w.heap.size, 0, none⟩) (by simp only; omega)).trans a0_0
  have a0_1 := (hbl.cell (p := ⟨w.heap.size, 1, none⟩) (by simp only; omega)).trans a0_1
  have hz := IntsAt.under hzE hz hbl (by omega)
  clear hb hbl
  go_wp2_with fail
  refine (heldIntS_any A7 N c7 1 _ hzl _ rfl (by omega) hk).mono ?_
  rintro e w_ ⟨rfl, rfl⟩
  have hqn : ¬ (((1 : Nat) : Int) + (N : Int) < 0) := by omega
  go_wp2_with fail
  refine (toNet_any m0 A0 n0 c0 xs0 _ h20_0 HX0.out hx0).mono ?_
  rintro e w18 ⟨tg0, rfl, hb, hg, tm0⟩
  have hx0 := hx0.below hb
  have hx1 := hx1.below hb
  have a0_0 := cell_in hb a0_0
  have a0_1 := cell_in hb a0_1
  have hz := hz.below hb
  have hk := hk.below hb
  have hP := Past.trans hP hb
  have s18 := hb.size
  clear hb hg
  go_wp2_with fail
  refine (toTurnS_any A1 n1 c1 xs1 _ h20_1 HX1.out hx1).mono ?_
  rintro e w19 ⟨tg1, rfl, hb, hg, tm1⟩
  have hx0 := hx0.below hb
  have hx1 := hx1.below hb
  have a0_0 := cell_in hb a0_0
  have a0_1 := cell_in hb a0_1
  have hz := hz.below hb
  have hk := hk.below hb
  have tm0 := tm0.below hb
  have hP := Past.trans hP hb
  have s19 := hb.size
  clear hb hg
  go_wp2_with fail
  refine (implTurnAll_any m0 _ n0 n0 xs0 _ n1 n1 xs1 z2 _ h20_0 HX0.out (tm0.arcs HX0.out) h20_1 HX1.out (tm1.at_ HX1.out)).mono ?_
  rintro e w20 ⟨v20, rfl, hv20, hb⟩
  rw [← HZ.out] at hv20
  obtain ⟨A20, c20, rfl, hi20, ho20⟩ := hv20.form
  rw [← HN.out]
  clear hv20 ho20
  have hx0 := hx0.below hb
  have hx1 := hx1.below hb
  have a0_0 := cell_in hb a0_0
  have a0_1 := cell_in hb a0_1
  have hz := hz.below hb
  have hk := hk.below hb
  have tm0 := tm0.below hb
  have tm1 := tm1.below hb
  have hP := Past.trans hP hb
  have s20 := hb.size
  clear hb
  go_wp2_with fail
  refine (eqIntS_same A20 A4 N c20 c4 zs _ hzl HN.out.symm hi20 hz).mono ?_
  rintro e w21 ⟨rfl, hb⟩
  have hx0 := hx0.below hb
  have hx1 := hx1.below hb
  have a0_0 := cell_in hb a0_0
  have a0_1 := cell_in hb a0_1
  have hz := hz.below hb
  have hk := hk.below hb
  have tm0 := tm0.below hb
  have tm1 := tm1.below hb
  have hP := Past.trans hP hb
  have s21 := hb.size
  clear hb
  go_wp2_with fail
  refine (heldIntS_any A7 N c7 1 _ hzl _ rfl (by omega) hk).mono ?_
  rintro e w_ ⟨rfl, rfl⟩
  go_wp2
  go_ret
  exact ⟨rfl, hP⟩

set_option maxRecDepth 100000 in
theorem exactTurnAll_lifted (os : Os) (started : os.Started) (H : Type) (enc : TypeId × Value → H) :
    ReturnsInHanded {} Try.checked os 3 .any (Rows.fnExactTurnAllSpec.pre6 enc Try.prog Try.f3 Rows.fnExactTurnAllRow.domain false) (Rows.fnExactTurnAllSpec.post enc Try.prog Try.f3 false true false false) := by
  refine returnsInHanded_of_change (C := Try.checked) own started (by kernel_rfl) Try.func3
    (ChangeSpec.witness6 (enc := enc) (C := Try.checked) false ⟨#[], #[.agg #[.int .i64 0, .slice none 0 0], .slice none 0 0, .int .i64 0], []⟩ 8 (by kernel_rfl) (by kernel_rfl) (by kernel_rfl) (by kernel_rfl)) ?_
  intro W base args ds gs before hval0 hW hcnd _
  have hval : ∀ (j : Nat) t v, Try.f3.params[j]? = some t → args[j]? = some v → Value.okWide Try.prog W .any base t v := hval0
  have hW' := hW
  obtain ⟨p, q, hA0, hV, rfl, hfz, hnd⟩ := hW
  have hA : DataW.TrodAll enc Try.prog W 0 (fun _ => true) true Try.f3.params.toList args.toList ds p := hA0
  rw [Try.params3] at hA hval
  obtain ⟨v0, vs0, d0, ds0, p0, q0, hargs, rfl, rfl, h0, r0⟩ := trodAll_cons hA
  obtain ⟨v1, vs1, d1, ds1, p1, q1, rfl, rfl, rfl, h1, r1⟩ := trodAll_cons r0
  obtain ⟨v2, vs2, d2, ds2, p2, q2, rfl, rfl, rfl, h2, r2⟩ := trodAll_cons r1
  obtain ⟨rfl, rfl, rfl⟩ := trodAll_nil r2
  obtain rfl : args = #[v0, v1, v2] := by cases args; simp_all
  obtain ⟨rfl, rfl⟩ := trodVars_none hV
  have k0 := h0
  have lt0 := places_lt k0
  have k1 := h1
  have lt1 := places_lt k1
  have k2 := h2
  have lt2 := places_lt k2
  obtain ⟨m0, A0, n0, c0, xs0, rfl, hl0, hn0, hx0, _⟩ := open_net (hval 0 24 v0 rfl rfl) h0
  obtain ⟨A1, n1, c1, xs1, rfl, hl1, hn1, hx1⟩ := open_Turn (hval 1 25 v1 rfl rfl) h1
  obtain ⟨z2, rfl⟩ := okWide_int Try.underlying3 (hval 2 3 v2 rfl rfl)
  clear hA0 hval0
  refine (exactTurnAll_walk m0 A0 n0 c0 xs0 A1 n1 c1 xs1 z2 W hn0 hl0 hx0 hn1 hl1 hx1).mono fun e W' ⟨he, bel⟩ => ?_
  subst he
  exact ⟨_, rfl, _, _, _, [], _, [], hW', trodAll_mk1 (shut_bool Try.underlying4 _), (trodAll_cons_mk (Below.trod laidOut (by kernel_rfl) (of_decide_eq_true (by kernel_rfl)) k0 bel lt0) (trodAll_cons_mk (Below.trod laidOut (by kernel_rfl) (of_decide_eq_true (by kernel_rfl)) k1 bel lt1) (trodAll_cons_mk (Below.trod laidOut (by kernel_rfl) (of_decide_eq_true (by kernel_rfl)) k2 bel lt2) trodAll_mk0))), rfl, bel.frame _, fun h => by cases h⟩

/-- The given statement. -/
theorem exactTurnAll_proved : Rows.FnExactTurnAllSaid :=
  OpenClaim.holds_of_wide 3 Try.f3 rfl rfl rfl rfl rfl rfl rfl ⟨rfl, rfl, rfl, rfl, rfl⟩ rfl rfl rfl rfl rfl (by kernel_rfl) Try.func3 (by kernel_rfl)
    (of_decide_eq_true (by kernel_rfl)) (by unfold Func.isWrapper; first | (rw [if_pos (by decide +kernel)]; kernel_rfl) | (rw [if_neg (by decide +kernel)]; exact ⟨rfl, rfl⟩))
    (fun os started H enc _ => exactTurnAll_lifted os started H enc)

end Go.Proofs.Ytaojognjkiifmaa
