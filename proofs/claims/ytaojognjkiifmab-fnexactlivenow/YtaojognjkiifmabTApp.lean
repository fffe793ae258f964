/-
  append in a region that draws its order, whatever is appended; a slice of turns, its head and its rest. No condition.
-/
import Derived.Deep.AppendLies
import Derived.Test.YtaojognjkiifmabRTurnL
import Derived.Test.YtaojognjkiifmabPTurn2
namespace Go.Proofs.Ytaojognjkiifmab
open Go.RowKit

theorem step_append_any {P : Program} {ops : Array Oper} {o : Oper} {a : Act} {w : World} {K : Act → World → Prop} {Q : Exit → Act → World → Prop} {E : Prop} (hwt : Region.wanted o (yielded ops a.tmps) = true) (s x : Operand) (t : TypeId)
    (ho : o.op = .call { callee := .builtin .append, args := #[s, x], argTypes := #[t, t] })
    (base : Nat) (e : TypeId) (i : TypeInfo) (z : Value) (size bytes : Nat) (ht : P.underlying t = some (.slice e)) (hi : P.info? e = some i) (hz : i.zero = some z)
    (hsize : i.size = size) (hby : i.bytes = bytes) (hzs : z.cells.size = size) (hsz : 0 < size)
    (v : Value) (n : Nat) (xs : List Value) (hs : a.eval s = v) (hown : w.ownsRow base e size v n xs)
    (ad : Addr) (m c : Nat) (hx : a.eval x = .slice (some ad) m c) (news : List Value) (hl : news.length = m * size) (hnews : ∀ j u, news[j]? = some u → w.cell? (ad.add j) = some u) (h1 : ∀ u ∈ news, u.oneCell' = true)
    (h63 : n + m ≤ maxLen) (hbytes : (n + m) * bytes ≤ 140737488355328) (hbase : base ≤ w.heap.size)
    (h : ∀ v' w', w'.ownsRow base e size v' (n + m) (xs ++ news) → w.grownBy w' v.ownBlock → (v'.ownBlock = v.ownBlock ∨ v'.ownBlock = some w.heap.size) → K (a.put o.dst v') w') :
    if Region.wanted o (yielded ops a.tmps) = true then Oper.wp P o a w K Q else E := by
  rw [if_pos hwt]
  obtain ⟨v', w', hr, h2, h3, _, h5⟩ := run_append_own_at (P := P) w base t o.type e i z size bytes ht hi hz hsize hby hzs hsz v n xs hown ad m c news hl hnews h1 h63 hbytes hbase
  unfold Oper.wp execOp
  simp only [ho, resolve, invoke, builtin, Sem.run_bind, Sem.run_pure, Result.andThen_ok, List.map_toArray, List.map_cons, List.map_nil, hs, hx, hr]
  exact h v' w' h2 h3 h5

theorem turns_news {w : World} {g o : Nat} {zs : List TurnD} (h : TurnsAt w (some ⟨g, o, none⟩) zs) : ∀ j u, (cellsTurn zs)[j]? = some u → w.cell? ((⟨g, o, none⟩ : Addr).add j) = some u := fun j u hu => by
  have := cells_of_turns (w := w) (g := g) zs o (fun k a hk => by
    obtain ⟨g', o', e, hr⟩ := h k a hk
    injection e with e
    injection e with e1 e2
    subst e1 e2
    exact hr) j u hu
  rw [Addr.add_lit]
  exact this
theorem turns_take {w : World} {A : Option Addr} {zs : List TurnD} (h : TurnsAt w A zs) (i : Nat) : TurnsAt w A (zs.take i) := fun k a hk => by
  rw [List.getElem?_take] at hk
  split at hk
  · exact h k a hk
  · cases hk
theorem turns_drop {w : World} {g o : Nat} {zs : List TurnD} (h : TurnsAt w (some ⟨g, o, none⟩) zs) (i : Nat) : TurnsAt w (some ⟨g, o + i * 3, none⟩) (zs.drop i) := fun k a hk => by
  rw [List.getElem?_drop] at hk
  obtain ⟨g', o', e, hr⟩ := h (i + k) a hk
  injection e with e
  injection e with e1 e2
  subst e1 e2
  exact ⟨_, _, rfl, by rw [show o + i * 3 + k * 3 = o + (i + k) * 3 by omega]; exact hr⟩
/-- Without one of them turns are ok. -/
theorem freeB_iff (ts : List TurnD) : ∀ n, n ≤ ts.length → (freeB ts n = true ↔ ∀ j k a b, j < k → k < n → ts[j]? = some a → ts[k]? = some b → sameT b.x0 b.x1 a = false)
  | 0, _ => by simp [freeB]
  | n + 1, hn => by
    obtain ⟨t, ht⟩ : ∃ t, ts[n]? = some t := ⟨_, List.getElem?_eq_getElem (by omega)⟩
    rw [freeB_next ht, Bool.and_eq_true, freeB_iff ts n (by omega), Bool.not_eq_true', List.any_eq_false]
    constructor
    · rintro ⟨h1, h2⟩ j k a b hjk hkn ha hb
      rcases Nat.lt_or_ge k n with hlt | hge
      · exact h1 j k a b hjk hlt ha hb
      · obtain rfl : k = n := by omega
        rw [ht] at hb
        injection hb with hb
        subst hb
        have := h2 a (List.mem_of_getElem? (i := j) (by rw [List.getElem?_take_of_lt hjk]; exact ha))
        simpa using this
    · intro h
      refine ⟨fun j k a b hjk hkn => h j k a b hjk (by omega), fun x hx => ?_⟩
      obtain ⟨j, hj⟩ := List.getElem?_of_mem hx
      have hjn : j < n := by
        have := (List.getElem?_eq_some_iff.1 hj).1
        simp at this
        omega
      rw [List.getElem?_take_of_lt hjn] at hj
      have := h j n x t hjn (by omega) hj ht
      simpa using this
def fewT (ts : List TurnD) (i : Nat) : List TurnD := ts.take i ++ ts.drop (i + 1)
theorem fewT_at {ts : List TurnD} {i k : Nat} (hi : i < ts.length) : (fewT ts i)[k]? = if k < i then ts[k]? else ts[k + 1]? := by
  unfold fewT
  by_cases h : k < i
  · rw [if_pos h, List.getElem?_append_left (by rw [List.length_take]; omega), List.getElem?_take_of_lt h]
  · rw [if_neg h, List.getElem?_append_right (by rw [List.length_take]; omega), List.length_take, List.getElem?_drop]
    congr 1
    omega
theorem fewT_len {ts : List TurnD} {i : Nat} (hi : i < ts.length) : (fewT ts i).length = ts.length - 1 := by
  unfold fewT
  rw [List.length_append, List.length_take, List.length_drop]
  omega
theorem fewT_ok {m : Int} {xs : List ArcD} {ts : List TurnD} {i : Nat} (h : turnsB m xs ts = true) (hi : i < ts.length) : turnsB m xs (fewT ts i) = true := by
  obtain ⟨h1, h2, h3, h4⟩ := turnsB_all h
  have hl := fewT_len hi
  simp only [turnsB, Bool.and_eq_true, decide_eq_true_eq]
  refine ⟨h1, by omega, ?_, ?_⟩
  · rw [List.all_eq_true] at h3 ⊢
    intro x hx
    unfold fewT at hx
    rcases List.mem_append.1 hx with hx | hx
    · exact h3 x (List.mem_of_mem_take hx)
    · exact h3 x (List.mem_of_mem_drop hx)
  · rw [freeB_iff _ _ (Nat.le_refl _)]
    rw [freeB_iff _ _ (Nat.le_refl _)] at h4
    intro j k a b hjk hkn ha hb
    rw [fewT_at hi] at ha hb
    rw [hl] at hkn
    by_cases h5 : k < i
    · rw [if_pos h5] at hb
      rw [if_pos (by omega)] at ha
      exact h4 j k a b hjk (by omega) ha hb
    · rw [if_neg h5] at hb
      by_cases h6 : j < i
      · rw [if_pos h6] at ha
        exact h4 j (k + 1) a b (by omega) (by omega) ha hb
      · rw [if_neg h6] at ha
        exact h4 (j + 1) (k + 1) a b (by omega) (by omega) ha hb
/-- With one of them twice they are not. -/
theorem twice_bad {m : Int} {xs : List ArcD} {ts : List TurnD} {i : Nat} {t : TurnD} (ht : ts[i]? = some t) : turnsB m xs (ts ++ [t]) = false := by
  rw [Bool.eq_false_iff]
  intro h
  obtain ⟨h1, h2, h3, h4⟩ := turnsB_all h
  have hi : i < ts.length := (List.getElem?_eq_some_iff.1 ht).1
  rw [freeB_iff _ _ (Nat.le_refl _)] at h4
  have := h4 i ts.length t t hi (by simp) (by rw [List.getElem?_append_left hi]; exact ht) (by simp)
  simp [sameT] at this

end Go.Proofs.Ytaojognjkiifmab
