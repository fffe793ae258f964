/-
  Plain mathematics of one stair behind another: at each time one comes as one after the other; in whichever order they are put together. No condition.
-/
import Derived.Test.YthopenknfadciabPStair2
import Derived.Test.YthopenknfadciabPLinkL
namespace Go.Proofs.Ythopenknfadciab

theorem nodup_sub : ∀ {l m : List Int}, l.Nodup → (∀ x ∈ l, x ∈ m) → l.length ≤ m.length
  | [], _, _, _ => Nat.zero_le _
  | x :: l, m, hn, hs => by
    have hx := hs x (by simp)
    obtain ⟨h1, h2⟩ := List.nodup_cons.1 hn
    have := nodup_sub (l := l) (m := m.erase x) h2 fun y hy => (List.mem_erase_of_ne (fun e => h1 (by rw [← e]; exact hy))).2 (hs y (List.mem_cons_of_mem _ hy))
    rw [List.length_erase_of_mem hx] at this
    have := List.length_pos_of_mem hx
    simp
    omega
theorem tidy_le (ys : List StepD) : (tidy ys).length ≤ ys.length := by
  have h1 : ((tidy ys).map StepD.x1).Nodup := by
    unfold List.Nodup
    rw [List.pairwise_map]
    exact (front_up ys 200).imp fun h => by have := h.2; omega
  have h2 : ∀ x ∈ (tidy ys).map StepD.x1, x ∈ ys.map StepD.x1 := fun x hx => by
    obtain ⟨s, hs, rfl⟩ := List.mem_map.1 hx
    obtain ⟨i, _, rfl, hne⟩ := frontTo_mem hs
    have hm := bestOf_mono ys (a := (i : Int)) (b := ((i + 1 : Nat) : Int)) (by omega)
    have hl := bestOf_le ys ((i + 1 : Nat) : Int)
    rcases bestOf_mem ys (i : Int) with e | ⟨t, ht, _, h3⟩
    · omega
    · exact List.mem_map.2 ⟨t, ht, h3.symm⟩
  have := nodup_sub h1 h2
  simpa using this

/-- One, and then the other. -/
def afterI (a b : List StepD) (t : Int) : Int := if atI a t = far then far else atI b (atI a t)

theorem atI_le {zs : List StepD} (h : stairB zs = true) (t : Int) : atI zs t ≤ far := by rw [stair_best h]; exact bestOf_le _ _

theorem link_best {a b : List StepD} (ha : stairB a = true) (hb : stairB b = true) (t : Int) : bestOf (linkL a b) t = afterI a b t := by
  have lo : afterI a b t ≤ bestOf (linkL a b) t := by
    rcases bestOf_mem (linkL a b) t with e | ⟨s', hs', h1, h2⟩
    · rw [e]
      unfold afterI
      split
      · exact Int.le_refl _
      · exact atI_le hb _
    · obtain ⟨s, hs, he⟩ := List.mem_filterMap.1 hs'
      unfold linkS at he
      split at he
      · cases he
      · injection he with he
        subst he
        simp only at h1 h2
        have h3 := atI_lb ha hs h1
        have h4 := (stOk_iff s).1 (stairB_ok ha s hs)
        rw [h2]
        unfold afterI
        rw [if_neg (by unfold far; omega)]
        exact atI_mono hb h3
  have hi : bestOf (linkL a b) t ≤ afterI a b t := by
    unfold afterI
    split
    · exact bestOf_le _ _
    · rename_i hne
      obtain ⟨k, s, hk, h1, h2⟩ := (atI_mem ha t).resolve_left hne
      rw [h2]
      by_cases hf : atI b s.x1 = far
      · rw [hf]; exact bestOf_le _ _
      · have hm : (⟨s.x0, atI b s.x1⟩ : StepD) ∈ linkL a b := List.mem_filterMap.2 ⟨s, List.mem_of_getElem? hk, by rw [linkS, if_neg hf]⟩
        exact bestOf_lb hm h1
  omega

theorem link_stair {a b : List StepD} (ha : stairB a = true) (hb : stairB b = true) : stairB (tidy (linkL a b)) = true := by
  have h1 := tidy_le (linkL a b)
  have h2 := linkL_len a b
  have h3 := stairB_len ha
  exact stairB_of (by omega) (fun s hs => tidy_ok (linkL_ok ha hb) hs) (front_up _ 200)
theorem link_at {a b : List StepD} (ha : stairB a = true) (hb : stairB b = true) (t : Nat) (ht : t ≤ 200) : atI (tidy (linkL a b)) (t : Int) = afterI a b (t : Int) := by
  rw [stair_best (link_stair ha hb), tidy_best (linkL_ok ha hb) t ht, link_best ha hb]
theorem atI_nat {zs : List StepD} (h : stairB zs = true) (t : Nat) (hne : atI zs (t : Int) ≠ far) : ∃ u : Nat, atI zs (t : Int) = u ∧ u ≤ 199 := by
  have := (atI_bound h (t : Int)).resolve_left hne
  exact ⟨(atI zs (t : Int)).toNat, by omega, by omega⟩
/-- Whichever two are put together first. -/
theorem link_three {a b c : List StepD} (ha : stairB a = true) (hb : stairB b = true) (hc : stairB c = true) : tidy (linkL (tidy (linkL a b)) c) = tidy (linkL a (tidy (linkL b c))) := by
  apply tidy_ext
  intro t ht
  rw [link_best (link_stair ha hb) hc, link_best ha (link_stair hb hc)]
  unfold afterI
  rw [link_at ha hb t ht]
  by_cases h1 : atI a (t : Int) = far
  · have : afterI a b (t : Int) = far := by rw [afterI, if_pos h1]
    rw [this, if_pos rfl, if_pos h1]
  · obtain ⟨u, hu, hu9⟩ := atI_nat ha t h1
    rw [if_neg h1, hu, link_at hb hc u (by omega)]
    have : afterI a b (t : Int) = atI b (u : Int) := by rw [afterI, if_neg h1, hu]
    rw [this]
    rfl

end Go.Proofs.Ythopenknfadciab
