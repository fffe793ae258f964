/-
  One stair behind another, step by step. No program is named. No condition.
-/
import Derived.Test.YthopenknfadciaaPStair
namespace Go.Proofs.Ythopenknfadciaa

theorem take_next {α : Type} {ys : List α} {k : Nat} {y : α} (h : ys[k]? = some y) : ys.take (k + 1) = ys.take k ++ [y] := by
  rw [List.take_add_one, h]; rfl
theorem atI_bound {xs : List StepD} (h : stairB xs = true) (t : Int) : atI xs t = far ∨ (t ≤ atI xs t ∧ atI xs t ≤ 199) := by
  unfold atI
  cases hf : xs.find? (fun a => decide (t ≤ a.x0)) with
  | none => exact .inl rfl
  | some a =>
    right
    have h1 := List.find?_some hf
    have h2 := (stOk_iff a).1 (stairB_ok h a (List.mem_of_find?_eq_some hf))
    simp at h1
    simp only
    omega

/-- A step, and on. -/
def linkS (b : List StepD) (s : StepD) : Option StepD := if atI b s.x1 = far then none else some ⟨s.x0, atI b s.x1⟩
def linkL (a b : List StepD) : List StepD := a.filterMap (linkS b)
theorem linkL_next {a b : List StepD} {k : Nat} {s : StepD} (h : a[k]? = some s) : linkL (a.take (k + 1)) b = linkL (a.take k) b ++ (linkS b s).toList := by
  unfold linkL
  rw [take_next h, List.filterMap_append]
  cases hs : linkS b s <;> simp [hs]
theorem linkL_len (a b : List StepD) : (linkL a b).length ≤ a.length := List.length_filterMap_le _ _
theorem linkL_ok {a b : List StepD} (ha : stairB a = true) (hb : stairB b = true) : ∀ s ∈ linkL a b, stOk s = true := fun s hs => by
  obtain ⟨t, ht, he⟩ := List.mem_filterMap.1 hs
  have h1 := (stOk_iff t).1 (stairB_ok ha t ht)
  unfold linkS at he
  split at he
  · cases he
  · rename_i hne
    injection he with he
    subst he
    have := (atI_bound hb t.x1).resolve_left hne
    exact (stOk_iff _).2 (by simp only; omega)

theorem tidy_len (xs : List StepD) : (tidy xs).length ≤ 200 := frontTo_len xs 200

end Go.Proofs.Ythopenknfadciaa
