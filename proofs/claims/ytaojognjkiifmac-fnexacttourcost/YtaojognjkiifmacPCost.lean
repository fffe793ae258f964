/-
  A cost for each arc, of costs and tolls. Plain. No condition.
-/
import Derived.Test.YtaojognjkiifmacPNear
namespace Go.Proofs.Ytaojognjkiifmac

/-- What an arc costs, each hundred of its cost and of its toll counted as said. -/
def costOne (p q : Int) (a : ArcD) : Int := if 99 < (a.c * p + a.l * q).tdiv 100 then 99 else (a.c * p + a.l * q).tdiv 100
def costsOf (p q : Int) (xs : List ArcD) : List Int := xs.map (costOne p q)
def ofOkB (m : Int) (xs : List ArcD) (p q : Int) : Bool := netB m xs && (inB p 0 100 && inB q 0 100)
def costOfI (m : Int) (xs : List ArcD) (p q : Int) : List Int := if ofOkB m xs p q then costsOf p q xs else []

theorem net_arc {m : Int} {xs : List ArcD} {k : Nat} {a : ArcD} (h : netB m xs = true) (ha : xs[k]? = some a) : 0 ≤ a.c ∧ a.c ≤ 99 ∧ 0 ≤ a.l ∧ a.l ≤ 99 := by
  have hb := ((netB_iff _ _).1 h).2.2 a (List.mem_of_getElem? ha)
  simp [arcB, inB_iff] at hb
  omega

theorem net_num {m : Int} {xs : List ArcD} (h : netB m xs = true) : xs.length ≤ 16 := ((netB_iff _ _).1 h).2.1

theorem mul_in {a b u v : Int} (ha : 0 ≤ a ∧ a ≤ u) (hb : 0 ≤ b ∧ b ≤ v) : 0 ≤ a * b ∧ a * b ≤ u * v :=
  ⟨Int.mul_nonneg ha.1 hb.1, Int.mul_le_mul ha.2 hb.2 hb.1 (Int.le_trans ha.1 ha.2)⟩

theorem tdiv_in {x : Int} (h : 0 ≤ x ∧ x ≤ 19800) : 0 ≤ x.tdiv 100 ∧ x.tdiv 100 ≤ 198 := by
  rw [Int.tdiv_eq_ediv_of_nonneg h.1]
  omega

/-- What comes up on the way to an arc's cost. -/
theorem costOne_way {p q : Int} {a : ArcD} (ha : 0 ≤ a.c ∧ a.c ≤ 99 ∧ 0 ≤ a.l ∧ a.l ≤ 99) (hp : 0 ≤ p ∧ p ≤ 100) (hq : 0 ≤ q ∧ q ≤ 100) :
    ∃ x y z : Int, x = a.c * p ∧ y = a.l * q ∧ z = (x + y).tdiv 100 ∧ (0 ≤ x ∧ x ≤ 9900) ∧ (0 ≤ y ∧ y ≤ 9900) ∧ (0 ≤ z ∧ z ≤ 198) ∧ costOne p q a = if 99 < z then 99 else z := by
  have h1 := mul_in (u := 99) (v := 100) ⟨ha.1, ha.2.1⟩ hp
  have h2 := mul_in (u := 99) (v := 100) ⟨ha.2.2.1, ha.2.2.2⟩ hq
  exact ⟨_, _, _, rfl, rfl, rfl, by omega, by omega, tdiv_in (by omega), rfl⟩

theorem ofOkB_iff (m : Int) (xs : List ArcD) (p q : Int) : ofOkB m xs p q = true ↔ netB m xs = true ∧ inB p 0 100 = true ∧ inB q 0 100 = true := by simp [ofOkB]

theorem costOfI_len (m : Int) (xs : List ArcD) (p q : Int) : (costOfI m xs p q).length ≤ 1048576 := by
  unfold costOfI
  split
  · rename_i h
    have := net_num ((ofOkB_iff _ _ _ _).1 h).1
    rw [costsOf, List.length_map]
    omega
  · simp

theorem costsOf_next {p q : Int} {xs : List ArcD} {k : Nat} {a : ArcD} (h : xs[k]? = some a) : costsOf p q (xs.take (k + 1)) = costsOf p q (xs.take k) ++ [costOne p q a] := by
  rw [List.take_add_one, h]
  simp [costsOf]

end Go.Proofs.Ytaojognjkiifmac
