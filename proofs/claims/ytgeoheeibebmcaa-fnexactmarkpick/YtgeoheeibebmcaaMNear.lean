/-
  Which of a list of nodes is nearest: spec.ManyNear, impl.costsTo, impl.ManyNear. No condition.
-/
import Derived.Test.YtgeoheeibebmcaaMList
import Derived.Test.YtgeoheeibebmcaaNAll
namespace Go.Proofs.Ytgeoheeibebmcaa
open Go.RowKit

theorem ret_two {a b a' b' : Int} (h : a = a') (h' : b = b') : Ending.returned (.tuple #[.int .i64 a, .int .i64 b]) = .returned (.tuple #[.int .i64 a', .int .i64 b']) := by rw [h, h']
theorem getElem_at' (d : List Int) (v : Int) (h0 : 0 ≤ v) (h : v < d.length) : d[v.toNat]? = some (at_ d v) := by
  have : v.toNat < d.length := by omega
  simp [at_, this]

end Go.Proofs.Ytgeoheeibebmcaa
