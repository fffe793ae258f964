/-
  A number that comes in is no more than the greatest one. No condition.
-/
import Derived.Test.YtgeoheeibebmcaaOpenW
namespace Go.Proofs.Ytgeoheeibebmcaa
open Go.ChangeShapes Go.WideShapes Go.ChangeAt Go.RowKit

theorem okWide_upto {P : Program} {w : World} {r : Reach} {base : Nat} {t : TypeId} {n : Int} (ht : P.underlying t = some (.int .i64)) (h : Value.okWide P w r base t (.int .i64 n)) : n ≤ 9223372036854775807 := by
  simp only [Value.okWide, ht, Cell.okWide, Cell.ok] at h
  have := h.2
  simp [IntKind.has, IntKind.max, IntKind.signed, IntKind.bits] at this
  exact this.2

end Go.Proofs.Ytgeoheeibebmcaa
