/-
  impl's walk.ok and impl.WalkOk answer by 'okB'.
-/
import Derived.Test.YtaojognjkiifmacWalk
namespace Go.Proofs.Ytaojognjkiifmac
open Go.RowKit

theorem flip_eq {a b : Int} (h : (a != b) = false) : (b == a) = true := by simp at h; simp [h]
theorem flip_ne {a b : Int} (h : (a != b) = true) : (b == a) = false := by simp at h; simp; exact fun e => h e.symm

end Go.Proofs.Ytaojognjkiifmac
