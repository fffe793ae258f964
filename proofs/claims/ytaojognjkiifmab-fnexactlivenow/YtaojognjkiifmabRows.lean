/-
  No cell of these rows narrows 'for every input' (looked for: loops, veiled, ifaces, maps, wideKeys, modest, calm, conditions, laid).
  DERIVED. THE GIVEN ROWS OF THIS SEAT. 12 by the template 'for every input the law returns true; each argument reads behind the call as it read before'; 0 by the template 'total and deterministic' (their statements: YtaojognjkiifmabTotals.lean).
  GIVEN WITH THE SEED: the statements are not yours to turn. If you find one false, say at which input.
  Laid BY PROGRAM, IN A SANDBOX (cutbox-rows.mjs): the forced cells as the released guide's own fill.sh prints them over the translation e0c82108ac47c1b6… (all of the seat's roots in one cut). By AI agents, Wed Nov 11 2026. No macro, syntax, notation, axiom, sorry.
-/
import Derived.Test.YtaojognjkiifmabChecked
import GoSem.Claim
import GoSem.ClaimJoined
import GoSem.ClaimMapViews
import Derived.JoinedTies
import Derived.KernelRfl
namespace Go.Proofs.Ytaojognjkiifmab
/- THE CELL 'sum', in the pinned program and in every row, IS THE sha256 OF THE DUMP (.gsa) THAT YtaojognjkiifmabProg.lean LOADS. Nothing in Lean hashes anything: it is a label: what it is worth is what the hold of that sum in a sandbox is worth. -/
noncomputable def Try.pinned : Pinned := { name := "ytaojognjkiifmab", sum := "e0c82108ac47c1b62bae299c33adc3c1edd773bd341ec560969b9593c0e02d5c", checked := Try.checked }
namespace Rows
def none {H : Type} : Left H := { results := [], args := [] }

/-- 'laws.FnLoadAll': WHATEVER THE INPUT: true; the input reads as it did. -/
def fnLoadAllSpec : ChangeSpec := { name := "fnLoadAll", fn := fun _ => fun
  | [d] => { results := [.lit (.bool true)], args := [d] }
  | _ => none }
def fnLoadAllRow : OpenClaim := { program := "ytaojognjkiifmab", sum := "e0c82108ac47c1b62bae299c33adc3c1edd773bd341ec560969b9593c0e02d5c", func := "loop.example/waymark/laws.FnLoadAll", spec := "fnLoadAll", unfollowed := true, recurses := true, apart := false }
def FnLoadAllSaid : Prop := fnLoadAllRow.holds Try.pinned (OpenSpec.ofChange fnLoadAllSpec)

/-- ITS FALSE NEIGHBOUR: 'it returns false'. Refute it at one input. -/
def fnLoadAllWrong : ChangeSpec := { name := "fnLoadAll", fn := fun _ => fun
  | [d] => { results := [.lit (.bool false)], args := [d] }
  | _ => none }
def FnLoadAllWrongFalsely : Prop := fnLoadAllRow.holds Try.pinned (OpenSpec.ofChange fnLoadAllWrong)

/-- 'laws.FnLoadWalk': WHATEVER THE INPUT: true; the input reads as it did. -/
def fnLoadWalkSpec : ChangeSpec := { name := "fnLoadWalk", fn := fun _ => fun
  | [d] => { results := [.lit (.bool true)], args := [d] }
  | _ => none }
def fnLoadWalkRow : OpenClaim := { program := "ytaojognjkiifmab", sum := "e0c82108ac47c1b62bae299c33adc3c1edd773bd341ec560969b9593c0e02d5c", func := "loop.example/waymark/laws.FnLoadWalk", spec := "fnLoadWalk", unfollowed := true, recurses := true, apart := false }
def FnLoadWalkSaid : Prop := fnLoadWalkRow.holds Try.pinned (OpenSpec.ofChange fnLoadWalkSpec)

/-- ITS FALSE NEIGHBOUR: 'it returns false'. Refute it at one input. -/
def fnLoadWalkWrong : ChangeSpec := { name := "fnLoadWalk", fn := fun _ => fun
  | [d] => { results := [.lit (.bool false)], args := [d] }
  | _ => none }
def FnLoadWalkWrongFalsely : Prop := fnLoadWalkRow.holds Try.pinned (OpenSpec.ofChange fnLoadWalkWrong)

/-- 'laws.FnExactLiveOk': WHATEVER THE INPUT: true; the input reads as it did. -/
def fnExactLiveOkSpec : ChangeSpec := { name := "fnExactLiveOk", fn := fun _ => fun
  | [d] => { results := [.lit (.bool true)], args := [d] }
  | _ => none }
def fnExactLiveOkRow : OpenClaim := { program := "ytaojognjkiifmab", sum := "e0c82108ac47c1b62bae299c33adc3c1edd773bd341ec560969b9593c0e02d5c", func := "loop.example/waymark/laws.FnExactLiveOk", spec := "fnExactLiveOk", apart := false }
def FnExactLiveOkSaid : Prop := fnExactLiveOkRow.holds Try.pinned (OpenSpec.ofChange fnExactLiveOkSpec)

/-- ITS FALSE NEIGHBOUR: 'it returns false'. Refute it at one input. -/
def fnExactLiveOkWrong : ChangeSpec := { name := "fnExactLiveOk", fn := fun _ => fun
  | [d] => { results := [.lit (.bool false)], args := [d] }
  | _ => none }
def FnExactLiveOkWrongFalsely : Prop := fnExactLiveOkRow.holds Try.pinned (OpenSpec.ofChange fnExactLiveOkWrong)

/-- 'laws.FnExactLiveNow': WHATEVER THE INPUT: true; the input reads as it did. -/
def fnExactLiveNowSpec : ChangeSpec := { name := "fnExactLiveNow", fn := fun _ => fun
  | [d] => { results := [.lit (.bool true)], args := [d] }
  | _ => none }
def fnExactLiveNowRow : OpenClaim := { program := "ytaojognjkiifmab", sum := "e0c82108ac47c1b62bae299c33adc3c1edd773bd341ec560969b9593c0e02d5c", func := "loop.example/waymark/laws.FnExactLiveNow", spec := "fnExactLiveNow", apart := false }
def FnExactLiveNowSaid : Prop := fnExactLiveNowRow.holds Try.pinned (OpenSpec.ofChange fnExactLiveNowSpec)

/-- ITS FALSE NEIGHBOUR: 'it returns false'. Refute it at one input. -/
def fnExactLiveNowWrong : ChangeSpec := { name := "fnExactLiveNow", fn := fun _ => fun
  | [d] => { results := [.lit (.bool false)], args := [d] }
  | _ => none }
def FnExactLiveNowWrongFalsely : Prop := fnExactLiveNowRow.holds Try.pinned (OpenSpec.ofChange fnExactLiveNowWrong)

/-- 'laws.FnExactLiveNear': WHATEVER THE INPUT: true; the input reads as it did. -/
def fnExactLiveNearSpec : ChangeSpec := { name := "fnExactLiveNear", fn := fun _ => fun
  | [d1, d2, d3] => { results := [.lit (.bool true)], args := [d1, d2, d3] }
  | _ => none }
def fnExactLiveNearRow : OpenClaim := { program := "ytaojognjkiifmab", sum := "e0c82108ac47c1b62bae299c33adc3c1edd773bd341ec560969b9593c0e02d5c", func := "loop.example/waymark/laws.FnExactLiveNear", spec := "fnExactLiveNear", unfollowed := true, recurses := true, apart := false }
def FnExactLiveNearSaid : Prop := fnExactLiveNearRow.holds Try.pinned (OpenSpec.ofChange fnExactLiveNearSpec)

/-- ITS FALSE NEIGHBOUR: 'it returns false'. Refute it at one input. -/
def fnExactLiveNearWrong : ChangeSpec := { name := "fnExactLiveNear", fn := fun _ => fun
  | [d1, d2, d3] => { results := [.lit (.bool false)], args := [d1, d2, d3] }
  | _ => none }
def FnExactLiveNearWrongFalsely : Prop := fnExactLiveNearRow.holds Try.pinned (OpenSpec.ofChange fnExactLiveNearWrong)

/-- 'laws.FnLiveNow': WHATEVER THE INPUT: true; the input reads as it did. -/
def fnLiveNowSpec : ChangeSpec := { name := "fnLiveNow", fn := fun _ => fun
  | [d] => { results := [.lit (.bool true)], args := [d] }
  | _ => none }
def fnLiveNowRow : OpenClaim := { program := "ytaojognjkiifmab", sum := "e0c82108ac47c1b62bae299c33adc3c1edd773bd341ec560969b9593c0e02d5c", func := "loop.example/waymark/laws.FnLiveNow", spec := "fnLiveNow", apart := false }
def FnLiveNowSaid : Prop := fnLiveNowRow.holds Try.pinned (OpenSpec.ofChange fnLiveNowSpec)

/-- ITS FALSE NEIGHBOUR: 'it returns false'. Refute it at one input. -/
def fnLiveNowWrong : ChangeSpec := { name := "fnLiveNow", fn := fun _ => fun
  | [d] => { results := [.lit (.bool false)], args := [d] }
  | _ => none }
def FnLiveNowWrongFalsely : Prop := fnLiveNowRow.holds Try.pinned (OpenSpec.ofChange fnLiveNowWrong)

/-- 'laws.FnLiveNear': WHATEVER THE INPUT: true; the input reads as it did. -/
def fnLiveNearSpec : ChangeSpec := { name := "fnLiveNear", fn := fun _ => fun
  | [d] => { results := [.lit (.bool true)], args := [d] }
  | _ => none }
def fnLiveNearRow : OpenClaim := { program := "ytaojognjkiifmab", sum := "e0c82108ac47c1b62bae299c33adc3c1edd773bd341ec560969b9593c0e02d5c", func := "loop.example/waymark/laws.FnLiveNear", spec := "fnLiveNear", unfollowed := true, recurses := true, apart := false }
def FnLiveNearSaid : Prop := fnLiveNearRow.holds Try.pinned (OpenSpec.ofChange fnLiveNearSpec)

/-- ITS FALSE NEIGHBOUR: 'it returns false'. Refute it at one input. -/
def fnLiveNearWrong : ChangeSpec := { name := "fnLiveNear", fn := fun _ => fun
  | [d] => { results := [.lit (.bool false)], args := [d] }
  | _ => none }
def FnLiveNearWrongFalsely : Prop := fnLiveNearRow.holds Try.pinned (OpenSpec.ofChange fnLiveNearWrong)

/-- 'laws.FnExactLiveTell': WHATEVER THE INPUT: true; the input reads as it did. -/
def fnExactLiveTellSpec : ChangeSpec := { name := "fnExactLiveTell", fn := fun _ => fun
  | [d1, d2] => { results := [.lit (.bool true)], args := [d1, d2] }
  | _ => none }
def fnExactLiveTellRow : OpenClaim := { program := "ytaojognjkiifmab", sum := "e0c82108ac47c1b62bae299c33adc3c1edd773bd341ec560969b9593c0e02d5c", func := "loop.example/waymark/laws.FnExactLiveTell", spec := "fnExactLiveTell", inPlace := ["internal/reflectlite.ValueOf", "internal/reflectlite.Swapper", "(internal/reflectlite.Value).Len"], unfollowed := true, recurses := true, apart := false }
def FnExactLiveTellSaid : Prop := fnExactLiveTellRow.holds Try.pinned (OpenSpec.ofChange fnExactLiveTellSpec)

/-- ITS FALSE NEIGHBOUR: 'it returns false'. Refute it at one input. -/
def fnExactLiveTellWrong : ChangeSpec := { name := "fnExactLiveTell", fn := fun _ => fun
  | [d1, d2] => { results := [.lit (.bool false)], args := [d1, d2] }
  | _ => none }
def FnExactLiveTellWrongFalsely : Prop := fnExactLiveTellRow.holds Try.pinned (OpenSpec.ofChange fnExactLiveTellWrong)

/-- 'laws.FnExactLiveOver': WHATEVER THE INPUT: true; the input reads as it did. -/
def fnExactLiveOverSpec : ChangeSpec := { name := "fnExactLiveOver", fn := fun _ => fun
  | [d1, d2] => { results := [.lit (.bool true)], args := [d1, d2] }
  | _ => none }
def fnExactLiveOverRow : OpenClaim := { program := "ytaojognjkiifmab", sum := "e0c82108ac47c1b62bae299c33adc3c1edd773bd341ec560969b9593c0e02d5c", func := "loop.example/waymark/laws.FnExactLiveOver", spec := "fnExactLiveOver", inPlace := ["internal/reflectlite.ValueOf", "internal/reflectlite.Swapper", "(internal/reflectlite.Value).Len"], unfollowed := true, recurses := true, apart := false }
def FnExactLiveOverSaid : Prop := fnExactLiveOverRow.holds Try.pinned (OpenSpec.ofChange fnExactLiveOverSpec)

/-- ITS FALSE NEIGHBOUR: 'it returns false'. Refute it at one input. -/
def fnExactLiveOverWrong : ChangeSpec := { name := "fnExactLiveOver", fn := fun _ => fun
  | [d1, d2] => { results := [.lit (.bool false)], args := [d1, d2] }
  | _ => none }
def FnExactLiveOverWrongFalsely : Prop := fnExactLiveOverRow.holds Try.pinned (OpenSpec.ofChange fnExactLiveOverWrong)

/-- 'laws.FnLiveTell': WHATEVER THE INPUT: true; the input reads as it did. -/
def fnLiveTellSpec : ChangeSpec := { name := "fnLiveTell", fn := fun _ => fun
  | [d] => { results := [.lit (.bool true)], args := [d] }
  | _ => none }
def fnLiveTellRow : OpenClaim := { program := "ytaojognjkiifmab", sum := "e0c82108ac47c1b62bae299c33adc3c1edd773bd341ec560969b9593c0e02d5c", func := "loop.example/waymark/laws.FnLiveTell", spec := "fnLiveTell", inPlace := ["internal/reflectlite.ValueOf", "internal/reflectlite.Swapper", "(internal/reflectlite.Value).Len"], unfollowed := true, recurses := true, apart := false }
def FnLiveTellSaid : Prop := fnLiveTellRow.holds Try.pinned (OpenSpec.ofChange fnLiveTellSpec)

/-- ITS FALSE NEIGHBOUR: 'it returns false'. Refute it at one input. -/
def fnLiveTellWrong : ChangeSpec := { name := "fnLiveTell", fn := fun _ => fun
  | [d] => { results := [.lit (.bool false)], args := [d] }
  | _ => none }
def FnLiveTellWrongFalsely : Prop := fnLiveTellRow.holds Try.pinned (OpenSpec.ofChange fnLiveTellWrong)

/-- 'laws.FnLiveOver': WHATEVER THE INPUT: true; the input reads as it did. -/
def fnLiveOverSpec : ChangeSpec := { name := "fnLiveOver", fn := fun _ => fun
  | [d] => { results := [.lit (.bool true)], args := [d] }
  | _ => none }
def fnLiveOverRow : OpenClaim := { program := "ytaojognjkiifmab", sum := "e0c82108ac47c1b62bae299c33adc3c1edd773bd341ec560969b9593c0e02d5c", func := "loop.example/waymark/laws.FnLiveOver", spec := "fnLiveOver", inPlace := ["internal/reflectlite.ValueOf", "internal/reflectlite.Swapper", "(internal/reflectlite.Value).Len"], unfollowed := true, recurses := true, apart := false }
def FnLiveOverSaid : Prop := fnLiveOverRow.holds Try.pinned (OpenSpec.ofChange fnLiveOverSpec)

/-- ITS FALSE NEIGHBOUR: 'it returns false'. Refute it at one input. -/
def fnLiveOverWrong : ChangeSpec := { name := "fnLiveOver", fn := fun _ => fun
  | [d] => { results := [.lit (.bool false)], args := [d] }
  | _ => none }
def FnLiveOverWrongFalsely : Prop := fnLiveOverRow.holds Try.pinned (OpenSpec.ofChange fnLiveOverWrong)

/-- 'laws.FnLiveOrder': WHATEVER THE INPUT: true; the input reads as it did. -/
def fnLiveOrderSpec : ChangeSpec := { name := "fnLiveOrder", fn := fun _ => fun
  | [d1, d2] => { results := [.lit (.bool true)], args := [d1, d2] }
  | _ => none }
def fnLiveOrderRow : OpenClaim := { program := "ytaojognjkiifmab", sum := "e0c82108ac47c1b62bae299c33adc3c1edd773bd341ec560969b9593c0e02d5c", func := "loop.example/waymark/laws.FnLiveOrder", spec := "fnLiveOrder", inPlace := ["internal/reflectlite.ValueOf", "internal/reflectlite.Swapper", "(internal/reflectlite.Value).Len"], unfollowed := true, recurses := true, apart := false }
def FnLiveOrderSaid : Prop := fnLiveOrderRow.holds Try.pinned (OpenSpec.ofChange fnLiveOrderSpec)

/-- ITS FALSE NEIGHBOUR: 'it returns false'. Refute it at one input. -/
def fnLiveOrderWrong : ChangeSpec := { name := "fnLiveOrder", fn := fun _ => fun
  | [d1, d2] => { results := [.lit (.bool false)], args := [d1, d2] }
  | _ => none }
def FnLiveOrderWrongFalsely : Prop := fnLiveOrderRow.holds Try.pinned (OpenSpec.ofChange fnLiveOrderWrong)

/- THE SECOND FORM. 'bulk': how many values and letters a reading holds, each counted each time it is reached (what is shared counts as often as it is met; a slice's spare places count too). A statement '..UptoSaid' is the law's where the arguments, and the package variables that the reading takes, are together of bulk at most 1048576: NARROWER than '..Said'. Prove '..Said' where nothing that the law and all that it calls make is longer than what came in: it says more and counts as full. Else prove '..UptoSaid'. A law counts once. -/
mutual
def uptoBulk {H : Type} : DataW H → Nat
  | .lit (.string bytes) => bytes.length + 1
  | .lit _ => 1
  | .nil => 1
  | .ptr d => uptoBulk d + 1
  | .slice elems spare => uptoBulkAll elems + uptoBulkAll spare + 1
  | .agg parts => uptoBulkAll parts + 1
  | .iface _ d => uptoBulk d + 1
  | .map entries => uptoBulkEntries entries + 1
  | .held _ => 1
def uptoBulkAll {H : Type} : List (DataW H) → Nat
  | [] => 0
  | d :: r => uptoBulk d + uptoBulkAll r
def uptoBulkEntries {H : Type} : List (Lit × DataW H) → Nat
  | [] => 0
  | x :: r => uptoBulkEntry x + uptoBulkEntries r
def uptoBulkEntry {H : Type} : Lit × DataW H → Nat
  | (.string bytes, d) => bytes.length + uptoBulk d + 1
  | (_, d) => uptoBulk d + 1
 end
def uptoSmall : (H : Type) → List (DataW H) → Bool := fun _ ds => decide (uptoBulkAll ds ≤ 1048576)
def OpenSpec.upto (s : _root_.Go.ChangeSpec) : _root_.Go.OpenSpec := { _root_.Go.OpenSpec.ofChange s with cond := some uptoSmall }

/-- 'laws.FnLoadAll', WHERE WHAT IT READS IS OF BULK AT MOST 1048576: true; the input reads as it did. -/
def fnLoadAllUptoRow : OpenClaim := { program := "ytaojognjkiifmab", sum := "e0c82108ac47c1b62bae299c33adc3c1edd773bd341ec560969b9593c0e02d5c", func := "loop.example/waymark/laws.FnLoadAll", spec := "fnLoadAll", unfollowed := true, recurses := true, apart := false, narrowed := true }
def FnLoadAllUptoSaid : Prop := fnLoadAllUptoRow.holds Try.pinned (OpenSpec.upto fnLoadAllSpec)

/-- 'laws.FnLoadWalk', WHERE WHAT IT READS IS OF BULK AT MOST 1048576: true; the input reads as it did. -/
def fnLoadWalkUptoRow : OpenClaim := { program := "ytaojognjkiifmab", sum := "e0c82108ac47c1b62bae299c33adc3c1edd773bd341ec560969b9593c0e02d5c", func := "loop.example/waymark/laws.FnLoadWalk", spec := "fnLoadWalk", unfollowed := true, recurses := true, apart := false, narrowed := true }
def FnLoadWalkUptoSaid : Prop := fnLoadWalkUptoRow.holds Try.pinned (OpenSpec.upto fnLoadWalkSpec)

/-- 'laws.FnExactLiveOk', WHERE WHAT IT READS IS OF BULK AT MOST 1048576: true; the input reads as it did. -/
def fnExactLiveOkUptoRow : OpenClaim := { program := "ytaojognjkiifmab", sum := "e0c82108ac47c1b62bae299c33adc3c1edd773bd341ec560969b9593c0e02d5c", func := "loop.example/waymark/laws.FnExactLiveOk", spec := "fnExactLiveOk", apart := false, narrowed := true }
def FnExactLiveOkUptoSaid : Prop := fnExactLiveOkUptoRow.holds Try.pinned (OpenSpec.upto fnExactLiveOkSpec)

/-- 'laws.FnExactLiveNow', WHERE WHAT IT READS IS OF BULK AT MOST 1048576: true; the input reads as it did. -/
def fnExactLiveNowUptoRow : OpenClaim := { program := "ytaojognjkiifmab", sum := "e0c82108ac47c1b62bae299c33adc3c1edd773bd341ec560969b9593c0e02d5c", func := "loop.example/waymark/laws.FnExactLiveNow", spec := "fnExactLiveNow", apart := false, narrowed := true }
def FnExactLiveNowUptoSaid : Prop := fnExactLiveNowUptoRow.holds Try.pinned (OpenSpec.upto fnExactLiveNowSpec)

/-- 'laws.FnExactLiveNear', WHERE WHAT IT READS IS OF BULK AT MOST 1048576: true; the input reads as it did. -/
def fnExactLiveNearUptoRow : OpenClaim := { program := "ytaojognjkiifmab", sum := "e0c82108ac47c1b62bae299c33adc3c1edd773bd341ec560969b9593c0e02d5c", func := "loop.example/waymark/laws.FnExactLiveNear", spec := "fnExactLiveNear", unfollowed := true, recurses := true, apart := false, narrowed := true }
def FnExactLiveNearUptoSaid : Prop := fnExactLiveNearUptoRow.holds Try.pinned (OpenSpec.upto fnExactLiveNearSpec)

/-- 'laws.FnLiveNow', WHERE WHAT IT READS IS OF BULK AT MOST 1048576: true; the input reads as it did. -/
def fnLiveNowUptoRow : OpenClaim := { program := "ytaojognjkiifmab", sum := "e0c82108ac47c1b62bae299c33adc3c1edd773bd341ec560969b9593c0e02d5c", func := "loop.example/waymark/laws.FnLiveNow", spec := "fnLiveNow", apart := false, narrowed := true }
def FnLiveNowUptoSaid : Prop := fnLiveNowUptoRow.holds Try.pinned (OpenSpec.upto fnLiveNowSpec)

/-- 'laws.FnLiveNear', WHERE WHAT IT READS IS OF BULK AT MOST 1048576: true; the input reads as it did. -/
def fnLiveNearUptoRow : OpenClaim := { program := "ytaojognjkiifmab", sum := "e0c82108ac47c1b62bae299c33adc3c1edd773bd341ec560969b9593c0e02d5c", func := "loop.example/waymark/laws.FnLiveNear", spec := "fnLiveNear", unfollowed := true, recurses := true, apart := false, narrowed := true }
def FnLiveNearUptoSaid : Prop := fnLiveNearUptoRow.holds Try.pinned (OpenSpec.upto fnLiveNearSpec)

/-- 'laws.FnExactLiveTell', WHERE WHAT IT READS IS OF BULK AT MOST 1048576: true; the input reads as it did. -/
def fnExactLiveTellUptoRow : OpenClaim := { program := "ytaojognjkiifmab", sum := "e0c82108ac47c1b62bae299c33adc3c1edd773bd341ec560969b9593c0e02d5c", func := "loop.example/waymark/laws.FnExactLiveTell", spec := "fnExactLiveTell", inPlace := ["internal/reflectlite.ValueOf", "internal/reflectlite.Swapper", "(internal/reflectlite.Value).Len"], unfollowed := true, recurses := true, apart := false, narrowed := true }
def FnExactLiveTellUptoSaid : Prop := fnExactLiveTellUptoRow.holds Try.pinned (OpenSpec.upto fnExactLiveTellSpec)

/-- 'laws.FnExactLiveOver', WHERE WHAT IT READS IS OF BULK AT MOST 1048576: true; the input reads as it did. -/
def fnExactLiveOverUptoRow : OpenClaim := { program := "ytaojognjkiifmab", sum := "e0c82108ac47c1b62bae299c33adc3c1edd773bd341ec560969b9593c0e02d5c", func := "loop.example/waymark/laws.FnExactLiveOver", spec := "fnExactLiveOver", inPlace := ["internal/reflectlite.ValueOf", "internal/reflectlite.Swapper", "(internal/reflectlite.Value).Len"], unfollowed := true, recurses := true, apart := false, narrowed := true }
def FnExactLiveOverUptoSaid : Prop := fnExactLiveOverUptoRow.holds Try.pinned (OpenSpec.upto fnExactLiveOverSpec)

/-- 'laws.FnLiveTell', WHERE WHAT IT READS IS OF BULK AT MOST 1048576: true; the input reads as it did. -/
def fnLiveTellUptoRow : OpenClaim := { program := "ytaojognjkiifmab", sum := "e0c82108ac47c1b62bae299c33adc3c1edd773bd341ec560969b9593c0e02d5c", func := "loop.example/waymark/laws.FnLiveTell", spec := "fnLiveTell", inPlace := ["internal/reflectlite.ValueOf", "internal/reflectlite.Swapper", "(internal/reflectlite.Value).Len"], unfollowed := true, recurses := true, apart := false, narrowed := true }
def FnLiveTellUptoSaid : Prop := fnLiveTellUptoRow.holds Try.pinned (OpenSpec.upto fnLiveTellSpec)

/-- 'laws.FnLiveOver', WHERE WHAT IT READS IS OF BULK AT MOST 1048576: true; the input reads as it did. -/
def fnLiveOverUptoRow : OpenClaim := { program := "ytaojognjkiifmab", sum := "e0c82108ac47c1b62bae299c33adc3c1edd773bd341ec560969b9593c0e02d5c", func := "loop.example/waymark/laws.FnLiveOver", spec := "fnLiveOver", inPlace := ["internal/reflectlite.ValueOf", "internal/reflectlite.Swapper", "(internal/reflectlite.Value).Len"], unfollowed := true, recurses := true, apart := false, narrowed := true }
def FnLiveOverUptoSaid : Prop := fnLiveOverUptoRow.holds Try.pinned (OpenSpec.upto fnLiveOverSpec)

/-- 'laws.FnLiveOrder', WHERE WHAT IT READS IS OF BULK AT MOST 1048576: true; the input reads as it did. -/
def fnLiveOrderUptoRow : OpenClaim := { program := "ytaojognjkiifmab", sum := "e0c82108ac47c1b62bae299c33adc3c1edd773bd341ec560969b9593c0e02d5c", func := "loop.example/waymark/laws.FnLiveOrder", spec := "fnLiveOrder", inPlace := ["internal/reflectlite.ValueOf", "internal/reflectlite.Swapper", "(internal/reflectlite.Value).Len"], unfollowed := true, recurses := true, apart := false, narrowed := true }
def FnLiveOrderUptoSaid : Prop := fnLiveOrderUptoRow.holds Try.pinned (OpenSpec.upto fnLiveOrderSpec)

end Rows
end Go.Proofs.Ytaojognjkiifmab
