/-
  No cell of these rows narrows 'for every input' (looked for: loops, veiled, ifaces, maps, wideKeys, modest, calm, conditions, laid).
  DERIVED. THE GIVEN ROWS OF THIS SEAT. 6 by the template 'for every input the law returns true; each argument reads behind the call as it read before'; 0 by the template 'total and deterministic' (their statements: YteemckhfkgmolaaTotals.lean).
  GIVEN WITH THE SEED: the statements are not yours to turn. If you find one false, say at which input.
  Laid BY PROGRAM, IN A SANDBOX (cutbox-rows.mjs): the forced cells as the released guide's own fill.sh prints them over the translation 54f9a188cea257e7… (all of the seat's roots in one cut). By AI agents, Wed Nov 11 2026. No macro, syntax, notation, axiom, sorry.
-/
import Derived.Test.YteemckhfkgmolaaChecked
import GoSem.Claim
import GoSem.ClaimJoined
import GoSem.ClaimMapViews
import Derived.JoinedTies
import Derived.KernelRfl
namespace Go.Proofs.Yteemckhfkgmolaa
/- THE CELL 'sum', in the pinned program and in every row, IS THE sha256 OF THE DUMP (.gsa) THAT YteemckhfkgmolaaProg.lean LOADS. Nothing in Lean hashes anything: it is a label: what it is worth is what the hold of that sum in a sandbox is worth. -/
noncomputable def Try.pinned : Pinned := { name := "yteemckhfkgmolaa", sum := "54f9a188cea257e7eff34a68955abf0d841d99ed4512b2cce2faebf62b2121e1", checked := Try.checked }
namespace Rows
def none {H : Type} : Left H := { results := [], args := [] }

/-- 'laws.FnCostLift': WHATEVER THE INPUT: true; the input reads as it did. -/
def fnCostLiftSpec : ChangeSpec := { name := "fnCostLift", fn := fun _ => fun
  | [d] => { results := [.lit (.bool true)], args := [d] }
  | _ => none }
def fnCostLiftRow : OpenClaim := { program := "yteemckhfkgmolaa", sum := "54f9a188cea257e7eff34a68955abf0d841d99ed4512b2cce2faebf62b2121e1", func := "loop.example/waymark/laws.FnCostLift", spec := "fnCostLift", unfollowed := true, recurses := true, plainKeys := false, apart := false }
def FnCostLiftSaid : Prop := fnCostLiftRow.holds Try.pinned (OpenSpec.ofChange fnCostLiftSpec)

/-- ITS FALSE NEIGHBOUR: 'it returns false'. Refute it at one input. -/
def fnCostLiftWrong : ChangeSpec := { name := "fnCostLift", fn := fun _ => fun
  | [d] => { results := [.lit (.bool false)], args := [d] }
  | _ => none }
def FnCostLiftWrongFalsely : Prop := fnCostLiftRow.holds Try.pinned (OpenSpec.ofChange fnCostLiftWrong)

/-- 'laws.FnExactNetBack': WHATEVER THE INPUT: true; the input reads as it did. -/
def fnExactNetBackSpec : ChangeSpec := { name := "fnExactNetBack", fn := fun _ => fun
  | [d] => { results := [.lit (.bool true)], args := [d] }
  | _ => none }
def fnExactNetBackRow : OpenClaim := { program := "yteemckhfkgmolaa", sum := "54f9a188cea257e7eff34a68955abf0d841d99ed4512b2cce2faebf62b2121e1", func := "loop.example/waymark/laws.FnExactNetBack", spec := "fnExactNetBack", plainKeys := false, apart := false }
def FnExactNetBackSaid : Prop := fnExactNetBackRow.holds Try.pinned (OpenSpec.ofChange fnExactNetBackSpec)

/-- ITS FALSE NEIGHBOUR: 'it returns false'. Refute it at one input. -/
def fnExactNetBackWrong : ChangeSpec := { name := "fnExactNetBack", fn := fun _ => fun
  | [d] => { results := [.lit (.bool false)], args := [d] }
  | _ => none }
def FnExactNetBackWrongFalsely : Prop := fnExactNetBackRow.holds Try.pinned (OpenSpec.ofChange fnExactNetBackWrong)

/-- 'laws.FnExactNearAll': WHATEVER THE INPUT: true; the input reads as it did. -/
def fnExactNearAllSpec : ChangeSpec := { name := "fnExactNearAll", fn := fun _ => fun
  | [d1, d2] => { results := [.lit (.bool true)], args := [d1, d2] }
  | _ => none }
def fnExactNearAllRow : OpenClaim := { program := "yteemckhfkgmolaa", sum := "54f9a188cea257e7eff34a68955abf0d841d99ed4512b2cce2faebf62b2121e1", func := "loop.example/waymark/laws.FnExactNearAll", spec := "fnExactNearAll", unfollowed := true, recurses := true, plainKeys := false, apart := false }
def FnExactNearAllSaid : Prop := fnExactNearAllRow.holds Try.pinned (OpenSpec.ofChange fnExactNearAllSpec)

/-- ITS FALSE NEIGHBOUR: 'it returns false'. Refute it at one input. -/
def fnExactNearAllWrong : ChangeSpec := { name := "fnExactNearAll", fn := fun _ => fun
  | [d1, d2] => { results := [.lit (.bool false)], args := [d1, d2] }
  | _ => none }
def FnExactNearAllWrongFalsely : Prop := fnExactNearAllRow.holds Try.pinned (OpenSpec.ofChange fnExactNearAllWrong)

/-- 'laws.FnExactManyNear': WHATEVER THE INPUT: true; the input reads as it did. -/
def fnExactManyNearSpec : ChangeSpec := { name := "fnExactManyNear", fn := fun _ => fun
  | [d1, d2, d3] => { results := [.lit (.bool true)], args := [d1, d2, d3] }
  | _ => none }
def fnExactManyNearRow : OpenClaim := { program := "yteemckhfkgmolaa", sum := "54f9a188cea257e7eff34a68955abf0d841d99ed4512b2cce2faebf62b2121e1", func := "loop.example/waymark/laws.FnExactManyNear", spec := "fnExactManyNear", unfollowed := true, recurses := true, plainKeys := false, apart := false }
def FnExactManyNearSaid : Prop := fnExactManyNearRow.holds Try.pinned (OpenSpec.ofChange fnExactManyNearSpec)

/-- ITS FALSE NEIGHBOUR: 'it returns false'. Refute it at one input. -/
def fnExactManyNearWrong : ChangeSpec := { name := "fnExactManyNear", fn := fun _ => fun
  | [d1, d2, d3] => { results := [.lit (.bool false)], args := [d1, d2, d3] }
  | _ => none }
def FnExactManyNearWrongFalsely : Prop := fnExactManyNearRow.holds Try.pinned (OpenSpec.ofChange fnExactManyNearWrong)

/-- 'laws.FnExactCostOf': WHATEVER THE INPUT: true; the input reads as it did. -/
def fnExactCostOfSpec : ChangeSpec := { name := "fnExactCostOf", fn := fun _ => fun
  | [d1, d2, d3] => { results := [.lit (.bool true)], args := [d1, d2, d3] }
  | _ => none }
def fnExactCostOfRow : OpenClaim := { program := "yteemckhfkgmolaa", sum := "54f9a188cea257e7eff34a68955abf0d841d99ed4512b2cce2faebf62b2121e1", func := "loop.example/waymark/laws.FnExactCostOf", spec := "fnExactCostOf", unfollowed := true, recurses := true, plainKeys := false, apart := false }
def FnExactCostOfSaid : Prop := fnExactCostOfRow.holds Try.pinned (OpenSpec.ofChange fnExactCostOfSpec)

/-- ITS FALSE NEIGHBOUR: 'it returns false'. Refute it at one input. -/
def fnExactCostOfWrong : ChangeSpec := { name := "fnExactCostOf", fn := fun _ => fun
  | [d1, d2, d3] => { results := [.lit (.bool false)], args := [d1, d2, d3] }
  | _ => none }
def FnExactCostOfWrongFalsely : Prop := fnExactCostOfRow.holds Try.pinned (OpenSpec.ofChange fnExactCostOfWrong)

/-- 'laws.FnExactTurnsOk': WHATEVER THE INPUT: true; the input reads as it did. -/
def fnExactTurnsOkSpec : ChangeSpec := { name := "fnExactTurnsOk", fn := fun _ => fun
  | [d1, d2] => { results := [.lit (.bool true)], args := [d1, d2] }
  | _ => none }
def fnExactTurnsOkRow : OpenClaim := { program := "yteemckhfkgmolaa", sum := "54f9a188cea257e7eff34a68955abf0d841d99ed4512b2cce2faebf62b2121e1", func := "loop.example/waymark/laws.FnExactTurnsOk", spec := "fnExactTurnsOk", plainKeys := false, apart := false }
def FnExactTurnsOkSaid : Prop := fnExactTurnsOkRow.holds Try.pinned (OpenSpec.ofChange fnExactTurnsOkSpec)

/-- ITS FALSE NEIGHBOUR: 'it returns false'. Refute it at one input. -/
def fnExactTurnsOkWrong : ChangeSpec := { name := "fnExactTurnsOk", fn := fun _ => fun
  | [d1, d2] => { results := [.lit (.bool false)], args := [d1, d2] }
  | _ => none }
def FnExactTurnsOkWrongFalsely : Prop := fnExactTurnsOkRow.holds Try.pinned (OpenSpec.ofChange fnExactTurnsOkWrong)

/- THE SECOND FORM. 'bulk': how many values and letters a reading holds, each counted each time it is reached (what is shared counts as often as it is met; a slice's spare places count too). A statement '..UptoSaid' is the law's where the arguments, and the package variables that the reading takes, are together of bulk at most 1048576: NARROWER than '..Said'. Prove '..Said' where nothing that the law and all that it calls make is longer than what came in: it says more and counts as full. Else prove '..UptoSaid'. A law counts once. -/
mutual
def uptoBulk {H : Type} : DataW H → Nat
  | .lit (.string bytes) => bytes.length + 1
  | .lit _ => 1
  | .nil => 1
  | .ptr d => uptoBulk d + 1
  | .slice elems spare => uptoBulkAll elems + uptoBulkAll spare + 1
  | .agg parts => uptoBulkAll parts + 1
  | .iface _ d => uptoBulk d + 1
  | .map entries => uptoBulkEntries entries + 1
  | .held _ => 1
def uptoBulkAll {H : Type} : List (DataW H) → Nat
  | [] => 0
  | d :: r => uptoBulk d + uptoBulkAll r
def uptoBulkEntries {H : Type} : List (Lit × DataW H) → Nat
  | [] => 0
  | x :: r => uptoBulkEntry x + uptoBulkEntries r
def uptoBulkEntry {H : Type} : Lit × DataW H → Nat
  | (.string bytes, d) => bytes.length + uptoBulk d + 1
  | (_, d) => uptoBulk d + 1
 end
def uptoSmall : (H : Type) → List (DataW H) → Bool := fun _ ds => decide (uptoBulkAll ds ≤ 1048576)
def OpenSpec.upto (s : _root_.Go.ChangeSpec) : _root_.Go.OpenSpec := { _root_.Go.OpenSpec.ofChange s with cond := some uptoSmall }

/-- 'laws.FnCostLift', WHERE WHAT IT READS IS OF BULK AT MOST 1048576: true; the input reads as it did. -/
def fnCostLiftUptoRow : OpenClaim := { program := "yteemckhfkgmolaa", sum := "54f9a188cea257e7eff34a68955abf0d841d99ed4512b2cce2faebf62b2121e1", func := "loop.example/waymark/laws.FnCostLift", spec := "fnCostLift", unfollowed := true, recurses := true, plainKeys := false, apart := false, narrowed := true }
def FnCostLiftUptoSaid : Prop := fnCostLiftUptoRow.holds Try.pinned (OpenSpec.upto fnCostLiftSpec)

/-- 'laws.FnExactNetBack', WHERE WHAT IT READS IS OF BULK AT MOST 1048576: true; the input reads as it did. -/
def fnExactNetBackUptoRow : OpenClaim := { program := "yteemckhfkgmolaa", sum := "54f9a188cea257e7eff34a68955abf0d841d99ed4512b2cce2faebf62b2121e1", func := "loop.example/waymark/laws.FnExactNetBack", spec := "fnExactNetBack", plainKeys := false, apart := false, narrowed := true }
def FnExactNetBackUptoSaid : Prop := fnExactNetBackUptoRow.holds Try.pinned (OpenSpec.upto fnExactNetBackSpec)

/-- 'laws.FnExactNearAll', WHERE WHAT IT READS IS OF BULK AT MOST 1048576: true; the input reads as it did. -/
def fnExactNearAllUptoRow : OpenClaim := { program := "yteemckhfkgmolaa", sum := "54f9a188cea257e7eff34a68955abf0d841d99ed4512b2cce2faebf62b2121e1", func := "loop.example/waymark/laws.FnExactNearAll", spec := "fnExactNearAll", unfollowed := true, recurses := true, plainKeys := false, apart := false, narrowed := true }
def FnExactNearAllUptoSaid : Prop := fnExactNearAllUptoRow.holds Try.pinned (OpenSpec.upto fnExactNearAllSpec)

/-- 'laws.FnExactManyNear', WHERE WHAT IT READS IS OF BULK AT MOST 1048576: true; the input reads as it did. -/
def fnExactManyNearUptoRow : OpenClaim := { program := "yteemckhfkgmolaa", sum := "54f9a188cea257e7eff34a68955abf0d841d99ed4512b2cce2faebf62b2121e1", func := "loop.example/waymark/laws.FnExactManyNear", spec := "fnExactManyNear", unfollowed := true, recurses := true, plainKeys := false, apart := false, narrowed := true }
def FnExactManyNearUptoSaid : Prop := fnExactManyNearUptoRow.holds Try.pinned (OpenSpec.upto fnExactManyNearSpec)

/-- 'laws.FnExactCostOf', WHERE WHAT IT READS IS OF BULK AT MOST 1048576: true; the input reads as it did. -/
def fnExactCostOfUptoRow : OpenClaim := { program := "yteemckhfkgmolaa", sum := "54f9a188cea257e7eff34a68955abf0d841d99ed4512b2cce2faebf62b2121e1", func := "loop.example/waymark/laws.FnExactCostOf", spec := "fnExactCostOf", unfollowed := true, recurses := true, plainKeys := false, apart := false, narrowed := true }
def FnExactCostOfUptoSaid : Prop := fnExactCostOfUptoRow.holds Try.pinned (OpenSpec.upto fnExactCostOfSpec)

/-- 'laws.FnExactTurnsOk', WHERE WHAT IT READS IS OF BULK AT MOST 1048576: true; the input reads as it did. -/
def fnExactTurnsOkUptoRow : OpenClaim := { program := "yteemckhfkgmolaa", sum := "54f9a188cea257e7eff34a68955abf0d841d99ed4512b2cce2faebf62b2121e1", func := "loop.example/waymark/laws.FnExactTurnsOk", spec := "fnExactTurnsOk", plainKeys := false, apart := false, narrowed := true }
def FnExactTurnsOkUptoSaid : Prop := fnExactTurnsOkUptoRow.holds Try.pinned (OpenSpec.upto fnExactTurnsOkSpec)

end Rows
end Go.Proofs.Yteemckhfkgmolaa
