/-
  No cell of these rows narrows 'for every input' (looked for: loops, veiled, ifaces, maps, wideKeys, modest, calm, conditions, laid).
  DERIVED. THE GIVEN ROWS OF THIS SEAT. 3 by the template 'for every input the law returns true; each argument reads behind the call as it read before'; 0 by the template 'total and deterministic' (their statements: YtifbigfkakappaaTotals.lean).
  GIVEN WITH THE SEED: the statements are not yours to turn. If you find one false, say at which input.
  Laid BY PROGRAM, IN A SANDBOX (cutbox-rows.mjs): the forced cells as the released guide's own fill.sh prints them over the translation f974a55f330acd0a… (all of the seat's roots in one cut). By AI agents, Wed Nov 11 2026. No macro, syntax, notation, axiom, sorry.
-/
import Derived.Test.YtifbigfkakappaaChecked
import GoSem.Claim
import GoSem.ClaimJoined
import GoSem.ClaimMapViews
import Derived.JoinedTies
import Derived.KernelRfl
namespace Go.Proofs.Ytifbigfkakappaa
/- THE CELL 'sum', in the pinned program and in every row, IS THE sha256 OF THE DUMP (.gsa) THAT YtifbigfkakappaaProg.lean LOADS. Nothing in Lean hashes anything: it is a label: what it is worth is what the hold of that sum in a sandbox is worth. -/
noncomputable def Try.pinned : Pinned := { name := "ytifbigfkakappaa", sum := "f974a55f330acd0a88d47e624c4e99302fd7a26c8efde17a42bbe792c735b1c1", checked := Try.checked }
namespace Rows
def none {H : Type} : Left H := { results := [], args := [] }

/-- 'laws.FnReachFar': WHATEVER THE INPUT: true; the input reads as it did. -/
def fnReachFarSpec : ChangeSpec := { name := "fnReachFar", fn := fun _ => fun
  | [d] => { results := [.lit (.bool true)], args := [d] }
  | _ => none }
def fnReachFarRow : OpenClaim := { program := "ytifbigfkakappaa", sum := "f974a55f330acd0a88d47e624c4e99302fd7a26c8efde17a42bbe792c735b1c1", func := "loop.example/waymark/laws.FnReachFar", spec := "fnReachFar", unfollowed := true, recurses := true, apart := false }
def FnReachFarSaid : Prop := fnReachFarRow.holds Try.pinned (OpenSpec.ofChange fnReachFarSpec)

/-- ITS FALSE NEIGHBOUR: 'it returns false'. Refute it at one input. -/
def fnReachFarWrong : ChangeSpec := { name := "fnReachFar", fn := fun _ => fun
  | [d] => { results := [.lit (.bool false)], args := [d] }
  | _ => none }
def FnReachFarWrongFalsely : Prop := fnReachFarRow.holds Try.pinned (OpenSpec.ofChange fnReachFarWrong)

/-- 'laws.FnExactTourCost': WHATEVER THE INPUT: true; the input reads as it did. -/
def fnExactTourCostSpec : ChangeSpec := { name := "fnExactTourCost", fn := fun _ => fun
  | [d1, d2] => { results := [.lit (.bool true)], args := [d1, d2] }
  | _ => none }
def fnExactTourCostRow : OpenClaim := { program := "ytifbigfkakappaa", sum := "f974a55f330acd0a88d47e624c4e99302fd7a26c8efde17a42bbe792c735b1c1", func := "loop.example/waymark/laws.FnExactTourCost", spec := "fnExactTourCost", unfollowed := true, recurses := true, apart := false }
def FnExactTourCostSaid : Prop := fnExactTourCostRow.holds Try.pinned (OpenSpec.ofChange fnExactTourCostSpec)

/-- ITS FALSE NEIGHBOUR: 'it returns false'. Refute it at one input. -/
def fnExactTourCostWrong : ChangeSpec := { name := "fnExactTourCost", fn := fun _ => fun
  | [d1, d2] => { results := [.lit (.bool false)], args := [d1, d2] }
  | _ => none }
def FnExactTourCostWrongFalsely : Prop := fnExactTourCostRow.holds Try.pinned (OpenSpec.ofChange fnExactTourCostWrong)

/-- 'laws.FnExactTourNear': WHATEVER THE INPUT: true; the input reads as it did. -/
def fnExactTourNearSpec : ChangeSpec := { name := "fnExactTourNear", fn := fun _ => fun
  | [d1, d2] => { results := [.lit (.bool true)], args := [d1, d2] }
  | _ => none }
def fnExactTourNearRow : OpenClaim := { program := "ytifbigfkakappaa", sum := "f974a55f330acd0a88d47e624c4e99302fd7a26c8efde17a42bbe792c735b1c1", func := "loop.example/waymark/laws.FnExactTourNear", spec := "fnExactTourNear", unfollowed := true, recurses := true, apart := false }
def FnExactTourNearSaid : Prop := fnExactTourNearRow.holds Try.pinned (OpenSpec.ofChange fnExactTourNearSpec)

/-- ITS FALSE NEIGHBOUR: 'it returns false'. Refute it at one input. -/
def fnExactTourNearWrong : ChangeSpec := { name := "fnExactTourNear", fn := fun _ => fun
  | [d1, d2] => { results := [.lit (.bool false)], args := [d1, d2] }
  | _ => none }
def FnExactTourNearWrongFalsely : Prop := fnExactTourNearRow.holds Try.pinned (OpenSpec.ofChange fnExactTourNearWrong)

/- THE SECOND FORM. 'bulk': how many values and letters a reading holds, each counted each time it is reached (what is shared counts as often as it is met; a slice's spare places count too). A statement '..UptoSaid' is the law's where the arguments, and the package variables that the reading takes, are together of bulk at most 1048576: NARROWER than '..Said'. Prove '..Said' where nothing that the law and all that it calls make is longer than what came in: it says more and counts as full. Else prove '..UptoSaid'. A law counts once. -/
mutual
def uptoBulk {H : Type} : DataW H → Nat
  | .lit (.string bytes) => bytes.length + 1
  | .lit _ => 1
  | .nil => 1
  | .ptr d => uptoBulk d + 1
  | .slice elems spare => uptoBulkAll elems + uptoBulkAll spare + 1
  | .agg parts => uptoBulkAll parts + 1
  | .iface _ d => uptoBulk d + 1
  | .map entries => uptoBulkEntries entries + 1
  | .held _ => 1
def uptoBulkAll {H : Type} : List (DataW H) → Nat
  | [] => 0
  | d :: r => uptoBulk d + uptoBulkAll r
def uptoBulkEntries {H : Type} : List (Lit × DataW H) → Nat
  | [] => 0
  | x :: r => uptoBulkEntry x + uptoBulkEntries r
def uptoBulkEntry {H : Type} : Lit × DataW H → Nat
  | (.string bytes, d) => bytes.length + uptoBulk d + 1
  | (_, d) => uptoBulk d + 1
 end
def uptoSmall : (H : Type) → List (DataW H) → Bool := fun _ ds => decide (uptoBulkAll ds ≤ 1048576)
def OpenSpec.upto (s : _root_.Go.ChangeSpec) : _root_.Go.OpenSpec := { _root_.Go.OpenSpec.ofChange s with cond := some uptoSmall }

/-- 'laws.FnReachFar', WHERE WHAT IT READS IS OF BULK AT MOST 1048576: true; the input reads as it did. -/
def fnReachFarUptoRow : OpenClaim := { program := "ytifbigfkakappaa", sum := "f974a55f330acd0a88d47e624c4e99302fd7a26c8efde17a42bbe792c735b1c1", func := "loop.example/waymark/laws.FnReachFar", spec := "fnReachFar", unfollowed := true, recurses := true, apart := false, narrowed := true }
def FnReachFarUptoSaid : Prop := fnReachFarUptoRow.holds Try.pinned (OpenSpec.upto fnReachFarSpec)

/-- 'laws.FnExactTourCost', WHERE WHAT IT READS IS OF BULK AT MOST 1048576: true; the input reads as it did. -/
def fnExactTourCostUptoRow : OpenClaim := { program := "ytifbigfkakappaa", sum := "f974a55f330acd0a88d47e624c4e99302fd7a26c8efde17a42bbe792c735b1c1", func := "loop.example/waymark/laws.FnExactTourCost", spec := "fnExactTourCost", unfollowed := true, recurses := true, apart := false, narrowed := true }
def FnExactTourCostUptoSaid : Prop := fnExactTourCostUptoRow.holds Try.pinned (OpenSpec.upto fnExactTourCostSpec)

/-- 'laws.FnExactTourNear', WHERE WHAT IT READS IS OF BULK AT MOST 1048576: true; the input reads as it did. -/
def fnExactTourNearUptoRow : OpenClaim := { program := "ytifbigfkakappaa", sum := "f974a55f330acd0a88d47e624c4e99302fd7a26c8efde17a42bbe792c735b1c1", func := "loop.example/waymark/laws.FnExactTourNear", spec := "fnExactTourNear", unfollowed := true, recurses := true, apart := false, narrowed := true }
def FnExactTourNearUptoSaid : Prop := fnExactTourNearUptoRow.holds Try.pinned (OpenSpec.upto fnExactTourNearSpec)

end Rows
end Go.Proofs.Ytifbigfkakappaa
