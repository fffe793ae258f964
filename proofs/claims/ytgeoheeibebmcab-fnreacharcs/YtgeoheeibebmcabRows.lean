/-
  No cell of these rows narrows 'for every input' (looked for: loops, veiled, ifaces, maps, wideKeys, modest, calm, conditions, laid).
  DERIVED. THE GIVEN ROWS OF THIS SEAT. 12 by the template 'for every input the law returns true; each argument reads behind the call as it read before'; 0 by the template 'total and deterministic' (their statements: YtgeoheeibebmcabTotals.lean).
  GIVEN WITH THE SEED: the statements are not yours to turn. If you find one false, say at which input.
  Laid BY PROGRAM, IN A SANDBOX (cutbox-rows.mjs): the forced cells as the released guide's own fill.sh prints them over the translation e2956c48e990cadf… (all of the seat's roots in one cut). By AI agents, Wed Nov 11 2026. No macro, syntax, notation, axiom, sorry.
-/
import Derived.Test.YtgeoheeibebmcabChecked
import GoSem.Claim
import GoSem.ClaimJoined
import GoSem.ClaimMapViews
import Derived.JoinedTies
import Derived.KernelRfl
namespace Go.Proofs.Ytgeoheeibebmcab
/- THE CELL 'sum', in the pinned program and in every row, IS THE sha256 OF THE DUMP (.gsa) THAT YtgeoheeibebmcabProg.lean LOADS. Nothing in Lean hashes anything: it is a label: what it is worth is what the hold of that sum in a sandbox is worth. -/
noncomputable def Try.pinned : Pinned := { name := "ytgeoheeibebmcab", sum := "e2956c48e990cadf044bdca761a813466d33404bc55a94730f0f167f5f43c433", checked := Try.checked }
namespace Rows
def none {H : Type} : Left H := { results := [], args := [] }

/-- 'laws.FnReachIn': WHATEVER THE INPUT: true; the input reads as it did. -/
def fnReachInSpec : ChangeSpec := { name := "fnReachIn", fn := fun _ => fun
  | [d] => { results := [.lit (.bool true)], args := [d] }
  | _ => none }
def fnReachInRow : OpenClaim := { program := "ytgeoheeibebmcab", sum := "e2956c48e990cadf044bdca761a813466d33404bc55a94730f0f167f5f43c433", func := "loop.example/waymark/laws.FnReachIn", spec := "fnReachIn", unfollowed := true, recurses := true, apart := false }
def FnReachInSaid : Prop := fnReachInRow.holds Try.pinned (OpenSpec.ofChange fnReachInSpec)

/-- ITS FALSE NEIGHBOUR: 'it returns false'. Refute it at one input. -/
def fnReachInWrong : ChangeSpec := { name := "fnReachIn", fn := fun _ => fun
  | [d] => { results := [.lit (.bool false)], args := [d] }
  | _ => none }
def FnReachInWrongFalsely : Prop := fnReachInRow.holds Try.pinned (OpenSpec.ofChange fnReachInWrong)

/-- 'laws.FnReachArcs': WHATEVER THE INPUT: true; the input reads as it did. -/
def fnReachArcsSpec : ChangeSpec := { name := "fnReachArcs", fn := fun _ => fun
  | [d] => { results := [.lit (.bool true)], args := [d] }
  | _ => none }
def fnReachArcsRow : OpenClaim := { program := "ytgeoheeibebmcab", sum := "e2956c48e990cadf044bdca761a813466d33404bc55a94730f0f167f5f43c433", func := "loop.example/waymark/laws.FnReachArcs", spec := "fnReachArcs", unfollowed := true, recurses := true, apart := false }
def FnReachArcsSaid : Prop := fnReachArcsRow.holds Try.pinned (OpenSpec.ofChange fnReachArcsSpec)

/-- ITS FALSE NEIGHBOUR: 'it returns false'. Refute it at one input. -/
def fnReachArcsWrong : ChangeSpec := { name := "fnReachArcs", fn := fun _ => fun
  | [d] => { results := [.lit (.bool false)], args := [d] }
  | _ => none }
def FnReachArcsWrongFalsely : Prop := fnReachArcsRow.holds Try.pinned (OpenSpec.ofChange fnReachArcsWrong)

/-- 'laws.FnReachParts': WHATEVER THE INPUT: true; the input reads as it did. -/
def fnReachPartsSpec : ChangeSpec := { name := "fnReachParts", fn := fun _ => fun
  | [d] => { results := [.lit (.bool true)], args := [d] }
  | _ => none }
def fnReachPartsRow : OpenClaim := { program := "ytgeoheeibebmcab", sum := "e2956c48e990cadf044bdca761a813466d33404bc55a94730f0f167f5f43c433", func := "loop.example/waymark/laws.FnReachParts", spec := "fnReachParts", unfollowed := true, recurses := true, apart := false }
def FnReachPartsSaid : Prop := fnReachPartsRow.holds Try.pinned (OpenSpec.ofChange fnReachPartsSpec)

/-- ITS FALSE NEIGHBOUR: 'it returns false'. Refute it at one input. -/
def fnReachPartsWrong : ChangeSpec := { name := "fnReachParts", fn := fun _ => fun
  | [d] => { results := [.lit (.bool false)], args := [d] }
  | _ => none }
def FnReachPartsWrongFalsely : Prop := fnReachPartsRow.holds Try.pinned (OpenSpec.ofChange fnReachPartsWrong)

/-- 'laws.FnReachFar': WHATEVER THE INPUT: true; the input reads as it did. -/
def fnReachFarSpec : ChangeSpec := { name := "fnReachFar", fn := fun _ => fun
  | [d] => { results := [.lit (.bool true)], args := [d] }
  | _ => none }
def fnReachFarRow : OpenClaim := { program := "ytgeoheeibebmcab", sum := "e2956c48e990cadf044bdca761a813466d33404bc55a94730f0f167f5f43c433", func := "loop.example/waymark/laws.FnReachFar", spec := "fnReachFar", unfollowed := true, recurses := true, apart := false }
def FnReachFarSaid : Prop := fnReachFarRow.holds Try.pinned (OpenSpec.ofChange fnReachFarSpec)

/-- ITS FALSE NEIGHBOUR: 'it returns false'. Refute it at one input. -/
def fnReachFarWrong : ChangeSpec := { name := "fnReachFar", fn := fun _ => fun
  | [d] => { results := [.lit (.bool false)], args := [d] }
  | _ => none }
def FnReachFarWrongFalsely : Prop := fnReachFarRow.holds Try.pinned (OpenSpec.ofChange fnReachFarWrong)

/-- 'laws.FnMarkBound': WHATEVER THE INPUT: true; the input reads as it did. -/
def fnMarkBoundSpec : ChangeSpec := { name := "fnMarkBound", fn := fun _ => fun
  | [d] => { results := [.lit (.bool true)], args := [d] }
  | _ => none }
def fnMarkBoundRow : OpenClaim := { program := "ytgeoheeibebmcab", sum := "e2956c48e990cadf044bdca761a813466d33404bc55a94730f0f167f5f43c433", func := "loop.example/waymark/laws.FnMarkBound", spec := "fnMarkBound", unfollowed := true, recurses := true, apart := false }
def FnMarkBoundSaid : Prop := fnMarkBoundRow.holds Try.pinned (OpenSpec.ofChange fnMarkBoundSpec)

/-- ITS FALSE NEIGHBOUR: 'it returns false'. Refute it at one input. -/
def fnMarkBoundWrong : ChangeSpec := { name := "fnMarkBound", fn := fun _ => fun
  | [d] => { results := [.lit (.bool false)], args := [d] }
  | _ => none }
def FnMarkBoundWrongFalsely : Prop := fnMarkBoundRow.holds Try.pinned (OpenSpec.ofChange fnMarkBoundWrong)

/-- 'laws.FnMarkWay': WHATEVER THE INPUT: true; the input reads as it did. -/
def fnMarkWaySpec : ChangeSpec := { name := "fnMarkWay", fn := fun _ => fun
  | [d] => { results := [.lit (.bool true)], args := [d] }
  | _ => none }
def fnMarkWayRow : OpenClaim := { program := "ytgeoheeibebmcab", sum := "e2956c48e990cadf044bdca761a813466d33404bc55a94730f0f167f5f43c433", func := "loop.example/waymark/laws.FnMarkWay", spec := "fnMarkWay", unfollowed := true, recurses := true, apart := false }
def FnMarkWaySaid : Prop := fnMarkWayRow.holds Try.pinned (OpenSpec.ofChange fnMarkWaySpec)

/-- ITS FALSE NEIGHBOUR: 'it returns false'. Refute it at one input. -/
def fnMarkWayWrong : ChangeSpec := { name := "fnMarkWay", fn := fun _ => fun
  | [d] => { results := [.lit (.bool false)], args := [d] }
  | _ => none }
def FnMarkWayWrongFalsely : Prop := fnMarkWayRow.holds Try.pinned (OpenSpec.ofChange fnMarkWayWrong)

/-- 'laws.FnMarkNear': WHATEVER THE INPUT: true; the input reads as it did. -/
def fnMarkNearSpec : ChangeSpec := { name := "fnMarkNear", fn := fun _ => fun
  | [d] => { results := [.lit (.bool true)], args := [d] }
  | _ => none }
def fnMarkNearRow : OpenClaim := { program := "ytgeoheeibebmcab", sum := "e2956c48e990cadf044bdca761a813466d33404bc55a94730f0f167f5f43c433", func := "loop.example/waymark/laws.FnMarkNear", spec := "fnMarkNear", unfollowed := true, recurses := true, apart := false }
def FnMarkNearSaid : Prop := fnMarkNearRow.holds Try.pinned (OpenSpec.ofChange fnMarkNearSpec)

/-- ITS FALSE NEIGHBOUR: 'it returns false'. Refute it at one input. -/
def fnMarkNearWrong : ChangeSpec := { name := "fnMarkNear", fn := fun _ => fun
  | [d] => { results := [.lit (.bool false)], args := [d] }
  | _ => none }
def FnMarkNearWrongFalsely : Prop := fnMarkNearRow.holds Try.pinned (OpenSpec.ofChange fnMarkNearWrong)

/-- 'laws.FnMarkPick': WHATEVER THE INPUT: true; the input reads as it did. -/
def fnMarkPickSpec : ChangeSpec := { name := "fnMarkPick", fn := fun _ => fun
  | [d] => { results := [.lit (.bool true)], args := [d] }
  | _ => none }
def fnMarkPickRow : OpenClaim := { program := "ytgeoheeibebmcab", sum := "e2956c48e990cadf044bdca761a813466d33404bc55a94730f0f167f5f43c433", func := "loop.example/waymark/laws.FnMarkPick", spec := "fnMarkPick", unfollowed := true, recurses := true, apart := false }
def FnMarkPickSaid : Prop := fnMarkPickRow.holds Try.pinned (OpenSpec.ofChange fnMarkPickSpec)

/-- ITS FALSE NEIGHBOUR: 'it returns false'. Refute it at one input. -/
def fnMarkPickWrong : ChangeSpec := { name := "fnMarkPick", fn := fun _ => fun
  | [d] => { results := [.lit (.bool false)], args := [d] }
  | _ => none }
def FnMarkPickWrongFalsely : Prop := fnMarkPickRow.holds Try.pinned (OpenSpec.ofChange fnMarkPickWrong)

/-- 'laws.FnSomeShare': WHATEVER THE INPUT: true; the input reads as it did. -/
def fnSomeShareSpec : ChangeSpec := { name := "fnSomeShare", fn := fun _ => fun
  | [d1, d2] => { results := [.lit (.bool true)], args := [d1, d2] }
  | _ => none }
def fnSomeShareRow : OpenClaim := { program := "ytgeoheeibebmcab", sum := "e2956c48e990cadf044bdca761a813466d33404bc55a94730f0f167f5f43c433", func := "loop.example/waymark/laws.FnSomeShare", spec := "fnSomeShare", apart := false }
def FnSomeShareSaid : Prop := fnSomeShareRow.holds Try.pinned (OpenSpec.ofChange fnSomeShareSpec)

/-- ITS FALSE NEIGHBOUR: 'it returns false'. Refute it at one input. -/
def fnSomeShareWrong : ChangeSpec := { name := "fnSomeShare", fn := fun _ => fun
  | [d1, d2] => { results := [.lit (.bool false)], args := [d1, d2] }
  | _ => none }
def FnSomeShareWrongFalsely : Prop := fnSomeShareRow.holds Try.pinned (OpenSpec.ofChange fnSomeShareWrong)

/-- 'laws.FnSeenCost': WHATEVER THE INPUT: true; the input reads as it did. -/
def fnSeenCostSpec : ChangeSpec := { name := "fnSeenCost", fn := fun _ => fun
  | [d] => { results := [.lit (.bool true)], args := [d] }
  | _ => none }
def fnSeenCostRow : OpenClaim := { program := "ytgeoheeibebmcab", sum := "e2956c48e990cadf044bdca761a813466d33404bc55a94730f0f167f5f43c433", func := "loop.example/waymark/laws.FnSeenCost", spec := "fnSeenCost", unfollowed := true, recurses := true, apart := false }
def FnSeenCostSaid : Prop := fnSeenCostRow.holds Try.pinned (OpenSpec.ofChange fnSeenCostSpec)

/-- ITS FALSE NEIGHBOUR: 'it returns false'. Refute it at one input. -/
def fnSeenCostWrong : ChangeSpec := { name := "fnSeenCost", fn := fun _ => fun
  | [d] => { results := [.lit (.bool false)], args := [d] }
  | _ => none }
def FnSeenCostWrongFalsely : Prop := fnSeenCostRow.holds Try.pinned (OpenSpec.ofChange fnSeenCostWrong)

/-- 'laws.FnSeenMore': WHATEVER THE INPUT: true; the input reads as it did. -/
def fnSeenMoreSpec : ChangeSpec := { name := "fnSeenMore", fn := fun _ => fun
  | [d] => { results := [.lit (.bool true)], args := [d] }
  | _ => none }
def fnSeenMoreRow : OpenClaim := { program := "ytgeoheeibebmcab", sum := "e2956c48e990cadf044bdca761a813466d33404bc55a94730f0f167f5f43c433", func := "loop.example/waymark/laws.FnSeenMore", spec := "fnSeenMore", unfollowed := true, recurses := true, apart := false }
def FnSeenMoreSaid : Prop := fnSeenMoreRow.holds Try.pinned (OpenSpec.ofChange fnSeenMoreSpec)

/-- ITS FALSE NEIGHBOUR: 'it returns false'. Refute it at one input. -/
def fnSeenMoreWrong : ChangeSpec := { name := "fnSeenMore", fn := fun _ => fun
  | [d] => { results := [.lit (.bool false)], args := [d] }
  | _ => none }
def FnSeenMoreWrongFalsely : Prop := fnSeenMoreRow.holds Try.pinned (OpenSpec.ofChange fnSeenMoreWrong)

/-- 'laws.FnSeenBest': WHATEVER THE INPUT: true; the input reads as it did. -/
def fnSeenBestSpec : ChangeSpec := { name := "fnSeenBest", fn := fun _ => fun
  | [d] => { results := [.lit (.bool true)], args := [d] }
  | _ => none }
def fnSeenBestRow : OpenClaim := { program := "ytgeoheeibebmcab", sum := "e2956c48e990cadf044bdca761a813466d33404bc55a94730f0f167f5f43c433", func := "loop.example/waymark/laws.FnSeenBest", spec := "fnSeenBest", unfollowed := true, recurses := true, apart := false }
def FnSeenBestSaid : Prop := fnSeenBestRow.holds Try.pinned (OpenSpec.ofChange fnSeenBestSpec)

/-- ITS FALSE NEIGHBOUR: 'it returns false'. Refute it at one input. -/
def fnSeenBestWrong : ChangeSpec := { name := "fnSeenBest", fn := fun _ => fun
  | [d] => { results := [.lit (.bool false)], args := [d] }
  | _ => none }
def FnSeenBestWrongFalsely : Prop := fnSeenBestRow.holds Try.pinned (OpenSpec.ofChange fnSeenBestWrong)

/- THE SECOND FORM. 'bulk': how many values and letters a reading holds, each counted each time it is reached (what is shared counts as often as it is met; a slice's spare places count too). A statement '..UptoSaid' is the law's where the arguments, and the package variables that the reading takes, are together of bulk at most 1048576: NARROWER than '..Said'. Prove '..Said' where nothing that the law and all that it calls make is longer than what came in: it says more and counts as full. Else prove '..UptoSaid'. A law counts once. -/
mutual
def uptoBulk {H : Type} : DataW H → Nat
  | .lit (.string bytes) => bytes.length + 1
  | .lit _ => 1
  | .nil => 1
  | .ptr d => uptoBulk d + 1
  | .slice elems spare => uptoBulkAll elems + uptoBulkAll spare + 1
  | .agg parts => uptoBulkAll parts + 1
  | .iface _ d => uptoBulk d + 1
  | .map entries => uptoBulkEntries entries + 1
  | .held _ => 1
def uptoBulkAll {H : Type} : List (DataW H) → Nat
  | [] => 0
  | d :: r => uptoBulk d + uptoBulkAll r
def uptoBulkEntries {H : Type} : List (Lit × DataW H) → Nat
  | [] => 0
  | x :: r => uptoBulkEntry x + uptoBulkEntries r
def uptoBulkEntry {H : Type} : Lit × DataW H → Nat
  | (.string bytes, d) => bytes.length + uptoBulk d + 1
  | (_, d) => uptoBulk d + 1
 end
def uptoSmall : (H : Type) → List (DataW H) → Bool := fun _ ds => decide (uptoBulkAll ds ≤ 1048576)
def OpenSpec.upto (s : _root_.Go.ChangeSpec) : _root_.Go.OpenSpec := { _root_.Go.OpenSpec.ofChange s with cond := some uptoSmall }

/-- 'laws.FnReachIn', WHERE WHAT IT READS IS OF BULK AT MOST 1048576: true; the input reads as it did. -/
def fnReachInUptoRow : OpenClaim := { program := "ytgeoheeibebmcab", sum := "e2956c48e990cadf044bdca761a813466d33404bc55a94730f0f167f5f43c433", func := "loop.example/waymark/laws.FnReachIn", spec := "fnReachIn", unfollowed := true, recurses := true, apart := false, narrowed := true }
def FnReachInUptoSaid : Prop := fnReachInUptoRow.holds Try.pinned (OpenSpec.upto fnReachInSpec)

/-- 'laws.FnReachArcs', WHERE WHAT IT READS IS OF BULK AT MOST 1048576: true; the input reads as it did. -/
def fnReachArcsUptoRow : OpenClaim := { program := "ytgeoheeibebmcab", sum := "e2956c48e990cadf044bdca761a813466d33404bc55a94730f0f167f5f43c433", func := "loop.example/waymark/laws.FnReachArcs", spec := "fnReachArcs", unfollowed := true, recurses := true, apart := false, narrowed := true }
def FnReachArcsUptoSaid : Prop := fnReachArcsUptoRow.holds Try.pinned (OpenSpec.upto fnReachArcsSpec)

/-- 'laws.FnReachParts', WHERE WHAT IT READS IS OF BULK AT MOST 1048576: true; the input reads as it did. -/
def fnReachPartsUptoRow : OpenClaim := { program := "ytgeoheeibebmcab", sum := "e2956c48e990cadf044bdca761a813466d33404bc55a94730f0f167f5f43c433", func := "loop.example/waymark/laws.FnReachParts", spec := "fnReachParts", unfollowed := true, recurses := true, apart := false, narrowed := true }
def FnReachPartsUptoSaid : Prop := fnReachPartsUptoRow.holds Try.pinned (OpenSpec.upto fnReachPartsSpec)

/-- 'laws.FnReachFar', WHERE WHAT IT READS IS OF BULK AT MOST 1048576: true; the input reads as it did. -/
def fnReachFarUptoRow : OpenClaim := { program := "ytgeoheeibebmcab", sum := "e2956c48e990cadf044bdca761a813466d33404bc55a94730f0f167f5f43c433", func := "loop.example/waymark/laws.FnReachFar", spec := "fnReachFar", unfollowed := true, recurses := true, apart := false, narrowed := true }
def FnReachFarUptoSaid : Prop := fnReachFarUptoRow.holds Try.pinned (OpenSpec.upto fnReachFarSpec)

/-- 'laws.FnMarkBound', WHERE WHAT IT READS IS OF BULK AT MOST 1048576: true; the input reads as it did. -/
def fnMarkBoundUptoRow : OpenClaim := { program := "ytgeoheeibebmcab", sum := "e2956c48e990cadf044bdca761a813466d33404bc55a94730f0f167f5f43c433", func := "loop.example/waymark/laws.FnMarkBound", spec := "fnMarkBound", unfollowed := true, recurses := true, apart := false, narrowed := true }
def FnMarkBoundUptoSaid : Prop := fnMarkBoundUptoRow.holds Try.pinned (OpenSpec.upto fnMarkBoundSpec)

/-- 'laws.FnMarkWay', WHERE WHAT IT READS IS OF BULK AT MOST 1048576: true; the input reads as it did. -/
def fnMarkWayUptoRow : OpenClaim := { program := "ytgeoheeibebmcab", sum := "e2956c48e990cadf044bdca761a813466d33404bc55a94730f0f167f5f43c433", func := "loop.example/waymark/laws.FnMarkWay", spec := "fnMarkWay", unfollowed := true, recurses := true, apart := false, narrowed := true }
def FnMarkWayUptoSaid : Prop := fnMarkWayUptoRow.holds Try.pinned (OpenSpec.upto fnMarkWaySpec)

/-- 'laws.FnMarkNear', WHERE WHAT IT READS IS OF BULK AT MOST 1048576: true; the input reads as it did. -/
def fnMarkNearUptoRow : OpenClaim := { program := "ytgeoheeibebmcab", sum := "e2956c48e990cadf044bdca761a813466d33404bc55a94730f0f167f5f43c433", func := "loop.example/waymark/laws.FnMarkNear", spec := "fnMarkNear", unfollowed := true, recurses := true, apart := false, narrowed := true }
def FnMarkNearUptoSaid : Prop := fnMarkNearUptoRow.holds Try.pinned (OpenSpec.upto fnMarkNearSpec)

/-- 'laws.FnMarkPick', WHERE WHAT IT READS IS OF BULK AT MOST 1048576: true; the input reads as it did. -/
def fnMarkPickUptoRow : OpenClaim := { program := "ytgeoheeibebmcab", sum := "e2956c48e990cadf044bdca761a813466d33404bc55a94730f0f167f5f43c433", func := "loop.example/waymark/laws.FnMarkPick", spec := "fnMarkPick", unfollowed := true, recurses := true, apart := false, narrowed := true }
def FnMarkPickUptoSaid : Prop := fnMarkPickUptoRow.holds Try.pinned (OpenSpec.upto fnMarkPickSpec)

/-- 'laws.FnSomeShare', WHERE WHAT IT READS IS OF BULK AT MOST 1048576: true; the input reads as it did. -/
def fnSomeShareUptoRow : OpenClaim := { program := "ytgeoheeibebmcab", sum := "e2956c48e990cadf044bdca761a813466d33404bc55a94730f0f167f5f43c433", func := "loop.example/waymark/laws.FnSomeShare", spec := "fnSomeShare", apart := false, narrowed := true }
def FnSomeShareUptoSaid : Prop := fnSomeShareUptoRow.holds Try.pinned (OpenSpec.upto fnSomeShareSpec)

/-- 'laws.FnSeenCost', WHERE WHAT IT READS IS OF BULK AT MOST 1048576: true; the input reads as it did. -/
def fnSeenCostUptoRow : OpenClaim := { program := "ytgeoheeibebmcab", sum := "e2956c48e990cadf044bdca761a813466d33404bc55a94730f0f167f5f43c433", func := "loop.example/waymark/laws.FnSeenCost", spec := "fnSeenCost", unfollowed := true, recurses := true, apart := false, narrowed := true }
def FnSeenCostUptoSaid : Prop := fnSeenCostUptoRow.holds Try.pinned (OpenSpec.upto fnSeenCostSpec)

/-- 'laws.FnSeenMore', WHERE WHAT IT READS IS OF BULK AT MOST 1048576: true; the input reads as it did. -/
def fnSeenMoreUptoRow : OpenClaim := { program := "ytgeoheeibebmcab", sum := "e2956c48e990cadf044bdca761a813466d33404bc55a94730f0f167f5f43c433", func := "loop.example/waymark/laws.FnSeenMore", spec := "fnSeenMore", unfollowed := true, recurses := true, apart := false, narrowed := true }
def FnSeenMoreUptoSaid : Prop := fnSeenMoreUptoRow.holds Try.pinned (OpenSpec.upto fnSeenMoreSpec)

/-- 'laws.FnSeenBest', WHERE WHAT IT READS IS OF BULK AT MOST 1048576: true; the input reads as it did. -/
def fnSeenBestUptoRow : OpenClaim := { program := "ytgeoheeibebmcab", sum := "e2956c48e990cadf044bdca761a813466d33404bc55a94730f0f167f5f43c433", func := "loop.example/waymark/laws.FnSeenBest", spec := "fnSeenBest", unfollowed := true, recurses := true, apart := false, narrowed := true }
def FnSeenBestUptoSaid : Prop := fnSeenBestUptoRow.holds Try.pinned (OpenSpec.upto fnSeenBestSpec)

end Rows
end Go.Proofs.Ytgeoheeibebmcab
