/-
  No cell of these rows narrows 'for every input' (looked for: loops, veiled, ifaces, maps, wideKeys, modest, calm, conditions, laid).
  DERIVED. THE GIVEN ROWS OF THIS SEAT. 12 by the template 'for every input the law returns true; each argument reads behind the call as it read before'; 0 by the template 'total and deterministic' (their statements: YtaojognjkiifmacTotals.lean).
  GIVEN WITH THE SEED: the statements are not yours to turn. If you find one false, say at which input.
  Laid BY PROGRAM, IN A SANDBOX (cutbox-rows.mjs): the forced cells as the released guide's own fill.sh prints them over the translation 2d3b9521fca259e5… (all of the seat's roots in one cut). By AI agents, Wed Nov 11 2026. No macro, syntax, notation, axiom, sorry.
-/
import Derived.Test.YtaojognjkiifmacChecked
import GoSem.Claim
import GoSem.ClaimJoined
import GoSem.ClaimMapViews
import Derived.JoinedTies
import Derived.KernelRfl
namespace Go.Proofs.Ytaojognjkiifmac
/- THE CELL 'sum', in the pinned program and in every row, IS THE sha256 OF THE DUMP (.gsa) THAT YtaojognjkiifmacProg.lean LOADS. Nothing in Lean hashes anything: it is a label: what it is worth is what the hold of that sum in a sandbox is worth. -/
noncomputable def Try.pinned : Pinned := { name := "ytaojognjkiifmac", sum := "2d3b9521fca259e54acceb16e55a3dea54e149cf85cc2ce14015dce4d83923fb", checked := Try.checked }
namespace Rows
def none {H : Type} : Left H := { results := [], args := [] }

/-- 'laws.FnExactTourCost': WHATEVER THE INPUT: true; the input reads as it did. -/
def fnExactTourCostSpec : ChangeSpec := { name := "fnExactTourCost", fn := fun _ => fun
  | [d1, d2] => { results := [.lit (.bool true)], args := [d1, d2] }
  | _ => none }
def fnExactTourCostRow : OpenClaim := { program := "ytaojognjkiifmac", sum := "2d3b9521fca259e54acceb16e55a3dea54e149cf85cc2ce14015dce4d83923fb", func := "loop.example/waymark/laws.FnExactTourCost", spec := "fnExactTourCost", unfollowed := true, recurses := true, apart := false }
def FnExactTourCostSaid : Prop := fnExactTourCostRow.holds Try.pinned (OpenSpec.ofChange fnExactTourCostSpec)

/-- ITS FALSE NEIGHBOUR: 'it returns false'. Refute it at one input. -/
def fnExactTourCostWrong : ChangeSpec := { name := "fnExactTourCost", fn := fun _ => fun
  | [d1, d2] => { results := [.lit (.bool false)], args := [d1, d2] }
  | _ => none }
def FnExactTourCostWrongFalsely : Prop := fnExactTourCostRow.holds Try.pinned (OpenSpec.ofChange fnExactTourCostWrong)

/-- 'laws.FnTourCost': WHATEVER THE INPUT: true; the input reads as it did. -/
def fnTourCostSpec : ChangeSpec := { name := "fnTourCost", fn := fun _ => fun
  | [d] => { results := [.lit (.bool true)], args := [d] }
  | _ => none }
def fnTourCostRow : OpenClaim := { program := "ytaojognjkiifmac", sum := "2d3b9521fca259e54acceb16e55a3dea54e149cf85cc2ce14015dce4d83923fb", func := "loop.example/waymark/laws.FnTourCost", spec := "fnTourCost", unfollowed := true, recurses := true, apart := false }
def FnTourCostSaid : Prop := fnTourCostRow.holds Try.pinned (OpenSpec.ofChange fnTourCostSpec)

/-- ITS FALSE NEIGHBOUR: 'it returns false'. Refute it at one input. -/
def fnTourCostWrong : ChangeSpec := { name := "fnTourCost", fn := fun _ => fun
  | [d] => { results := [.lit (.bool false)], args := [d] }
  | _ => none }
def FnTourCostWrongFalsely : Prop := fnTourCostRow.holds Try.pinned (OpenSpec.ofChange fnTourCostWrong)

/-- 'laws.FnExactTourNear': WHATEVER THE INPUT: true; the input reads as it did. -/
def fnExactTourNearSpec : ChangeSpec := { name := "fnExactTourNear", fn := fun _ => fun
  | [d1, d2] => { results := [.lit (.bool true)], args := [d1, d2] }
  | _ => none }
def fnExactTourNearRow : OpenClaim := { program := "ytaojognjkiifmac", sum := "2d3b9521fca259e54acceb16e55a3dea54e149cf85cc2ce14015dce4d83923fb", func := "loop.example/waymark/laws.FnExactTourNear", spec := "fnExactTourNear", unfollowed := true, recurses := true, apart := false }
def FnExactTourNearSaid : Prop := fnExactTourNearRow.holds Try.pinned (OpenSpec.ofChange fnExactTourNearSpec)

/-- ITS FALSE NEIGHBOUR: 'it returns false'. Refute it at one input. -/
def fnExactTourNearWrong : ChangeSpec := { name := "fnExactTourNear", fn := fun _ => fun
  | [d1, d2] => { results := [.lit (.bool false)], args := [d1, d2] }
  | _ => none }
def FnExactTourNearWrongFalsely : Prop := fnExactTourNearRow.holds Try.pinned (OpenSpec.ofChange fnExactTourNearWrong)

/-- 'laws.FnTourNear': WHATEVER THE INPUT: true; the input reads as it did. -/
def fnTourNearSpec : ChangeSpec := { name := "fnTourNear", fn := fun _ => fun
  | [d] => { results := [.lit (.bool true)], args := [d] }
  | _ => none }
def fnTourNearRow : OpenClaim := { program := "ytaojognjkiifmac", sum := "2d3b9521fca259e54acceb16e55a3dea54e149cf85cc2ce14015dce4d83923fb", func := "loop.example/waymark/laws.FnTourNear", spec := "fnTourNear", unfollowed := true, recurses := true, apart := false }
def FnTourNearSaid : Prop := fnTourNearRow.holds Try.pinned (OpenSpec.ofChange fnTourNearSpec)

/-- ITS FALSE NEIGHBOUR: 'it returns false'. Refute it at one input. -/
def fnTourNearWrong : ChangeSpec := { name := "fnTourNear", fn := fun _ => fun
  | [d] => { results := [.lit (.bool false)], args := [d] }
  | _ => none }
def FnTourNearWrongFalsely : Prop := fnTourNearRow.holds Try.pinned (OpenSpec.ofChange fnTourNearWrong)

/-- 'laws.FnExactBothNear': WHATEVER THE INPUT: true; the input reads as it did. -/
def fnExactBothNearSpec : ChangeSpec := { name := "fnExactBothNear", fn := fun _ => fun
  | [d1, d2, d3] => { results := [.lit (.bool true)], args := [d1, d2, d3] }
  | _ => none }
def fnExactBothNearRow : OpenClaim := { program := "ytaojognjkiifmac", sum := "2d3b9521fca259e54acceb16e55a3dea54e149cf85cc2ce14015dce4d83923fb", func := "loop.example/waymark/laws.FnExactBothNear", spec := "fnExactBothNear", unfollowed := true, recurses := true, apart := false }
def FnExactBothNearSaid : Prop := fnExactBothNearRow.holds Try.pinned (OpenSpec.ofChange fnExactBothNearSpec)

/-- ITS FALSE NEIGHBOUR: 'it returns false'. Refute it at one input. -/
def fnExactBothNearWrong : ChangeSpec := { name := "fnExactBothNear", fn := fun _ => fun
  | [d1, d2, d3] => { results := [.lit (.bool false)], args := [d1, d2, d3] }
  | _ => none }
def FnExactBothNearWrongFalsely : Prop := fnExactBothNearRow.holds Try.pinned (OpenSpec.ofChange fnExactBothNearWrong)

/-- 'laws.FnBothNear': WHATEVER THE INPUT: true; the input reads as it did. -/
def fnBothNearSpec : ChangeSpec := { name := "fnBothNear", fn := fun _ => fun
  | [d] => { results := [.lit (.bool true)], args := [d] }
  | _ => none }
def fnBothNearRow : OpenClaim := { program := "ytaojognjkiifmac", sum := "2d3b9521fca259e54acceb16e55a3dea54e149cf85cc2ce14015dce4d83923fb", func := "loop.example/waymark/laws.FnBothNear", spec := "fnBothNear", unfollowed := true, recurses := true, apart := false }
def FnBothNearSaid : Prop := fnBothNearRow.holds Try.pinned (OpenSpec.ofChange fnBothNearSpec)

/-- ITS FALSE NEIGHBOUR: 'it returns false'. Refute it at one input. -/
def fnBothNearWrong : ChangeSpec := { name := "fnBothNear", fn := fun _ => fun
  | [d] => { results := [.lit (.bool false)], args := [d] }
  | _ => none }
def FnBothNearWrongFalsely : Prop := fnBothNearRow.holds Try.pinned (OpenSpec.ofChange fnBothNearWrong)

/-- 'laws.FnExactReachParts': WHATEVER THE INPUT: true; the input reads as it did. -/
def fnExactReachPartsSpec : ChangeSpec := { name := "fnExactReachParts", fn := fun _ => fun
  | [d] => { results := [.lit (.bool true)], args := [d] }
  | _ => none }
def fnExactReachPartsRow : OpenClaim := { program := "ytaojognjkiifmac", sum := "2d3b9521fca259e54acceb16e55a3dea54e149cf85cc2ce14015dce4d83923fb", func := "loop.example/waymark/laws.FnExactReachParts", spec := "fnExactReachParts", unfollowed := true, recurses := true, apart := false }
def FnExactReachPartsSaid : Prop := fnExactReachPartsRow.holds Try.pinned (OpenSpec.ofChange fnExactReachPartsSpec)

/-- ITS FALSE NEIGHBOUR: 'it returns false'. Refute it at one input. -/
def fnExactReachPartsWrong : ChangeSpec := { name := "fnExactReachParts", fn := fun _ => fun
  | [d] => { results := [.lit (.bool false)], args := [d] }
  | _ => none }
def FnExactReachPartsWrongFalsely : Prop := fnExactReachPartsRow.holds Try.pinned (OpenSpec.ofChange fnExactReachPartsWrong)

/-- 'laws.FnReachParts': WHATEVER THE INPUT: true; the input reads as it did. -/
def fnReachPartsSpec : ChangeSpec := { name := "fnReachParts", fn := fun _ => fun
  | [d] => { results := [.lit (.bool true)], args := [d] }
  | _ => none }
def fnReachPartsRow : OpenClaim := { program := "ytaojognjkiifmac", sum := "2d3b9521fca259e54acceb16e55a3dea54e149cf85cc2ce14015dce4d83923fb", func := "loop.example/waymark/laws.FnReachParts", spec := "fnReachParts", unfollowed := true, recurses := true, apart := false }
def FnReachPartsSaid : Prop := fnReachPartsRow.holds Try.pinned (OpenSpec.ofChange fnReachPartsSpec)

/-- ITS FALSE NEIGHBOUR: 'it returns false'. Refute it at one input. -/
def fnReachPartsWrong : ChangeSpec := { name := "fnReachParts", fn := fun _ => fun
  | [d] => { results := [.lit (.bool false)], args := [d] }
  | _ => none }
def FnReachPartsWrongFalsely : Prop := fnReachPartsRow.holds Try.pinned (OpenSpec.ofChange fnReachPartsWrong)

/-- 'laws.FnExactTourBest': WHATEVER THE INPUT: true; the input reads as it did. -/
def fnExactTourBestSpec : ChangeSpec := { name := "fnExactTourBest", fn := fun _ => fun
  | [d1, d2] => { results := [.lit (.bool true)], args := [d1, d2] }
  | _ => none }
def fnExactTourBestRow : OpenClaim := { program := "ytaojognjkiifmac", sum := "2d3b9521fca259e54acceb16e55a3dea54e149cf85cc2ce14015dce4d83923fb", func := "loop.example/waymark/laws.FnExactTourBest", spec := "fnExactTourBest", unfollowed := true, recurses := true, apart := false }
def FnExactTourBestSaid : Prop := fnExactTourBestRow.holds Try.pinned (OpenSpec.ofChange fnExactTourBestSpec)

/-- ITS FALSE NEIGHBOUR: 'it returns false'. Refute it at one input. -/
def fnExactTourBestWrong : ChangeSpec := { name := "fnExactTourBest", fn := fun _ => fun
  | [d1, d2] => { results := [.lit (.bool false)], args := [d1, d2] }
  | _ => none }
def FnExactTourBestWrongFalsely : Prop := fnExactTourBestRow.holds Try.pinned (OpenSpec.ofChange fnExactTourBestWrong)

/-- 'laws.FnTourBest': WHATEVER THE INPUT: true; the input reads as it did. -/
def fnTourBestSpec : ChangeSpec := { name := "fnTourBest", fn := fun _ => fun
  | [d] => { results := [.lit (.bool true)], args := [d] }
  | _ => none }
def fnTourBestRow : OpenClaim := { program := "ytaojognjkiifmac", sum := "2d3b9521fca259e54acceb16e55a3dea54e149cf85cc2ce14015dce4d83923fb", func := "loop.example/waymark/laws.FnTourBest", spec := "fnTourBest", unfollowed := true, recurses := true, apart := false }
def FnTourBestSaid : Prop := fnTourBestRow.holds Try.pinned (OpenSpec.ofChange fnTourBestSpec)

/-- ITS FALSE NEIGHBOUR: 'it returns false'. Refute it at one input. -/
def fnTourBestWrong : ChangeSpec := { name := "fnTourBest", fn := fun _ => fun
  | [d] => { results := [.lit (.bool false)], args := [d] }
  | _ => none }
def FnTourBestWrongFalsely : Prop := fnTourBestRow.holds Try.pinned (OpenSpec.ofChange fnTourBestWrong)

/-- 'laws.FnTourSwap': WHATEVER THE INPUT: true; the input reads as it did. -/
def fnTourSwapSpec : ChangeSpec := { name := "fnTourSwap", fn := fun _ => fun
  | [d1, d2] => { results := [.lit (.bool true)], args := [d1, d2] }
  | _ => none }
def fnTourSwapRow : OpenClaim := { program := "ytaojognjkiifmac", sum := "2d3b9521fca259e54acceb16e55a3dea54e149cf85cc2ce14015dce4d83923fb", func := "loop.example/waymark/laws.FnTourSwap", spec := "fnTourSwap", unfollowed := true, recurses := true, apart := false }
def FnTourSwapSaid : Prop := fnTourSwapRow.holds Try.pinned (OpenSpec.ofChange fnTourSwapSpec)

/-- ITS FALSE NEIGHBOUR: 'it returns false'. Refute it at one input. -/
def fnTourSwapWrong : ChangeSpec := { name := "fnTourSwap", fn := fun _ => fun
  | [d1, d2] => { results := [.lit (.bool false)], args := [d1, d2] }
  | _ => none }
def FnTourSwapWrongFalsely : Prop := fnTourSwapRow.holds Try.pinned (OpenSpec.ofChange fnTourSwapWrong)

/-- 'laws.FnExactNearAll': WHATEVER THE INPUT: true; the input reads as it did. -/
def fnExactNearAllSpec : ChangeSpec := { name := "fnExactNearAll", fn := fun _ => fun
  | [d1, d2] => { results := [.lit (.bool true)], args := [d1, d2] }
  | _ => none }
def fnExactNearAllRow : OpenClaim := { program := "ytaojognjkiifmac", sum := "2d3b9521fca259e54acceb16e55a3dea54e149cf85cc2ce14015dce4d83923fb", func := "loop.example/waymark/laws.FnExactNearAll", spec := "fnExactNearAll", unfollowed := true, recurses := true, apart := false }
def FnExactNearAllSaid : Prop := fnExactNearAllRow.holds Try.pinned (OpenSpec.ofChange fnExactNearAllSpec)

/-- ITS FALSE NEIGHBOUR: 'it returns false'. Refute it at one input. -/
def fnExactNearAllWrong : ChangeSpec := { name := "fnExactNearAll", fn := fun _ => fun
  | [d1, d2] => { results := [.lit (.bool false)], args := [d1, d2] }
  | _ => none }
def FnExactNearAllWrongFalsely : Prop := fnExactNearAllRow.holds Try.pinned (OpenSpec.ofChange fnExactNearAllWrong)

/- THE SECOND FORM. 'bulk': how many values and letters a reading holds, each counted each time it is reached (what is shared counts as often as it is met; a slice's spare places count too). A statement '..UptoSaid' is the law's where the arguments, and the package variables that the reading takes, are together of bulk at most 1048576: NARROWER than '..Said'. Prove '..Said' where nothing that the law and all that it calls make is longer than what came in: it says more and counts as full. Else prove '..UptoSaid'. A law counts once. -/
mutual
def uptoBulk {H : Type} : DataW H → Nat
  | .lit (.string bytes) => bytes.length + 1
  | .lit _ => 1
  | .nil => 1
  | .ptr d => uptoBulk d + 1
  | .slice elems spare => uptoBulkAll elems + uptoBulkAll spare + 1
  | .agg parts => uptoBulkAll parts + 1
  | .iface _ d => uptoBulk d + 1
  | .map entries => uptoBulkEntries entries + 1
  | .held _ => 1
def uptoBulkAll {H : Type} : List (DataW H) → Nat
  | [] => 0
  | d :: r => uptoBulk d + uptoBulkAll r
def uptoBulkEntries {H : Type} : List (Lit × DataW H) → Nat
  | [] => 0
  | x :: r => uptoBulkEntry x + uptoBulkEntries r
def uptoBulkEntry {H : Type} : Lit × DataW H → Nat
  | (.string bytes, d) => bytes.length + uptoBulk d + 1
  | (_, d) => uptoBulk d + 1
 end
def uptoSmall : (H : Type) → List (DataW H) → Bool := fun _ ds => decide (uptoBulkAll ds ≤ 1048576)
def OpenSpec.upto (s : _root_.Go.ChangeSpec) : _root_.Go.OpenSpec := { _root_.Go.OpenSpec.ofChange s with cond := some uptoSmall }

/-- 'laws.FnExactTourCost', WHERE WHAT IT READS IS OF BULK AT MOST 1048576: true; the input reads as it did. -/
def fnExactTourCostUptoRow : OpenClaim := { program := "ytaojognjkiifmac", sum := "2d3b9521fca259e54acceb16e55a3dea54e149cf85cc2ce14015dce4d83923fb", func := "loop.example/waymark/laws.FnExactTourCost", spec := "fnExactTourCost", unfollowed := true, recurses := true, apart := false, narrowed := true }
def FnExactTourCostUptoSaid : Prop := fnExactTourCostUptoRow.holds Try.pinned (OpenSpec.upto fnExactTourCostSpec)

/-- 'laws.FnTourCost', WHERE WHAT IT READS IS OF BULK AT MOST 1048576: true; the input reads as it did. -/
def fnTourCostUptoRow : OpenClaim := { program := "ytaojognjkiifmac", sum := "2d3b9521fca259e54acceb16e55a3dea54e149cf85cc2ce14015dce4d83923fb", func := "loop.example/waymark/laws.FnTourCost", spec := "fnTourCost", unfollowed := true, recurses := true, apart := false, narrowed := true }
def FnTourCostUptoSaid : Prop := fnTourCostUptoRow.holds Try.pinned (OpenSpec.upto fnTourCostSpec)

/-- 'laws.FnExactTourNear', WHERE WHAT IT READS IS OF BULK AT MOST 1048576: true; the input reads as it did. -/
def fnExactTourNearUptoRow : OpenClaim := { program := "ytaojognjkiifmac", sum := "2d3b9521fca259e54acceb16e55a3dea54e149cf85cc2ce14015dce4d83923fb", func := "loop.example/waymark/laws.FnExactTourNear", spec := "fnExactTourNear", unfollowed := true, recurses := true, apart := false, narrowed := true }
def FnExactTourNearUptoSaid : Prop := fnExactTourNearUptoRow.holds Try.pinned (OpenSpec.upto fnExactTourNearSpec)

/-- 'laws.FnTourNear', WHERE WHAT IT READS IS OF BULK AT MOST 1048576: true; the input reads as it did. -/
def fnTourNearUptoRow : OpenClaim := { program := "ytaojognjkiifmac", sum := "2d3b9521fca259e54acceb16e55a3dea54e149cf85cc2ce14015dce4d83923fb", func := "loop.example/waymark/laws.FnTourNear", spec := "fnTourNear", unfollowed := true, recurses := true, apart := false, narrowed := true }
def FnTourNearUptoSaid : Prop := fnTourNearUptoRow.holds Try.pinned (OpenSpec.upto fnTourNearSpec)

/-- 'laws.FnExactBothNear', WHERE WHAT IT READS IS OF BULK AT MOST 1048576: true; the input reads as it did. -/
def fnExactBothNearUptoRow : OpenClaim := { program := "ytaojognjkiifmac", sum := "2d3b9521fca259e54acceb16e55a3dea54e149cf85cc2ce14015dce4d83923fb", func := "loop.example/waymark/laws.FnExactBothNear", spec := "fnExactBothNear", unfollowed := true, recurses := true, apart := false, narrowed := true }
def FnExactBothNearUptoSaid : Prop := fnExactBothNearUptoRow.holds Try.pinned (OpenSpec.upto fnExactBothNearSpec)

/-- 'laws.FnBothNear', WHERE WHAT IT READS IS OF BULK AT MOST 1048576: true; the input reads as it did. -/
def fnBothNearUptoRow : OpenClaim := { program := "ytaojognjkiifmac", sum := "2d3b9521fca259e54acceb16e55a3dea54e149cf85cc2ce14015dce4d83923fb", func := "loop.example/waymark/laws.FnBothNear", spec := "fnBothNear", unfollowed := true, recurses := true, apart := false, narrowed := true }
def FnBothNearUptoSaid : Prop := fnBothNearUptoRow.holds Try.pinned (OpenSpec.upto fnBothNearSpec)

/-- 'laws.FnExactReachParts', WHERE WHAT IT READS IS OF BULK AT MOST 1048576: true; the input reads as it did. -/
def fnExactReachPartsUptoRow : OpenClaim := { program := "ytaojognjkiifmac", sum := "2d3b9521fca259e54acceb16e55a3dea54e149cf85cc2ce14015dce4d83923fb", func := "loop.example/waymark/laws.FnExactReachParts", spec := "fnExactReachParts", unfollowed := true, recurses := true, apart := false, narrowed := true }
def FnExactReachPartsUptoSaid : Prop := fnExactReachPartsUptoRow.holds Try.pinned (OpenSpec.upto fnExactReachPartsSpec)

/-- 'laws.FnReachParts', WHERE WHAT IT READS IS OF BULK AT MOST 1048576: true; the input reads as it did. -/
def fnReachPartsUptoRow : OpenClaim := { program := "ytaojognjkiifmac", sum := "2d3b9521fca259e54acceb16e55a3dea54e149cf85cc2ce14015dce4d83923fb", func := "loop.example/waymark/laws.FnReachParts", spec := "fnReachParts", unfollowed := true, recurses := true, apart := false, narrowed := true }
def FnReachPartsUptoSaid : Prop := fnReachPartsUptoRow.holds Try.pinned (OpenSpec.upto fnReachPartsSpec)

/-- 'laws.FnExactTourBest', WHERE WHAT IT READS IS OF BULK AT MOST 1048576: true; the input reads as it did. -/
def fnExactTourBestUptoRow : OpenClaim := { program := "ytaojognjkiifmac", sum := "2d3b9521fca259e54acceb16e55a3dea54e149cf85cc2ce14015dce4d83923fb", func := "loop.example/waymark/laws.FnExactTourBest", spec := "fnExactTourBest", unfollowed := true, recurses := true, apart := false, narrowed := true }
def FnExactTourBestUptoSaid : Prop := fnExactTourBestUptoRow.holds Try.pinned (OpenSpec.upto fnExactTourBestSpec)

/-- 'laws.FnTourBest', WHERE WHAT IT READS IS OF BULK AT MOST 1048576: true; the input reads as it did. -/
def fnTourBestUptoRow : OpenClaim := { program := "ytaojognjkiifmac", sum := "2d3b9521fca259e54acceb16e55a3dea54e149cf85cc2ce14015dce4d83923fb", func := "loop.example/waymark/laws.FnTourBest", spec := "fnTourBest", unfollowed := true, recurses := true, apart := false, narrowed := true }
def FnTourBestUptoSaid : Prop := fnTourBestUptoRow.holds Try.pinned (OpenSpec.upto fnTourBestSpec)

/-- 'laws.FnTourSwap', WHERE WHAT IT READS IS OF BULK AT MOST 1048576: true; the input reads as it did. -/
def fnTourSwapUptoRow : OpenClaim := { program := "ytaojognjkiifmac", sum := "2d3b9521fca259e54acceb16e55a3dea54e149cf85cc2ce14015dce4d83923fb", func := "loop.example/waymark/laws.FnTourSwap", spec := "fnTourSwap", unfollowed := true, recurses := true, apart := false, narrowed := true }
def FnTourSwapUptoSaid : Prop := fnTourSwapUptoRow.holds Try.pinned (OpenSpec.upto fnTourSwapSpec)

/-- 'laws.FnExactNearAll', WHERE WHAT IT READS IS OF BULK AT MOST 1048576: true; the input reads as it did. -/
def fnExactNearAllUptoRow : OpenClaim := { program := "ytaojognjkiifmac", sum := "2d3b9521fca259e54acceb16e55a3dea54e149cf85cc2ce14015dce4d83923fb", func := "loop.example/waymark/laws.FnExactNearAll", spec := "fnExactNearAll", unfollowed := true, recurses := true, apart := false, narrowed := true }
def FnExactNearAllUptoSaid : Prop := fnExactNearAllUptoRow.holds Try.pinned (OpenSpec.upto fnExactNearAllSpec)

end Rows
end Go.Proofs.Ytaojognjkiifmac
