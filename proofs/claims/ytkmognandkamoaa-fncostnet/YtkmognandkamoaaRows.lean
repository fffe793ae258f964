/-
  No cell of these rows narrows 'for every input' (looked for: loops, veiled, ifaces, maps, wideKeys, modest, calm, conditions, laid).
  DERIVED. THE GIVEN ROWS OF THIS SEAT. 12 by the template 'for every input the law returns true; each argument reads behind the call as it read before'; 0 by the template 'total and deterministic' (their statements: YtkmognandkamoaaTotals.lean).
  GIVEN WITH THE SEED: the statements are not yours to turn. If you find one false, say at which input.
  Laid BY PROGRAM, IN A SANDBOX (cutbox-rows.mjs): the forced cells as the released guide's own fill.sh prints them over the translation 9ab8cf90e843b6ee… (all of the seat's roots in one cut). By AI agents, Wed Nov 11 2026. No macro, syntax, notation, axiom, sorry.
-/
import Derived.Test.YtkmognandkamoaaChecked
import GoSem.Claim
import GoSem.ClaimJoined
import GoSem.ClaimMapViews
import Derived.JoinedTies
import Derived.KernelRfl
namespace Go.Proofs.Ytkmognandkamoaa
/- THE CELL 'sum', in the pinned program and in every row, IS THE sha256 OF THE DUMP (.gsa) THAT YtkmognandkamoaaProg.lean LOADS. Nothing in Lean hashes anything: it is a label: what it is worth is what the hold of that sum in a sandbox is worth. -/
noncomputable def Try.pinned : Pinned := { name := "ytkmognandkamoaa", sum := "9ab8cf90e843b6ee79cdc6b12783bbcdef1e7661e221016fe8bd9cfbf5fb1808", checked := Try.checked }
namespace Rows
def none {H : Type} : Left H := { results := [], args := [] }

/-- 'laws.FnExactCostNet': WHATEVER THE INPUT: true; the input reads as it did. -/
def fnExactCostNetSpec : ChangeSpec := { name := "fnExactCostNet", fn := fun _ => fun
  | [d1, d2] => { results := [.lit (.bool true)], args := [d1, d2] }
  | _ => none }
def fnExactCostNetRow : OpenClaim := { program := "ytkmognandkamoaa", sum := "9ab8cf90e843b6ee79cdc6b12783bbcdef1e7661e221016fe8bd9cfbf5fb1808", func := "loop.example/waymark/laws.FnExactCostNet", spec := "fnExactCostNet", apart := false }
def FnExactCostNetSaid : Prop := fnExactCostNetRow.holds Try.pinned (OpenSpec.ofChange fnExactCostNetSpec)

/-- ITS FALSE NEIGHBOUR: 'it returns false'. Refute it at one input. -/
def fnExactCostNetWrong : ChangeSpec := { name := "fnExactCostNet", fn := fun _ => fun
  | [d1, d2] => { results := [.lit (.bool false)], args := [d1, d2] }
  | _ => none }
def FnExactCostNetWrongFalsely : Prop := fnExactCostNetRow.holds Try.pinned (OpenSpec.ofChange fnExactCostNetWrong)

/-- 'laws.FnExactCostOf': WHATEVER THE INPUT: true; the input reads as it did. -/
def fnExactCostOfSpec : ChangeSpec := { name := "fnExactCostOf", fn := fun _ => fun
  | [d1, d2, d3] => { results := [.lit (.bool true)], args := [d1, d2, d3] }
  | _ => none }
def fnExactCostOfRow : OpenClaim := { program := "ytkmognandkamoaa", sum := "9ab8cf90e843b6ee79cdc6b12783bbcdef1e7661e221016fe8bd9cfbf5fb1808", func := "loop.example/waymark/laws.FnExactCostOf", spec := "fnExactCostOf", unfollowed := true, recurses := true, apart := false }
def FnExactCostOfSaid : Prop := fnExactCostOfRow.holds Try.pinned (OpenSpec.ofChange fnExactCostOfSpec)

/-- ITS FALSE NEIGHBOUR: 'it returns false'. Refute it at one input. -/
def fnExactCostOfWrong : ChangeSpec := { name := "fnExactCostOf", fn := fun _ => fun
  | [d1, d2, d3] => { results := [.lit (.bool false)], args := [d1, d2, d3] }
  | _ => none }
def FnExactCostOfWrongFalsely : Prop := fnExactCostOfRow.holds Try.pinned (OpenSpec.ofChange fnExactCostOfWrong)

/-- 'laws.FnExactCostLift': WHATEVER THE INPUT: true; the input reads as it did. -/
def fnExactCostLiftSpec : ChangeSpec := { name := "fnExactCostLift", fn := fun _ => fun
  | [d1, d2] => { results := [.lit (.bool true)], args := [d1, d2] }
  | _ => none }
def fnExactCostLiftRow : OpenClaim := { program := "ytkmognandkamoaa", sum := "9ab8cf90e843b6ee79cdc6b12783bbcdef1e7661e221016fe8bd9cfbf5fb1808", func := "loop.example/waymark/laws.FnExactCostLift", spec := "fnExactCostLift", unfollowed := true, recurses := true, apart := false }
def FnExactCostLiftSaid : Prop := fnExactCostLiftRow.holds Try.pinned (OpenSpec.ofChange fnExactCostLiftSpec)

/-- ITS FALSE NEIGHBOUR: 'it returns false'. Refute it at one input. -/
def fnExactCostLiftWrong : ChangeSpec := { name := "fnExactCostLift", fn := fun _ => fun
  | [d1, d2] => { results := [.lit (.bool false)], args := [d1, d2] }
  | _ => none }
def FnExactCostLiftWrongFalsely : Prop := fnExactCostLiftRow.holds Try.pinned (OpenSpec.ofChange fnExactCostLiftWrong)

/-- 'laws.FnExactManyNear': WHATEVER THE INPUT: true; the input reads as it did. -/
def fnExactManyNearSpec : ChangeSpec := { name := "fnExactManyNear", fn := fun _ => fun
  | [d1, d2, d3] => { results := [.lit (.bool true)], args := [d1, d2, d3] }
  | _ => none }
def fnExactManyNearRow : OpenClaim := { program := "ytkmognandkamoaa", sum := "9ab8cf90e843b6ee79cdc6b12783bbcdef1e7661e221016fe8bd9cfbf5fb1808", func := "loop.example/waymark/laws.FnExactManyNear", spec := "fnExactManyNear", unfollowed := true, recurses := true, apart := false }
def FnExactManyNearSaid : Prop := fnExactManyNearRow.holds Try.pinned (OpenSpec.ofChange fnExactManyNearSpec)

/-- ITS FALSE NEIGHBOUR: 'it returns false'. Refute it at one input. -/
def fnExactManyNearWrong : ChangeSpec := { name := "fnExactManyNear", fn := fun _ => fun
  | [d1, d2, d3] => { results := [.lit (.bool false)], args := [d1, d2, d3] }
  | _ => none }
def FnExactManyNearWrongFalsely : Prop := fnExactManyNearRow.holds Try.pinned (OpenSpec.ofChange fnExactManyNearWrong)

/-- 'laws.FnExactManyServe': WHATEVER THE INPUT: true; the input reads as it did. -/
def fnExactManyServeSpec : ChangeSpec := { name := "fnExactManyServe", fn := fun _ => fun
  | [d1, d2] => { results := [.lit (.bool true)], args := [d1, d2] }
  | _ => none }
def fnExactManyServeRow : OpenClaim := { program := "ytkmognandkamoaa", sum := "9ab8cf90e843b6ee79cdc6b12783bbcdef1e7661e221016fe8bd9cfbf5fb1808", func := "loop.example/waymark/laws.FnExactManyServe", spec := "fnExactManyServe", unfollowed := true, recurses := true, apart := false }
def FnExactManyServeSaid : Prop := fnExactManyServeRow.holds Try.pinned (OpenSpec.ofChange fnExactManyServeSpec)

/-- ITS FALSE NEIGHBOUR: 'it returns false'. Refute it at one input. -/
def fnExactManyServeWrong : ChangeSpec := { name := "fnExactManyServe", fn := fun _ => fun
  | [d1, d2] => { results := [.lit (.bool false)], args := [d1, d2] }
  | _ => none }
def FnExactManyServeWrongFalsely : Prop := fnExactManyServeRow.holds Try.pinned (OpenSpec.ofChange fnExactManyServeWrong)

/-- 'laws.FnExactPartCut': WHATEVER THE INPUT: true; the input reads as it did. -/
def fnExactPartCutSpec : ChangeSpec := { name := "fnExactPartCut", fn := fun _ => fun
  | [d1, d2] => { results := [.lit (.bool true)], args := [d1, d2] }
  | _ => none }
def fnExactPartCutRow : OpenClaim := { program := "ytkmognandkamoaa", sum := "9ab8cf90e843b6ee79cdc6b12783bbcdef1e7661e221016fe8bd9cfbf5fb1808", func := "loop.example/waymark/laws.FnExactPartCut", spec := "fnExactPartCut", apart := false }
def FnExactPartCutSaid : Prop := fnExactPartCutRow.holds Try.pinned (OpenSpec.ofChange fnExactPartCutSpec)

/-- ITS FALSE NEIGHBOUR: 'it returns false'. Refute it at one input. -/
def fnExactPartCutWrong : ChangeSpec := { name := "fnExactPartCut", fn := fun _ => fun
  | [d1, d2] => { results := [.lit (.bool false)], args := [d1, d2] }
  | _ => none }
def FnExactPartCutWrongFalsely : Prop := fnExactPartCutRow.holds Try.pinned (OpenSpec.ofChange fnExactPartCutWrong)

/-- 'laws.FnExactPartEdges': WHATEVER THE INPUT: true; the input reads as it did. -/
def fnExactPartEdgesSpec : ChangeSpec := { name := "fnExactPartEdges", fn := fun _ => fun
  | [d1, d2] => { results := [.lit (.bool true)], args := [d1, d2] }
  | _ => none }
def fnExactPartEdgesRow : OpenClaim := { program := "ytkmognandkamoaa", sum := "9ab8cf90e843b6ee79cdc6b12783bbcdef1e7661e221016fe8bd9cfbf5fb1808", func := "loop.example/waymark/laws.FnExactPartEdges", spec := "fnExactPartEdges", recurses := true, apart := false }
def FnExactPartEdgesSaid : Prop := fnExactPartEdgesRow.holds Try.pinned (OpenSpec.ofChange fnExactPartEdgesSpec)

/-- ITS FALSE NEIGHBOUR: 'it returns false'. Refute it at one input. -/
def fnExactPartEdgesWrong : ChangeSpec := { name := "fnExactPartEdges", fn := fun _ => fun
  | [d1, d2] => { results := [.lit (.bool false)], args := [d1, d2] }
  | _ => none }
def FnExactPartEdgesWrongFalsely : Prop := fnExactPartEdgesRow.holds Try.pinned (OpenSpec.ofChange fnExactPartEdgesWrong)

/-- 'laws.FnCostNet': WHATEVER THE INPUT: true; the input reads as it did. -/
def fnCostNetSpec : ChangeSpec := { name := "fnCostNet", fn := fun _ => fun
  | [d] => { results := [.lit (.bool true)], args := [d] }
  | _ => none }
def fnCostNetRow : OpenClaim := { program := "ytkmognandkamoaa", sum := "9ab8cf90e843b6ee79cdc6b12783bbcdef1e7661e221016fe8bd9cfbf5fb1808", func := "loop.example/waymark/laws.FnCostNet", spec := "fnCostNet", apart := false }
def FnCostNetSaid : Prop := fnCostNetRow.holds Try.pinned (OpenSpec.ofChange fnCostNetSpec)

/-- ITS FALSE NEIGHBOUR: 'it returns false'. Refute it at one input. -/
def fnCostNetWrong : ChangeSpec := { name := "fnCostNet", fn := fun _ => fun
  | [d] => { results := [.lit (.bool false)], args := [d] }
  | _ => none }
def FnCostNetWrongFalsely : Prop := fnCostNetRow.holds Try.pinned (OpenSpec.ofChange fnCostNetWrong)

/-- 'laws.FnCostOf': WHATEVER THE INPUT: true; the input reads as it did. -/
def fnCostOfSpec : ChangeSpec := { name := "fnCostOf", fn := fun _ => fun
  | [d] => { results := [.lit (.bool true)], args := [d] }
  | _ => none }
def fnCostOfRow : OpenClaim := { program := "ytkmognandkamoaa", sum := "9ab8cf90e843b6ee79cdc6b12783bbcdef1e7661e221016fe8bd9cfbf5fb1808", func := "loop.example/waymark/laws.FnCostOf", spec := "fnCostOf", unfollowed := true, recurses := true, apart := false }
def FnCostOfSaid : Prop := fnCostOfRow.holds Try.pinned (OpenSpec.ofChange fnCostOfSpec)

/-- ITS FALSE NEIGHBOUR: 'it returns false'. Refute it at one input. -/
def fnCostOfWrong : ChangeSpec := { name := "fnCostOf", fn := fun _ => fun
  | [d] => { results := [.lit (.bool false)], args := [d] }
  | _ => none }
def FnCostOfWrongFalsely : Prop := fnCostOfRow.holds Try.pinned (OpenSpec.ofChange fnCostOfWrong)

/-- 'laws.FnManyNear': WHATEVER THE INPUT: true; the input reads as it did. -/
def fnManyNearSpec : ChangeSpec := { name := "fnManyNear", fn := fun _ => fun
  | [d] => { results := [.lit (.bool true)], args := [d] }
  | _ => none }
def fnManyNearRow : OpenClaim := { program := "ytkmognandkamoaa", sum := "9ab8cf90e843b6ee79cdc6b12783bbcdef1e7661e221016fe8bd9cfbf5fb1808", func := "loop.example/waymark/laws.FnManyNear", spec := "fnManyNear", unfollowed := true, recurses := true, apart := false }
def FnManyNearSaid : Prop := fnManyNearRow.holds Try.pinned (OpenSpec.ofChange fnManyNearSpec)

/-- ITS FALSE NEIGHBOUR: 'it returns false'. Refute it at one input. -/
def fnManyNearWrong : ChangeSpec := { name := "fnManyNear", fn := fun _ => fun
  | [d] => { results := [.lit (.bool false)], args := [d] }
  | _ => none }
def FnManyNearWrongFalsely : Prop := fnManyNearRow.holds Try.pinned (OpenSpec.ofChange fnManyNearWrong)

/-- 'laws.FnManyServe': WHATEVER THE INPUT: true; the input reads as it did. -/
def fnManyServeSpec : ChangeSpec := { name := "fnManyServe", fn := fun _ => fun
  | [d] => { results := [.lit (.bool true)], args := [d] }
  | _ => none }
def fnManyServeRow : OpenClaim := { program := "ytkmognandkamoaa", sum := "9ab8cf90e843b6ee79cdc6b12783bbcdef1e7661e221016fe8bd9cfbf5fb1808", func := "loop.example/waymark/laws.FnManyServe", spec := "fnManyServe", unfollowed := true, recurses := true, apart := false }
def FnManyServeSaid : Prop := fnManyServeRow.holds Try.pinned (OpenSpec.ofChange fnManyServeSpec)

/-- ITS FALSE NEIGHBOUR: 'it returns false'. Refute it at one input. -/
def fnManyServeWrong : ChangeSpec := { name := "fnManyServe", fn := fun _ => fun
  | [d] => { results := [.lit (.bool false)], args := [d] }
  | _ => none }
def FnManyServeWrongFalsely : Prop := fnManyServeRow.holds Try.pinned (OpenSpec.ofChange fnManyServeWrong)

/-- 'laws.FnNearAll': WHATEVER THE INPUT: true; the input reads as it did. -/
def fnNearAllSpec : ChangeSpec := { name := "fnNearAll", fn := fun _ => fun
  | [d] => { results := [.lit (.bool true)], args := [d] }
  | _ => none }
def fnNearAllRow : OpenClaim := { program := "ytkmognandkamoaa", sum := "9ab8cf90e843b6ee79cdc6b12783bbcdef1e7661e221016fe8bd9cfbf5fb1808", func := "loop.example/waymark/laws.FnNearAll", spec := "fnNearAll", unfollowed := true, recurses := true, apart := false }
def FnNearAllSaid : Prop := fnNearAllRow.holds Try.pinned (OpenSpec.ofChange fnNearAllSpec)

/-- ITS FALSE NEIGHBOUR: 'it returns false'. Refute it at one input. -/
def fnNearAllWrong : ChangeSpec := { name := "fnNearAll", fn := fun _ => fun
  | [d] => { results := [.lit (.bool false)], args := [d] }
  | _ => none }
def FnNearAllWrongFalsely : Prop := fnNearAllRow.holds Try.pinned (OpenSpec.ofChange fnNearAllWrong)

/- THE SECOND FORM. 'bulk': how many values and letters a reading holds, each counted each time it is reached (what is shared counts as often as it is met; a slice's spare places count too). A statement '..UptoSaid' is the law's where the arguments, and the package variables that the reading takes, are together of bulk at most 1048576: NARROWER than '..Said'. Prove '..Said' where nothing that the law and all that it calls make is longer than what came in: it says more and counts as full. Else prove '..UptoSaid'. A law counts once. -/
mutual
def uptoBulk {H : Type} : DataW H → Nat
  | .lit (.string bytes) => bytes.length + 1
  | .lit _ => 1
  | .nil => 1
  | .ptr d => uptoBulk d + 1
  | .slice elems spare => uptoBulkAll elems + uptoBulkAll spare + 1
  | .agg parts => uptoBulkAll parts + 1
  | .iface _ d => uptoBulk d + 1
  | .map entries => uptoBulkEntries entries + 1
  | .held _ => 1
def uptoBulkAll {H : Type} : List (DataW H) → Nat
  | [] => 0
  | d :: r => uptoBulk d + uptoBulkAll r
def uptoBulkEntries {H : Type} : List (Lit × DataW H) → Nat
  | [] => 0
  | x :: r => uptoBulkEntry x + uptoBulkEntries r
def uptoBulkEntry {H : Type} : Lit × DataW H → Nat
  | (.string bytes, d) => bytes.length + uptoBulk d + 1
  | (_, d) => uptoBulk d + 1
 end
def uptoSmall : (H : Type) → List (DataW H) → Bool := fun _ ds => decide (uptoBulkAll ds ≤ 1048576)
def OpenSpec.upto (s : _root_.Go.ChangeSpec) : _root_.Go.OpenSpec := { _root_.Go.OpenSpec.ofChange s with cond := some uptoSmall }

/-- 'laws.FnExactCostNet', WHERE WHAT IT READS IS OF BULK AT MOST 1048576: true; the input reads as it did. -/
def fnExactCostNetUptoRow : OpenClaim := { program := "ytkmognandkamoaa", sum := "9ab8cf90e843b6ee79cdc6b12783bbcdef1e7661e221016fe8bd9cfbf5fb1808", func := "loop.example/waymark/laws.FnExactCostNet", spec := "fnExactCostNet", apart := false, narrowed := true }
def FnExactCostNetUptoSaid : Prop := fnExactCostNetUptoRow.holds Try.pinned (OpenSpec.upto fnExactCostNetSpec)

/-- 'laws.FnExactCostOf', WHERE WHAT IT READS IS OF BULK AT MOST 1048576: true; the input reads as it did. -/
def fnExactCostOfUptoRow : OpenClaim := { program := "ytkmognandkamoaa", sum := "9ab8cf90e843b6ee79cdc6b12783bbcdef1e7661e221016fe8bd9cfbf5fb1808", func := "loop.example/waymark/laws.FnExactCostOf", spec := "fnExactCostOf", unfollowed := true, recurses := true, apart := false, narrowed := true }
def FnExactCostOfUptoSaid : Prop := fnExactCostOfUptoRow.holds Try.pinned (OpenSpec.upto fnExactCostOfSpec)

/-- 'laws.FnExactCostLift', WHERE WHAT IT READS IS OF BULK AT MOST 1048576: true; the input reads as it did. -/
def fnExactCostLiftUptoRow : OpenClaim := { program := "ytkmognandkamoaa", sum := "9ab8cf90e843b6ee79cdc6b12783bbcdef1e7661e221016fe8bd9cfbf5fb1808", func := "loop.example/waymark/laws.FnExactCostLift", spec := "fnExactCostLift", unfollowed := true, recurses := true, apart := false, narrowed := true }
def FnExactCostLiftUptoSaid : Prop := fnExactCostLiftUptoRow.holds Try.pinned (OpenSpec.upto fnExactCostLiftSpec)

/-- 'laws.FnExactManyNear', WHERE WHAT IT READS IS OF BULK AT MOST 1048576: true; the input reads as it did. -/
def fnExactManyNearUptoRow : OpenClaim := { program := "ytkmognandkamoaa", sum := "9ab8cf90e843b6ee79cdc6b12783bbcdef1e7661e221016fe8bd9cfbf5fb1808", func := "loop.example/waymark/laws.FnExactManyNear", spec := "fnExactManyNear", unfollowed := true, recurses := true, apart := false, narrowed := true }
def FnExactManyNearUptoSaid : Prop := fnExactManyNearUptoRow.holds Try.pinned (OpenSpec.upto fnExactManyNearSpec)

/-- 'laws.FnExactManyServe', WHERE WHAT IT READS IS OF BULK AT MOST 1048576: true; the input reads as it did. -/
def fnExactManyServeUptoRow : OpenClaim := { program := "ytkmognandkamoaa", sum := "9ab8cf90e843b6ee79cdc6b12783bbcdef1e7661e221016fe8bd9cfbf5fb1808", func := "loop.example/waymark/laws.FnExactManyServe", spec := "fnExactManyServe", unfollowed := true, recurses := true, apart := false, narrowed := true }
def FnExactManyServeUptoSaid : Prop := fnExactManyServeUptoRow.holds Try.pinned (OpenSpec.upto fnExactManyServeSpec)

/-- 'laws.FnExactPartCut', WHERE WHAT IT READS IS OF BULK AT MOST 1048576: true; the input reads as it did. -/
def fnExactPartCutUptoRow : OpenClaim := { program := "ytkmognandkamoaa", sum := "9ab8cf90e843b6ee79cdc6b12783bbcdef1e7661e221016fe8bd9cfbf5fb1808", func := "loop.example/waymark/laws.FnExactPartCut", spec := "fnExactPartCut", apart := false, narrowed := true }
def FnExactPartCutUptoSaid : Prop := fnExactPartCutUptoRow.holds Try.pinned (OpenSpec.upto fnExactPartCutSpec)

/-- 'laws.FnExactPartEdges', WHERE WHAT IT READS IS OF BULK AT MOST 1048576: true; the input reads as it did. -/
def fnExactPartEdgesUptoRow : OpenClaim := { program := "ytkmognandkamoaa", sum := "9ab8cf90e843b6ee79cdc6b12783bbcdef1e7661e221016fe8bd9cfbf5fb1808", func := "loop.example/waymark/laws.FnExactPartEdges", spec := "fnExactPartEdges", recurses := true, apart := false, narrowed := true }
def FnExactPartEdgesUptoSaid : Prop := fnExactPartEdgesUptoRow.holds Try.pinned (OpenSpec.upto fnExactPartEdgesSpec)

/-- 'laws.FnCostNet', WHERE WHAT IT READS IS OF BULK AT MOST 1048576: true; the input reads as it did. -/
def fnCostNetUptoRow : OpenClaim := { program := "ytkmognandkamoaa", sum := "9ab8cf90e843b6ee79cdc6b12783bbcdef1e7661e221016fe8bd9cfbf5fb1808", func := "loop.example/waymark/laws.FnCostNet", spec := "fnCostNet", apart := false, narrowed := true }
def FnCostNetUptoSaid : Prop := fnCostNetUptoRow.holds Try.pinned (OpenSpec.upto fnCostNetSpec)

/-- 'laws.FnCostOf', WHERE WHAT IT READS IS OF BULK AT MOST 1048576: true; the input reads as it did. -/
def fnCostOfUptoRow : OpenClaim := { program := "ytkmognandkamoaa", sum := "9ab8cf90e843b6ee79cdc6b12783bbcdef1e7661e221016fe8bd9cfbf5fb1808", func := "loop.example/waymark/laws.FnCostOf", spec := "fnCostOf", unfollowed := true, recurses := true, apart := false, narrowed := true }
def FnCostOfUptoSaid : Prop := fnCostOfUptoRow.holds Try.pinned (OpenSpec.upto fnCostOfSpec)

/-- 'laws.FnManyNear', WHERE WHAT IT READS IS OF BULK AT MOST 1048576: true; the input reads as it did. -/
def fnManyNearUptoRow : OpenClaim := { program := "ytkmognandkamoaa", sum := "9ab8cf90e843b6ee79cdc6b12783bbcdef1e7661e221016fe8bd9cfbf5fb1808", func := "loop.example/waymark/laws.FnManyNear", spec := "fnManyNear", unfollowed := true, recurses := true, apart := false, narrowed := true }
def FnManyNearUptoSaid : Prop := fnManyNearUptoRow.holds Try.pinned (OpenSpec.upto fnManyNearSpec)

/-- 'laws.FnManyServe', WHERE WHAT IT READS IS OF BULK AT MOST 1048576: true; the input reads as it did. -/
def fnManyServeUptoRow : OpenClaim := { program := "ytkmognandkamoaa", sum := "9ab8cf90e843b6ee79cdc6b12783bbcdef1e7661e221016fe8bd9cfbf5fb1808", func := "loop.example/waymark/laws.FnManyServe", spec := "fnManyServe", unfollowed := true, recurses := true, apart := false, narrowed := true }
def FnManyServeUptoSaid : Prop := fnManyServeUptoRow.holds Try.pinned (OpenSpec.upto fnManyServeSpec)

/-- 'laws.FnNearAll', WHERE WHAT IT READS IS OF BULK AT MOST 1048576: true; the input reads as it did. -/
def fnNearAllUptoRow : OpenClaim := { program := "ytkmognandkamoaa", sum := "9ab8cf90e843b6ee79cdc6b12783bbcdef1e7661e221016fe8bd9cfbf5fb1808", func := "loop.example/waymark/laws.FnNearAll", spec := "fnNearAll", unfollowed := true, recurses := true, apart := false, narrowed := true }
def FnNearAllUptoSaid : Prop := fnNearAllUptoRow.holds Try.pinned (OpenSpec.upto fnNearAllSpec)

end Rows
end Go.Proofs.Ytkmognandkamoaa
