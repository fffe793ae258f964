/-
  No cell of these rows narrows 'for every input' (looked for: loops, veiled, ifaces, maps, wideKeys, modest, calm, conditions, laid).
  DERIVED. THE GIVEN ROWS OF THIS SEAT. 9 by the template 'for every input the law returns true; each argument reads behind the call as it read before'; 0 by the template 'total and deterministic' (their statements: YtlkphhidicfnjaaTotals.lean).
  GIVEN WITH THE SEED: the statements are not yours to turn. If you find one false, say at which input.
  Laid BY PROGRAM, IN A SANDBOX (cutbox-rows.mjs): the forced cells as the released guide's own fill.sh prints them over the translation dc76fcc5d8f418ab… (all of the seat's roots in one cut). By AI agents, Wed Nov 11 2026. No macro, syntax, notation, axiom, sorry.
-/
import Derived.Test.YtlkphhidicfnjaaChecked
import GoSem.Claim
import GoSem.ClaimJoined
import GoSem.ClaimMapViews
import Derived.JoinedTies
import Derived.KernelRfl
namespace Go.Proofs.Ytlkphhidicfnjaa
/- THE CELL 'sum', in the pinned program and in every row, IS THE sha256 OF THE DUMP (.gsa) THAT YtlkphhidicfnjaaProg.lean LOADS. Nothing in Lean hashes anything: it is a label: what it is worth is what the hold of that sum in a sandbox is worth. -/
noncomputable def Try.pinned : Pinned := { name := "ytlkphhidicfnjaa", sum := "dc76fcc5d8f418ab3a3e73308ffe84c06955b73a19f241ebd82dfc8c9955e71a", checked := Try.checked }
namespace Rows
def none {H : Type} : Left H := { results := [], args := [] }

/-- 'laws.FnNearAll': WHATEVER THE INPUT: true; the input reads as it did. -/
def fnNearAllSpec : ChangeSpec := { name := "fnNearAll", fn := fun _ => fun
  | [d] => { results := [.lit (.bool true)], args := [d] }
  | _ => none }
def fnNearAllRow : OpenClaim := { program := "ytlkphhidicfnjaa", sum := "dc76fcc5d8f418ab3a3e73308ffe84c06955b73a19f241ebd82dfc8c9955e71a", func := "loop.example/waymark/laws.FnNearAll", spec := "fnNearAll", unfollowed := true, recurses := true, apart := false }
def FnNearAllSaid : Prop := fnNearAllRow.holds Try.pinned (OpenSpec.ofChange fnNearAllSpec)

/-- ITS FALSE NEIGHBOUR: 'it returns false'. Refute it at one input. -/
def fnNearAllWrong : ChangeSpec := { name := "fnNearAll", fn := fun _ => fun
  | [d] => { results := [.lit (.bool false)], args := [d] }
  | _ => none }
def FnNearAllWrongFalsely : Prop := fnNearAllRow.holds Try.pinned (OpenSpec.ofChange fnNearAllWrong)

/-- 'laws.FnNearTree': WHATEVER THE INPUT: true; the input reads as it did. -/
def fnNearTreeSpec : ChangeSpec := { name := "fnNearTree", fn := fun _ => fun
  | [d] => { results := [.lit (.bool true)], args := [d] }
  | _ => none }
def fnNearTreeRow : OpenClaim := { program := "ytlkphhidicfnjaa", sum := "dc76fcc5d8f418ab3a3e73308ffe84c06955b73a19f241ebd82dfc8c9955e71a", func := "loop.example/waymark/laws.FnNearTree", spec := "fnNearTree", unfollowed := true, recurses := true, apart := false }
def FnNearTreeSaid : Prop := fnNearTreeRow.holds Try.pinned (OpenSpec.ofChange fnNearTreeSpec)

/-- ITS FALSE NEIGHBOUR: 'it returns false'. Refute it at one input. -/
def fnNearTreeWrong : ChangeSpec := { name := "fnNearTree", fn := fun _ => fun
  | [d] => { results := [.lit (.bool false)], args := [d] }
  | _ => none }
def FnNearTreeWrongFalsely : Prop := fnNearTreeRow.holds Try.pinned (OpenSpec.ofChange fnNearTreeWrong)

/-- 'laws.FnNearWalk': WHATEVER THE INPUT: true; the input reads as it did. -/
def fnNearWalkSpec : ChangeSpec := { name := "fnNearWalk", fn := fun _ => fun
  | [d] => { results := [.lit (.bool true)], args := [d] }
  | _ => none }
def fnNearWalkRow : OpenClaim := { program := "ytlkphhidicfnjaa", sum := "dc76fcc5d8f418ab3a3e73308ffe84c06955b73a19f241ebd82dfc8c9955e71a", func := "loop.example/waymark/laws.FnNearWalk", spec := "fnNearWalk", unfollowed := true, recurses := true, apart := false }
def FnNearWalkSaid : Prop := fnNearWalkRow.holds Try.pinned (OpenSpec.ofChange fnNearWalkSpec)

/-- ITS FALSE NEIGHBOUR: 'it returns false'. Refute it at one input. -/
def fnNearWalkWrong : ChangeSpec := { name := "fnNearWalk", fn := fun _ => fun
  | [d] => { results := [.lit (.bool false)], args := [d] }
  | _ => none }
def FnNearWalkWrongFalsely : Prop := fnNearWalkRow.holds Try.pinned (OpenSpec.ofChange fnNearWalkWrong)

/-- 'laws.FnNearTo': WHATEVER THE INPUT: true; the input reads as it did. -/
def fnNearToSpec : ChangeSpec := { name := "fnNearTo", fn := fun _ => fun
  | [d] => { results := [.lit (.bool true)], args := [d] }
  | _ => none }
def fnNearToRow : OpenClaim := { program := "ytlkphhidicfnjaa", sum := "dc76fcc5d8f418ab3a3e73308ffe84c06955b73a19f241ebd82dfc8c9955e71a", func := "loop.example/waymark/laws.FnNearTo", spec := "fnNearTo", unfollowed := true, recurses := true, apart := false }
def FnNearToSaid : Prop := fnNearToRow.holds Try.pinned (OpenSpec.ofChange fnNearToSpec)

/-- ITS FALSE NEIGHBOUR: 'it returns false'. Refute it at one input. -/
def fnNearToWrong : ChangeSpec := { name := "fnNearTo", fn := fun _ => fun
  | [d] => { results := [.lit (.bool false)], args := [d] }
  | _ => none }
def FnNearToWrongFalsely : Prop := fnNearToRow.holds Try.pinned (OpenSpec.ofChange fnNearToWrong)

/-- 'laws.FnNearRest': WHATEVER THE INPUT: true; the input reads as it did. -/
def fnNearRestSpec : ChangeSpec := { name := "fnNearRest", fn := fun _ => fun
  | [d] => { results := [.lit (.bool true)], args := [d] }
  | _ => none }
def fnNearRestRow : OpenClaim := { program := "ytlkphhidicfnjaa", sum := "dc76fcc5d8f418ab3a3e73308ffe84c06955b73a19f241ebd82dfc8c9955e71a", func := "loop.example/waymark/laws.FnNearRest", spec := "fnNearRest", unfollowed := true, recurses := true, apart := false }
def FnNearRestSaid : Prop := fnNearRestRow.holds Try.pinned (OpenSpec.ofChange fnNearRestSpec)

/-- ITS FALSE NEIGHBOUR: 'it returns false'. Refute it at one input. -/
def fnNearRestWrong : ChangeSpec := { name := "fnNearRest", fn := fun _ => fun
  | [d] => { results := [.lit (.bool false)], args := [d] }
  | _ => none }
def FnNearRestWrongFalsely : Prop := fnNearRestRow.holds Try.pinned (OpenSpec.ofChange fnNearRestWrong)

/-- 'laws.FnNearWay': WHATEVER THE INPUT: true; the input reads as it did. -/
def fnNearWaySpec : ChangeSpec := { name := "fnNearWay", fn := fun _ => fun
  | [d1, d2] => { results := [.lit (.bool true)], args := [d1, d2] }
  | _ => none }
def fnNearWayRow : OpenClaim := { program := "ytlkphhidicfnjaa", sum := "dc76fcc5d8f418ab3a3e73308ffe84c06955b73a19f241ebd82dfc8c9955e71a", func := "loop.example/waymark/laws.FnNearWay", spec := "fnNearWay", unfollowed := true, recurses := true, apart := false }
def FnNearWaySaid : Prop := fnNearWayRow.holds Try.pinned (OpenSpec.ofChange fnNearWaySpec)

/-- ITS FALSE NEIGHBOUR: 'it returns false'. Refute it at one input. -/
def fnNearWayWrong : ChangeSpec := { name := "fnNearWay", fn := fun _ => fun
  | [d1, d2] => { results := [.lit (.bool false)], args := [d1, d2] }
  | _ => none }
def FnNearWayWrongFalsely : Prop := fnNearWayRow.holds Try.pinned (OpenSpec.ofChange fnNearWayWrong)

/-- 'laws.FnExactPartCut': WHATEVER THE INPUT: true; the input reads as it did. -/
def fnExactPartCutSpec : ChangeSpec := { name := "fnExactPartCut", fn := fun _ => fun
  | [d1, d2] => { results := [.lit (.bool true)], args := [d1, d2] }
  | _ => none }
def fnExactPartCutRow : OpenClaim := { program := "ytlkphhidicfnjaa", sum := "dc76fcc5d8f418ab3a3e73308ffe84c06955b73a19f241ebd82dfc8c9955e71a", func := "loop.example/waymark/laws.FnExactPartCut", spec := "fnExactPartCut", apart := false }
def FnExactPartCutSaid : Prop := fnExactPartCutRow.holds Try.pinned (OpenSpec.ofChange fnExactPartCutSpec)

/-- ITS FALSE NEIGHBOUR: 'it returns false'. Refute it at one input. -/
def fnExactPartCutWrong : ChangeSpec := { name := "fnExactPartCut", fn := fun _ => fun
  | [d1, d2] => { results := [.lit (.bool false)], args := [d1, d2] }
  | _ => none }
def FnExactPartCutWrongFalsely : Prop := fnExactPartCutRow.holds Try.pinned (OpenSpec.ofChange fnExactPartCutWrong)

/-- 'laws.FnPartCut': WHATEVER THE INPUT: true; the input reads as it did. -/
def fnPartCutSpec : ChangeSpec := { name := "fnPartCut", fn := fun _ => fun
  | [d] => { results := [.lit (.bool true)], args := [d] }
  | _ => none }
def fnPartCutRow : OpenClaim := { program := "ytlkphhidicfnjaa", sum := "dc76fcc5d8f418ab3a3e73308ffe84c06955b73a19f241ebd82dfc8c9955e71a", func := "loop.example/waymark/laws.FnPartCut", spec := "fnPartCut", apart := false }
def FnPartCutSaid : Prop := fnPartCutRow.holds Try.pinned (OpenSpec.ofChange fnPartCutSpec)

/-- ITS FALSE NEIGHBOUR: 'it returns false'. Refute it at one input. -/
def fnPartCutWrong : ChangeSpec := { name := "fnPartCut", fn := fun _ => fun
  | [d] => { results := [.lit (.bool false)], args := [d] }
  | _ => none }
def FnPartCutWrongFalsely : Prop := fnPartCutRow.holds Try.pinned (OpenSpec.ofChange fnPartCutWrong)

/-- 'laws.FnPartEdges': WHATEVER THE INPUT: true; the input reads as it did. -/
def fnPartEdgesSpec : ChangeSpec := { name := "fnPartEdges", fn := fun _ => fun
  | [d] => { results := [.lit (.bool true)], args := [d] }
  | _ => none }
def fnPartEdgesRow : OpenClaim := { program := "ytlkphhidicfnjaa", sum := "dc76fcc5d8f418ab3a3e73308ffe84c06955b73a19f241ebd82dfc8c9955e71a", func := "loop.example/waymark/laws.FnPartEdges", spec := "fnPartEdges", recurses := true, apart := false }
def FnPartEdgesSaid : Prop := fnPartEdgesRow.holds Try.pinned (OpenSpec.ofChange fnPartEdgesSpec)

/-- ITS FALSE NEIGHBOUR: 'it returns false'. Refute it at one input. -/
def fnPartEdgesWrong : ChangeSpec := { name := "fnPartEdges", fn := fun _ => fun
  | [d] => { results := [.lit (.bool false)], args := [d] }
  | _ => none }
def FnPartEdgesWrongFalsely : Prop := fnPartEdgesRow.holds Try.pinned (OpenSpec.ofChange fnPartEdgesWrong)

/- THE SECOND FORM. 'bulk': how many values and letters a reading holds, each counted each time it is reached (what is shared counts as often as it is met; a slice's spare places count too). A statement '..UptoSaid' is the law's where the arguments, and the package variables that the reading takes, are together of bulk at most 1048576: NARROWER than '..Said'. Prove '..Said' where nothing that the law and all that it calls make is longer than what came in: it says more and counts as full. Else prove '..UptoSaid'. A law counts once. -/
mutual
def uptoBulk {H : Type} : DataW H → Nat
  | .lit (.string bytes) => bytes.length + 1
  | .lit _ => 1
  | .nil => 1
  | .ptr d => uptoBulk d + 1
  | .slice elems spare => uptoBulkAll elems + uptoBulkAll spare + 1
  | .agg parts => uptoBulkAll parts + 1
  | .iface _ d => uptoBulk d + 1
  | .map entries => uptoBulkEntries entries + 1
  | .held _ => 1
def uptoBulkAll {H : Type} : List (DataW H) → Nat
  | [] => 0
  | d :: r => uptoBulk d + uptoBulkAll r
def uptoBulkEntries {H : Type} : List (Lit × DataW H) → Nat
  | [] => 0
  | x :: r => uptoBulkEntry x + uptoBulkEntries r
def uptoBulkEntry {H : Type} : Lit × DataW H → Nat
  | (.string bytes, d) => bytes.length + uptoBulk d + 1
  | (_, d) => uptoBulk d + 1
 end
def uptoSmall : (H : Type) → List (DataW H) → Bool := fun _ ds => decide (uptoBulkAll ds ≤ 1048576)
def OpenSpec.upto (s : _root_.Go.ChangeSpec) : _root_.Go.OpenSpec := { _root_.Go.OpenSpec.ofChange s with cond := some uptoSmall }

/-- 'laws.FnNearAll', WHERE WHAT IT READS IS OF BULK AT MOST 1048576: true; the input reads as it did. -/
def fnNearAllUptoRow : OpenClaim := { program := "ytlkphhidicfnjaa", sum := "dc76fcc5d8f418ab3a3e73308ffe84c06955b73a19f241ebd82dfc8c9955e71a", func := "loop.example/waymark/laws.FnNearAll", spec := "fnNearAll", unfollowed := true, recurses := true, apart := false, narrowed := true }
def FnNearAllUptoSaid : Prop := fnNearAllUptoRow.holds Try.pinned (OpenSpec.upto fnNearAllSpec)

/-- 'laws.FnNearTree', WHERE WHAT IT READS IS OF BULK AT MOST 1048576: true; the input reads as it did. -/
def fnNearTreeUptoRow : OpenClaim := { program := "ytlkphhidicfnjaa", sum := "dc76fcc5d8f418ab3a3e73308ffe84c06955b73a19f241ebd82dfc8c9955e71a", func := "loop.example/waymark/laws.FnNearTree", spec := "fnNearTree", unfollowed := true, recurses := true, apart := false, narrowed := true }
def FnNearTreeUptoSaid : Prop := fnNearTreeUptoRow.holds Try.pinned (OpenSpec.upto fnNearTreeSpec)

/-- 'laws.FnNearWalk', WHERE WHAT IT READS IS OF BULK AT MOST 1048576: true; the input reads as it did. -/
def fnNearWalkUptoRow : OpenClaim := { program := "ytlkphhidicfnjaa", sum := "dc76fcc5d8f418ab3a3e73308ffe84c06955b73a19f241ebd82dfc8c9955e71a", func := "loop.example/waymark/laws.FnNearWalk", spec := "fnNearWalk", unfollowed := true, recurses := true, apart := false, narrowed := true }
def FnNearWalkUptoSaid : Prop := fnNearWalkUptoRow.holds Try.pinned (OpenSpec.upto fnNearWalkSpec)

/-- 'laws.FnNearTo', WHERE WHAT IT READS IS OF BULK AT MOST 1048576: true; the input reads as it did. -/
def fnNearToUptoRow : OpenClaim := { program := "ytlkphhidicfnjaa", sum := "dc76fcc5d8f418ab3a3e73308ffe84c06955b73a19f241ebd82dfc8c9955e71a", func := "loop.example/waymark/laws.FnNearTo", spec := "fnNearTo", unfollowed := true, recurses := true, apart := false, narrowed := true }
def FnNearToUptoSaid : Prop := fnNearToUptoRow.holds Try.pinned (OpenSpec.upto fnNearToSpec)

/-- 'laws.FnNearRest', WHERE WHAT IT READS IS OF BULK AT MOST 1048576: true; the input reads as it did. -/
def fnNearRestUptoRow : OpenClaim := { program := "ytlkphhidicfnjaa", sum := "dc76fcc5d8f418ab3a3e73308ffe84c06955b73a19f241ebd82dfc8c9955e71a", func := "loop.example/waymark/laws.FnNearRest", spec := "fnNearRest", unfollowed := true, recurses := true, apart := false, narrowed := true }
def FnNearRestUptoSaid : Prop := fnNearRestUptoRow.holds Try.pinned (OpenSpec.upto fnNearRestSpec)

/-- 'laws.FnNearWay', WHERE WHAT IT READS IS OF BULK AT MOST 1048576: true; the input reads as it did. -/
def fnNearWayUptoRow : OpenClaim := { program := "ytlkphhidicfnjaa", sum := "dc76fcc5d8f418ab3a3e73308ffe84c06955b73a19f241ebd82dfc8c9955e71a", func := "loop.example/waymark/laws.FnNearWay", spec := "fnNearWay", unfollowed := true, recurses := true, apart := false, narrowed := true }
def FnNearWayUptoSaid : Prop := fnNearWayUptoRow.holds Try.pinned (OpenSpec.upto fnNearWaySpec)

/-- 'laws.FnExactPartCut', WHERE WHAT IT READS IS OF BULK AT MOST 1048576: true; the input reads as it did. -/
def fnExactPartCutUptoRow : OpenClaim := { program := "ytlkphhidicfnjaa", sum := "dc76fcc5d8f418ab3a3e73308ffe84c06955b73a19f241ebd82dfc8c9955e71a", func := "loop.example/waymark/laws.FnExactPartCut", spec := "fnExactPartCut", apart := false, narrowed := true }
def FnExactPartCutUptoSaid : Prop := fnExactPartCutUptoRow.holds Try.pinned (OpenSpec.upto fnExactPartCutSpec)

/-- 'laws.FnPartCut', WHERE WHAT IT READS IS OF BULK AT MOST 1048576: true; the input reads as it did. -/
def fnPartCutUptoRow : OpenClaim := { program := "ytlkphhidicfnjaa", sum := "dc76fcc5d8f418ab3a3e73308ffe84c06955b73a19f241ebd82dfc8c9955e71a", func := "loop.example/waymark/laws.FnPartCut", spec := "fnPartCut", apart := false, narrowed := true }
def FnPartCutUptoSaid : Prop := fnPartCutUptoRow.holds Try.pinned (OpenSpec.upto fnPartCutSpec)

/-- 'laws.FnPartEdges', WHERE WHAT IT READS IS OF BULK AT MOST 1048576: true; the input reads as it did. -/
def fnPartEdgesUptoRow : OpenClaim := { program := "ytlkphhidicfnjaa", sum := "dc76fcc5d8f418ab3a3e73308ffe84c06955b73a19f241ebd82dfc8c9955e71a", func := "loop.example/waymark/laws.FnPartEdges", spec := "fnPartEdges", recurses := true, apart := false, narrowed := true }
def FnPartEdgesUptoSaid : Prop := fnPartEdgesUptoRow.holds Try.pinned (OpenSpec.upto fnPartEdgesSpec)

end Rows
end Go.Proofs.Ytlkphhidicfnjaa
