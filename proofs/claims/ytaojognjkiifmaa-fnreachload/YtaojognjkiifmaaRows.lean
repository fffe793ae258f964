/-
  No cell of these rows narrows 'for every input' (looked for: loops, veiled, ifaces, maps, wideKeys, modest, calm, conditions, laid).
  DERIVED. THE GIVEN ROWS OF THIS SEAT. 12 by the template 'for every input the law returns true; each argument reads behind the call as it read before'; 0 by the template 'total and deterministic' (their statements: YtaojognjkiifmaaTotals.lean).
  GIVEN WITH THE SEED: the statements are not yours to turn. If you find one false, say at which input.
  Laid BY PROGRAM, IN A SANDBOX (cutbox-rows.mjs): the forced cells as the released guide's own fill.sh prints them over the translation 0cd0fafa9117dba9… (all of the seat's roots in one cut). By AI agents, Wed Nov 11 2026. No macro, syntax, notation, axiom, sorry.
-/
import Derived.Test.YtaojognjkiifmaaChecked
import GoSem.Claim
import GoSem.ClaimJoined
import GoSem.ClaimMapViews
import Derived.JoinedTies
import Derived.KernelRfl
namespace Go.Proofs.Ytaojognjkiifmaa
/- THE CELL 'sum', in the pinned program and in every row, IS THE sha256 OF THE DUMP (.gsa) THAT YtaojognjkiifmaaProg.lean LOADS. Nothing in Lean hashes anything: it is a label: what it is worth is what the hold of that sum in a sandbox is worth. -/
noncomputable def Try.pinned : Pinned := { name := "ytaojognjkiifmaa", sum := "0cd0fafa9117dba951c77231b4ddbe811e194fdfa42d4c787e126e55d9e7217b", checked := Try.checked }
namespace Rows
def none {H : Type} : Left H := { results := [], args := [] }

/-- 'laws.FnExactTurnAll': WHATEVER THE INPUT: true; the input reads as it did. -/
def fnExactTurnAllSpec : ChangeSpec := { name := "fnExactTurnAll", fn := fun _ => fun
  | [d1, d2, d3] => { results := [.lit (.bool true)], args := [d1, d2, d3] }
  | _ => none }
def fnExactTurnAllRow : OpenClaim := { program := "ytaojognjkiifmaa", sum := "0cd0fafa9117dba951c77231b4ddbe811e194fdfa42d4c787e126e55d9e7217b", func := "loop.example/waymark/laws.FnExactTurnAll", spec := "fnExactTurnAll", unfollowed := true, recurses := true, plainKeys := false, apart := false }
def FnExactTurnAllSaid : Prop := fnExactTurnAllRow.holds Try.pinned (OpenSpec.ofChange fnExactTurnAllSpec)

/-- ITS FALSE NEIGHBOUR: 'it returns false'. Refute it at one input. -/
def fnExactTurnAllWrong : ChangeSpec := { name := "fnExactTurnAll", fn := fun _ => fun
  | [d1, d2, d3] => { results := [.lit (.bool false)], args := [d1, d2, d3] }
  | _ => none }
def FnExactTurnAllWrongFalsely : Prop := fnExactTurnAllRow.holds Try.pinned (OpenSpec.ofChange fnExactTurnAllWrong)

/-- 'laws.FnTurnAll': WHATEVER THE INPUT: true; the input reads as it did. -/
def fnTurnAllSpec : ChangeSpec := { name := "fnTurnAll", fn := fun _ => fun
  | [d] => { results := [.lit (.bool true)], args := [d] }
  | _ => none }
def fnTurnAllRow : OpenClaim := { program := "ytaojognjkiifmaa", sum := "0cd0fafa9117dba951c77231b4ddbe811e194fdfa42d4c787e126e55d9e7217b", func := "loop.example/waymark/laws.FnTurnAll", spec := "fnTurnAll", unfollowed := true, recurses := true, plainKeys := false, apart := false }
def FnTurnAllSaid : Prop := fnTurnAllRow.holds Try.pinned (OpenSpec.ofChange fnTurnAllSpec)

/-- ITS FALSE NEIGHBOUR: 'it returns false'. Refute it at one input. -/
def fnTurnAllWrong : ChangeSpec := { name := "fnTurnAll", fn := fun _ => fun
  | [d] => { results := [.lit (.bool false)], args := [d] }
  | _ => none }
def FnTurnAllWrongFalsely : Prop := fnTurnAllRow.holds Try.pinned (OpenSpec.ofChange fnTurnAllWrong)

/-- 'laws.FnTurnBest': WHATEVER THE INPUT: true; the input reads as it did. -/
def fnTurnBestSpec : ChangeSpec := { name := "fnTurnBest", fn := fun _ => fun
  | [d] => { results := [.lit (.bool true)], args := [d] }
  | _ => none }
def fnTurnBestRow : OpenClaim := { program := "ytaojognjkiifmaa", sum := "0cd0fafa9117dba951c77231b4ddbe811e194fdfa42d4c787e126e55d9e7217b", func := "loop.example/waymark/laws.FnTurnBest", spec := "fnTurnBest", unfollowed := true, recurses := true, plainKeys := false, apart := false }
def FnTurnBestSaid : Prop := fnTurnBestRow.holds Try.pinned (OpenSpec.ofChange fnTurnBestSpec)

/-- ITS FALSE NEIGHBOUR: 'it returns false'. Refute it at one input. -/
def fnTurnBestWrong : ChangeSpec := { name := "fnTurnBest", fn := fun _ => fun
  | [d] => { results := [.lit (.bool false)], args := [d] }
  | _ => none }
def FnTurnBestWrongFalsely : Prop := fnTurnBestRow.holds Try.pinned (OpenSpec.ofChange fnTurnBestWrong)

/-- 'laws.FnTurnLoad': WHATEVER THE INPUT: true; the input reads as it did. -/
def fnTurnLoadSpec : ChangeSpec := { name := "fnTurnLoad", fn := fun _ => fun
  | [d] => { results := [.lit (.bool true)], args := [d] }
  | _ => none }
def fnTurnLoadRow : OpenClaim := { program := "ytaojognjkiifmaa", sum := "0cd0fafa9117dba951c77231b4ddbe811e194fdfa42d4c787e126e55d9e7217b", func := "loop.example/waymark/laws.FnTurnLoad", spec := "fnTurnLoad", unfollowed := true, recurses := true, plainKeys := false, apart := false }
def FnTurnLoadSaid : Prop := fnTurnLoadRow.holds Try.pinned (OpenSpec.ofChange fnTurnLoadSpec)

/-- ITS FALSE NEIGHBOUR: 'it returns false'. Refute it at one input. -/
def fnTurnLoadWrong : ChangeSpec := { name := "fnTurnLoad", fn := fun _ => fun
  | [d] => { results := [.lit (.bool false)], args := [d] }
  | _ => none }
def FnTurnLoadWrongFalsely : Prop := fnTurnLoadRow.holds Try.pinned (OpenSpec.ofChange fnTurnLoadWrong)

/-- 'laws.FnTurnNet': WHATEVER THE INPUT: true; the input reads as it did. -/
def fnTurnNetSpec : ChangeSpec := { name := "fnTurnNet", fn := fun _ => fun
  | [d] => { results := [.lit (.bool true)], args := [d] }
  | _ => none }
def fnTurnNetRow : OpenClaim := { program := "ytaojognjkiifmaa", sum := "0cd0fafa9117dba951c77231b4ddbe811e194fdfa42d4c787e126e55d9e7217b", func := "loop.example/waymark/laws.FnTurnNet", spec := "fnTurnNet", unfollowed := true, recurses := true, plainKeys := false, apart := false }
def FnTurnNetSaid : Prop := fnTurnNetRow.holds Try.pinned (OpenSpec.ofChange fnTurnNetSpec)

/-- ITS FALSE NEIGHBOUR: 'it returns false'. Refute it at one input. -/
def fnTurnNetWrong : ChangeSpec := { name := "fnTurnNet", fn := fun _ => fun
  | [d] => { results := [.lit (.bool false)], args := [d] }
  | _ => none }
def FnTurnNetWrongFalsely : Prop := fnTurnNetRow.holds Try.pinned (OpenSpec.ofChange fnTurnNetWrong)

/-- 'laws.FnExactBothOver': WHATEVER THE INPUT: true; the input reads as it did. -/
def fnExactBothOverSpec : ChangeSpec := { name := "fnExactBothOver", fn := fun _ => fun
  | [d1, d2, d3, d4] => { results := [.lit (.bool true)], args := [d1, d2, d3, d4] }
  | _ => none }
def fnExactBothOverRow : OpenClaim := { program := "ytaojognjkiifmaa", sum := "0cd0fafa9117dba951c77231b4ddbe811e194fdfa42d4c787e126e55d9e7217b", func := "loop.example/waymark/laws.FnExactBothOver", spec := "fnExactBothOver", unfollowed := true, recurses := true, plainKeys := false, apart := false }
def FnExactBothOverSaid : Prop := fnExactBothOverRow.holds Try.pinned (OpenSpec.ofChange fnExactBothOverSpec)

/-- ITS FALSE NEIGHBOUR: 'it returns false'. Refute it at one input. -/
def fnExactBothOverWrong : ChangeSpec := { name := "fnExactBothOver", fn := fun _ => fun
  | [d1, d2, d3, d4] => { results := [.lit (.bool false)], args := [d1, d2, d3, d4] }
  | _ => none }
def FnExactBothOverWrongFalsely : Prop := fnExactBothOverRow.holds Try.pinned (OpenSpec.ofChange fnExactBothOverWrong)

/-- 'laws.FnBothOver': WHATEVER THE INPUT: true; the input reads as it did. -/
def fnBothOverSpec : ChangeSpec := { name := "fnBothOver", fn := fun _ => fun
  | [d] => { results := [.lit (.bool true)], args := [d] }
  | _ => none }
def fnBothOverRow : OpenClaim := { program := "ytaojognjkiifmaa", sum := "0cd0fafa9117dba951c77231b4ddbe811e194fdfa42d4c787e126e55d9e7217b", func := "loop.example/waymark/laws.FnBothOver", spec := "fnBothOver", unfollowed := true, recurses := true, plainKeys := false, apart := false }
def FnBothOverSaid : Prop := fnBothOverRow.holds Try.pinned (OpenSpec.ofChange fnBothOverSpec)

/-- ITS FALSE NEIGHBOUR: 'it returns false'. Refute it at one input. -/
def fnBothOverWrong : ChangeSpec := { name := "fnBothOver", fn := fun _ => fun
  | [d] => { results := [.lit (.bool false)], args := [d] }
  | _ => none }
def FnBothOverWrongFalsely : Prop := fnBothOverRow.holds Try.pinned (OpenSpec.ofChange fnBothOverWrong)

/-- 'laws.FnExactLoadNet': WHATEVER THE INPUT: true; the input reads as it did. -/
def fnExactLoadNetSpec : ChangeSpec := { name := "fnExactLoadNet", fn := fun _ => fun
  | [d1, d2] => { results := [.lit (.bool true)], args := [d1, d2] }
  | _ => none }
def fnExactLoadNetRow : OpenClaim := { program := "ytaojognjkiifmaa", sum := "0cd0fafa9117dba951c77231b4ddbe811e194fdfa42d4c787e126e55d9e7217b", func := "loop.example/waymark/laws.FnExactLoadNet", spec := "fnExactLoadNet", plainKeys := false, apart := false }
def FnExactLoadNetSaid : Prop := fnExactLoadNetRow.holds Try.pinned (OpenSpec.ofChange fnExactLoadNetSpec)

/-- ITS FALSE NEIGHBOUR: 'it returns false'. Refute it at one input. -/
def fnExactLoadNetWrong : ChangeSpec := { name := "fnExactLoadNet", fn := fun _ => fun
  | [d1, d2] => { results := [.lit (.bool false)], args := [d1, d2] }
  | _ => none }
def FnExactLoadNetWrongFalsely : Prop := fnExactLoadNetRow.holds Try.pinned (OpenSpec.ofChange fnExactLoadNetWrong)

/-- 'laws.FnLoadNet': WHATEVER THE INPUT: true; the input reads as it did. -/
def fnLoadNetSpec : ChangeSpec := { name := "fnLoadNet", fn := fun _ => fun
  | [d] => { results := [.lit (.bool true)], args := [d] }
  | _ => none }
def fnLoadNetRow : OpenClaim := { program := "ytaojognjkiifmaa", sum := "0cd0fafa9117dba951c77231b4ddbe811e194fdfa42d4c787e126e55d9e7217b", func := "loop.example/waymark/laws.FnLoadNet", spec := "fnLoadNet", plainKeys := false, apart := false }
def FnLoadNetSaid : Prop := fnLoadNetRow.holds Try.pinned (OpenSpec.ofChange fnLoadNetSpec)

/-- ITS FALSE NEIGHBOUR: 'it returns false'. Refute it at one input. -/
def fnLoadNetWrong : ChangeSpec := { name := "fnLoadNet", fn := fun _ => fun
  | [d] => { results := [.lit (.bool false)], args := [d] }
  | _ => none }
def FnLoadNetWrongFalsely : Prop := fnLoadNetRow.holds Try.pinned (OpenSpec.ofChange fnLoadNetWrong)

/-- 'laws.FnReachLoad': WHATEVER THE INPUT: true; the input reads as it did. -/
def fnReachLoadSpec : ChangeSpec := { name := "fnReachLoad", fn := fun _ => fun
  | [d] => { results := [.lit (.bool true)], args := [d] }
  | _ => none }
def fnReachLoadRow : OpenClaim := { program := "ytaojognjkiifmaa", sum := "0cd0fafa9117dba951c77231b4ddbe811e194fdfa42d4c787e126e55d9e7217b", func := "loop.example/waymark/laws.FnReachLoad", spec := "fnReachLoad", unfollowed := true, recurses := true, plainKeys := false, apart := false }
def FnReachLoadSaid : Prop := fnReachLoadRow.holds Try.pinned (OpenSpec.ofChange fnReachLoadSpec)

/-- ITS FALSE NEIGHBOUR: 'it returns false'. Refute it at one input. -/
def fnReachLoadWrong : ChangeSpec := { name := "fnReachLoad", fn := fun _ => fun
  | [d] => { results := [.lit (.bool false)], args := [d] }
  | _ => none }
def FnReachLoadWrongFalsely : Prop := fnReachLoadRow.holds Try.pinned (OpenSpec.ofChange fnReachLoadWrong)

/-- 'laws.FnExactLoadAll': WHATEVER THE INPUT: true; the input reads as it did. -/
def fnExactLoadAllSpec : ChangeSpec := { name := "fnExactLoadAll", fn := fun _ => fun
  | [d1, d2] => { results := [.lit (.bool true)], args := [d1, d2] }
  | _ => none }
def fnExactLoadAllRow : OpenClaim := { program := "ytaojognjkiifmaa", sum := "0cd0fafa9117dba951c77231b4ddbe811e194fdfa42d4c787e126e55d9e7217b", func := "loop.example/waymark/laws.FnExactLoadAll", spec := "fnExactLoadAll", plainKeys := false, apart := false }
def FnExactLoadAllSaid : Prop := fnExactLoadAllRow.holds Try.pinned (OpenSpec.ofChange fnExactLoadAllSpec)

/-- ITS FALSE NEIGHBOUR: 'it returns false'. Refute it at one input. -/
def fnExactLoadAllWrong : ChangeSpec := { name := "fnExactLoadAll", fn := fun _ => fun
  | [d1, d2] => { results := [.lit (.bool false)], args := [d1, d2] }
  | _ => none }
def FnExactLoadAllWrongFalsely : Prop := fnExactLoadAllRow.holds Try.pinned (OpenSpec.ofChange fnExactLoadAllWrong)

/-- 'laws.FnExactLoadWalk': WHATEVER THE INPUT: true; the input reads as it did. -/
def fnExactLoadWalkSpec : ChangeSpec := { name := "fnExactLoadWalk", fn := fun _ => fun
  | [d1, d2, d3, d4] => { results := [.lit (.bool true)], args := [d1, d2, d3, d4] }
  | _ => none }
def fnExactLoadWalkRow : OpenClaim := { program := "ytaojognjkiifmaa", sum := "0cd0fafa9117dba951c77231b4ddbe811e194fdfa42d4c787e126e55d9e7217b", func := "loop.example/waymark/laws.FnExactLoadWalk", spec := "fnExactLoadWalk", unfollowed := true, recurses := true, plainKeys := false, apart := false }
def FnExactLoadWalkSaid : Prop := fnExactLoadWalkRow.holds Try.pinned (OpenSpec.ofChange fnExactLoadWalkSpec)

/-- ITS FALSE NEIGHBOUR: 'it returns false'. Refute it at one input. -/
def fnExactLoadWalkWrong : ChangeSpec := { name := "fnExactLoadWalk", fn := fun _ => fun
  | [d1, d2, d3, d4] => { results := [.lit (.bool false)], args := [d1, d2, d3, d4] }
  | _ => none }
def FnExactLoadWalkWrongFalsely : Prop := fnExactLoadWalkRow.holds Try.pinned (OpenSpec.ofChange fnExactLoadWalkWrong)

/- THE SECOND FORM. 'bulk': how many values and letters a reading holds, each counted each time it is reached (what is shared counts as often as it is met; a slice's spare places count too). A statement '..UptoSaid' is the law's where the arguments, and the package variables that the reading takes, are together of bulk at most 1048576: NARROWER than '..Said'. Prove '..Said' where nothing that the law and all that it calls make is longer than what came in: it says more and counts as full. Else prove '..UptoSaid'. A law counts once. -/
mutual
def uptoBulk {H : Type} : DataW H → Nat
  | .lit (.string bytes) => bytes.length + 1
  | .lit _ => 1
  | .nil => 1
  | .ptr d => uptoBulk d + 1
  | .slice elems spare => uptoBulkAll elems + uptoBulkAll spare + 1
  | .agg parts => uptoBulkAll parts + 1
  | .iface _ d => uptoBulk d + 1
  | .map entries => uptoBulkEntries entries + 1
  | .held _ => 1
def uptoBulkAll {H : Type} : List (DataW H) → Nat
  | [] => 0
  | d :: r => uptoBulk d + uptoBulkAll r
def uptoBulkEntries {H : Type} : List (Lit × DataW H) → Nat
  | [] => 0
  | x :: r => uptoBulkEntry x + uptoBulkEntries r
def uptoBulkEntry {H : Type} : Lit × DataW H → Nat
  | (.string bytes, d) => bytes.length + uptoBulk d + 1
  | (_, d) => uptoBulk d + 1
 end
def uptoSmall : (H : Type) → List (DataW H) → Bool := fun _ ds => decide (uptoBulkAll ds ≤ 1048576)
def OpenSpec.upto (s : _root_.Go.ChangeSpec) : _root_.Go.OpenSpec := { _root_.Go.OpenSpec.ofChange s with cond := some uptoSmall }

/-- 'laws.FnExactTurnAll', WHERE WHAT IT READS IS OF BULK AT MOST 1048576: true; the input reads as it did. -/
def fnExactTurnAllUptoRow : OpenClaim := { program := "ytaojognjkiifmaa", sum := "0cd0fafa9117dba951c77231b4ddbe811e194fdfa42d4c787e126e55d9e7217b", func := "loop.example/waymark/laws.FnExactTurnAll", spec := "fnExactTurnAll", unfollowed := true, recurses := true, plainKeys := false, apart := false, narrowed := true }
def FnExactTurnAllUptoSaid : Prop := fnExactTurnAllUptoRow.holds Try.pinned (OpenSpec.upto fnExactTurnAllSpec)

/-- 'laws.FnTurnAll', WHERE WHAT IT READS IS OF BULK AT MOST 1048576: true; the input reads as it did. -/
def fnTurnAllUptoRow : OpenClaim := { program := "ytaojognjkiifmaa", sum := "0cd0fafa9117dba951c77231b4ddbe811e194fdfa42d4c787e126e55d9e7217b", func := "loop.example/waymark/laws.FnTurnAll", spec := "fnTurnAll", unfollowed := true, recurses := true, plainKeys := false, apart := false, narrowed := true }
def FnTurnAllUptoSaid : Prop := fnTurnAllUptoRow.holds Try.pinned (OpenSpec.upto fnTurnAllSpec)

/-- 'laws.FnTurnBest', WHERE WHAT IT READS IS OF BULK AT MOST 1048576: true; the input reads as it did. -/
def fnTurnBestUptoRow : OpenClaim := { program := "ytaojognjkiifmaa", sum := "0cd0fafa9117dba951c77231b4ddbe811e194fdfa42d4c787e126e55d9e7217b", func := "loop.example/waymark/laws.FnTurnBest", spec := "fnTurnBest", unfollowed := true, recurses := true, plainKeys := false, apart := false, narrowed := true }
def FnTurnBestUptoSaid : Prop := fnTurnBestUptoRow.holds Try.pinned (OpenSpec.upto fnTurnBestSpec)

/-- 'laws.FnTurnLoad', WHERE WHAT IT READS IS OF BULK AT MOST 1048576: true; the input reads as it did. -/
def fnTurnLoadUptoRow : OpenClaim := { program := "ytaojognjkiifmaa", sum := "0cd0fafa9117dba951c77231b4ddbe811e194fdfa42d4c787e126e55d9e7217b", func := "loop.example/waymark/laws.FnTurnLoad", spec := "fnTurnLoad", unfollowed := true, recurses := true, plainKeys := false, apart := false, narrowed := true }
def FnTurnLoadUptoSaid : Prop := fnTurnLoadUptoRow.holds Try.pinned (OpenSpec.upto fnTurnLoadSpec)

/-- 'laws.FnTurnNet', WHERE WHAT IT READS IS OF BULK AT MOST 1048576: true; the input reads as it did. -/
def fnTurnNetUptoRow : OpenClaim := { program := "ytaojognjkiifmaa", sum := "0cd0fafa9117dba951c77231b4ddbe811e194fdfa42d4c787e126e55d9e7217b", func := "loop.example/waymark/laws.FnTurnNet", spec := "fnTurnNet", unfollowed := true, recurses := true, plainKeys := false, apart := false, narrowed := true }
def FnTurnNetUptoSaid : Prop := fnTurnNetUptoRow.holds Try.pinned (OpenSpec.upto fnTurnNetSpec)

/-- 'laws.FnExactBothOver', WHERE WHAT IT READS IS OF BULK AT MOST 1048576: true; the input reads as it did. -/
def fnExactBothOverUptoRow : OpenClaim := { program := "ytaojognjkiifmaa", sum := "0cd0fafa9117dba951c77231b4ddbe811e194fdfa42d4c787e126e55d9e7217b", func := "loop.example/waymark/laws.FnExactBothOver", spec := "fnExactBothOver", unfollowed := true, recurses := true, plainKeys := false, apart := false, narrowed := true }
def FnExactBothOverUptoSaid : Prop := fnExactBothOverUptoRow.holds Try.pinned (OpenSpec.upto fnExactBothOverSpec)

/-- 'laws.FnBothOver', WHERE WHAT IT READS IS OF BULK AT MOST 1048576: true; the input reads as it did. -/
def fnBothOverUptoRow : OpenClaim := { program := "ytaojognjkiifmaa", sum := "0cd0fafa9117dba951c77231b4ddbe811e194fdfa42d4c787e126e55d9e7217b", func := "loop.example/waymark/laws.FnBothOver", spec := "fnBothOver", unfollowed := true, recurses := true, plainKeys := false, apart := false, narrowed := true }
def FnBothOverUptoSaid : Prop := fnBothOverUptoRow.holds Try.pinned (OpenSpec.upto fnBothOverSpec)

/-- 'laws.FnExactLoadNet', WHERE WHAT IT READS IS OF BULK AT MOST 1048576: true; the input reads as it did. -/
def fnExactLoadNetUptoRow : OpenClaim := { program := "ytaojognjkiifmaa", sum := "0cd0fafa9117dba951c77231b4ddbe811e194fdfa42d4c787e126e55d9e7217b", func := "loop.example/waymark/laws.FnExactLoadNet", spec := "fnExactLoadNet", plainKeys := false, apart := false, narrowed := true }
def FnExactLoadNetUptoSaid : Prop := fnExactLoadNetUptoRow.holds Try.pinned (OpenSpec.upto fnExactLoadNetSpec)

/-- 'laws.FnLoadNet', WHERE WHAT IT READS IS OF BULK AT MOST 1048576: true; the input reads as it did. -/
def fnLoadNetUptoRow : OpenClaim := { program := "ytaojognjkiifmaa", sum := "0cd0fafa9117dba951c77231b4ddbe811e194fdfa42d4c787e126e55d9e7217b", func := "loop.example/waymark/laws.FnLoadNet", spec := "fnLoadNet", plainKeys := false, apart := false, narrowed := true }
def FnLoadNetUptoSaid : Prop := fnLoadNetUptoRow.holds Try.pinned (OpenSpec.upto fnLoadNetSpec)

/-- 'laws.FnReachLoad', WHERE WHAT IT READS IS OF BULK AT MOST 1048576: true; the input reads as it did. -/
def fnReachLoadUptoRow : OpenClaim := { program := "ytaojognjkiifmaa", sum := "0cd0fafa9117dba951c77231b4ddbe811e194fdfa42d4c787e126e55d9e7217b", func := "loop.example/waymark/laws.FnReachLoad", spec := "fnReachLoad", unfollowed := true, recurses := true, plainKeys := false, apart := false, narrowed := true }
def FnReachLoadUptoSaid : Prop := fnReachLoadUptoRow.holds Try.pinned (OpenSpec.upto fnReachLoadSpec)

/-- 'laws.FnExactLoadAll', WHERE WHAT IT READS IS OF BULK AT MOST 1048576: true; the input reads as it did. -/
def fnExactLoadAllUptoRow : OpenClaim := { program := "ytaojognjkiifmaa", sum := "0cd0fafa9117dba951c77231b4ddbe811e194fdfa42d4c787e126e55d9e7217b", func := "loop.example/waymark/laws.FnExactLoadAll", spec := "fnExactLoadAll", plainKeys := false, apart := false, narrowed := true }
def FnExactLoadAllUptoSaid : Prop := fnExactLoadAllUptoRow.holds Try.pinned (OpenSpec.upto fnExactLoadAllSpec)

/-- 'laws.FnExactLoadWalk', WHERE WHAT IT READS IS OF BULK AT MOST 1048576: true; the input reads as it did. -/
def fnExactLoadWalkUptoRow : OpenClaim := { program := "ytaojognjkiifmaa", sum := "0cd0fafa9117dba951c77231b4ddbe811e194fdfa42d4c787e126e55d9e7217b", func := "loop.example/waymark/laws.FnExactLoadWalk", spec := "fnExactLoadWalk", unfollowed := true, recurses := true, plainKeys := false, apart := false, narrowed := true }
def FnExactLoadWalkUptoSaid : Prop := fnExactLoadWalkUptoRow.holds Try.pinned (OpenSpec.upto fnExactLoadWalkSpec)

end Rows
end Go.Proofs.Ytaojognjkiifmaa
