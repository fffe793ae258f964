/-
  No cell of these rows narrows 'for every input' (looked for: loops, veiled, ifaces, maps, wideKeys, modest, calm, conditions, laid).
  DERIVED. THE GIVEN ROWS OF THIS SEAT. 12 by the template 'for every input the law returns true; each argument reads behind the call as it read before'; 0 by the template 'total and deterministic' (their statements: YtgeoheeibebmcaaTotals.lean).
  GIVEN WITH THE SEED: the statements are not yours to turn. If you find one false, say at which input.
  Laid BY PROGRAM, IN A SANDBOX (cutbox-rows.mjs): the forced cells as the released guide's own fill.sh prints them over the translation 2d3a1d2474f814a1… (all of the seat's roots in one cut). By AI agents, Wed Nov 11 2026. No macro, syntax, notation, axiom, sorry.
-/
import Derived.Test.YtgeoheeibebmcaaChecked
import GoSem.Claim
import GoSem.ClaimJoined
import GoSem.ClaimMapViews
import Derived.JoinedTies
import Derived.KernelRfl
namespace Go.Proofs.Ytgeoheeibebmcaa
/- THE CELL 'sum', in the pinned program and in every row, IS THE sha256 OF THE DUMP (.gsa) THAT YtgeoheeibebmcaaProg.lean LOADS. Nothing in Lean hashes anything: it is a label: what it is worth is what the hold of that sum in a sandbox is worth. -/
noncomputable def Try.pinned : Pinned := { name := "ytgeoheeibebmcaa", sum := "2d3a1d2474f814a1ce77bc68c6042540338262a45182ba6df664c50371c3d114", checked := Try.checked }
namespace Rows
def none {H : Type} : Left H := { results := [], args := [] }

/-- 'laws.FnExactMarkBound': WHATEVER THE INPUT: true; the input reads as it did. -/
def fnExactMarkBoundSpec : ChangeSpec := { name := "fnExactMarkBound", fn := fun _ => fun
  | [d1, d2, d3, d4] => { results := [.lit (.bool true)], args := [d1, d2, d3, d4] }
  | _ => none }
def fnExactMarkBoundRow : OpenClaim := { program := "ytgeoheeibebmcaa", sum := "2d3a1d2474f814a1ce77bc68c6042540338262a45182ba6df664c50371c3d114", func := "loop.example/waymark/laws.FnExactMarkBound", spec := "fnExactMarkBound", unfollowed := true, recurses := true, plainKeys := false, apart := false }
def FnExactMarkBoundSaid : Prop := fnExactMarkBoundRow.holds Try.pinned (OpenSpec.ofChange fnExactMarkBoundSpec)

/-- ITS FALSE NEIGHBOUR: 'it returns false'. Refute it at one input. -/
def fnExactMarkBoundWrong : ChangeSpec := { name := "fnExactMarkBound", fn := fun _ => fun
  | [d1, d2, d3, d4] => { results := [.lit (.bool false)], args := [d1, d2, d3, d4] }
  | _ => none }
def FnExactMarkBoundWrongFalsely : Prop := fnExactMarkBoundRow.holds Try.pinned (OpenSpec.ofChange fnExactMarkBoundWrong)

/-- 'laws.FnExactMarkNear': WHATEVER THE INPUT: true; the input reads as it did. -/
def fnExactMarkNearSpec : ChangeSpec := { name := "fnExactMarkNear", fn := fun _ => fun
  | [d1, d2, d3, d4] => { results := [.lit (.bool true)], args := [d1, d2, d3, d4] }
  | _ => none }
def fnExactMarkNearRow : OpenClaim := { program := "ytgeoheeibebmcaa", sum := "2d3a1d2474f814a1ce77bc68c6042540338262a45182ba6df664c50371c3d114", func := "loop.example/waymark/laws.FnExactMarkNear", spec := "fnExactMarkNear", unfollowed := true, recurses := true, plainKeys := false, apart := false }
def FnExactMarkNearSaid : Prop := fnExactMarkNearRow.holds Try.pinned (OpenSpec.ofChange fnExactMarkNearSpec)

/-- ITS FALSE NEIGHBOUR: 'it returns false'. Refute it at one input. -/
def fnExactMarkNearWrong : ChangeSpec := { name := "fnExactMarkNear", fn := fun _ => fun
  | [d1, d2, d3, d4] => { results := [.lit (.bool false)], args := [d1, d2, d3, d4] }
  | _ => none }
def FnExactMarkNearWrongFalsely : Prop := fnExactMarkNearRow.holds Try.pinned (OpenSpec.ofChange fnExactMarkNearWrong)

/-- 'laws.FnExactMarkPick': WHATEVER THE INPUT: true; the input reads as it did. -/
def fnExactMarkPickSpec : ChangeSpec := { name := "fnExactMarkPick", fn := fun _ => fun
  | [d1, d2] => { results := [.lit (.bool true)], args := [d1, d2] }
  | _ => none }
def fnExactMarkPickRow : OpenClaim := { program := "ytgeoheeibebmcaa", sum := "2d3a1d2474f814a1ce77bc68c6042540338262a45182ba6df664c50371c3d114", func := "loop.example/waymark/laws.FnExactMarkPick", spec := "fnExactMarkPick", unfollowed := true, recurses := true, plainKeys := false, apart := false }
def FnExactMarkPickSaid : Prop := fnExactMarkPickRow.holds Try.pinned (OpenSpec.ofChange fnExactMarkPickSpec)

/-- ITS FALSE NEIGHBOUR: 'it returns false'. Refute it at one input. -/
def fnExactMarkPickWrong : ChangeSpec := { name := "fnExactMarkPick", fn := fun _ => fun
  | [d1, d2] => { results := [.lit (.bool false)], args := [d1, d2] }
  | _ => none }
def FnExactMarkPickWrongFalsely : Prop := fnExactMarkPickRow.holds Try.pinned (OpenSpec.ofChange fnExactMarkPickWrong)

/-- 'laws.FnExactReachIn': WHATEVER THE INPUT: true; the input reads as it did. -/
def fnExactReachInSpec : ChangeSpec := { name := "fnExactReachIn", fn := fun _ => fun
  | [d1, d2, d3] => { results := [.lit (.bool true)], args := [d1, d2, d3] }
  | _ => none }
def fnExactReachInRow : OpenClaim := { program := "ytgeoheeibebmcaa", sum := "2d3a1d2474f814a1ce77bc68c6042540338262a45182ba6df664c50371c3d114", func := "loop.example/waymark/laws.FnExactReachIn", spec := "fnExactReachIn", unfollowed := true, recurses := true, plainKeys := false, apart := false }
def FnExactReachInSaid : Prop := fnExactReachInRow.holds Try.pinned (OpenSpec.ofChange fnExactReachInSpec)

/-- ITS FALSE NEIGHBOUR: 'it returns false'. Refute it at one input. -/
def fnExactReachInWrong : ChangeSpec := { name := "fnExactReachIn", fn := fun _ => fun
  | [d1, d2, d3] => { results := [.lit (.bool false)], args := [d1, d2, d3] }
  | _ => none }
def FnExactReachInWrongFalsely : Prop := fnExactReachInRow.holds Try.pinned (OpenSpec.ofChange fnExactReachInWrong)

/-- 'laws.FnExactReachArcs': WHATEVER THE INPUT: true; the input reads as it did. -/
def fnExactReachArcsSpec : ChangeSpec := { name := "fnExactReachArcs", fn := fun _ => fun
  | [d1, d2, d3] => { results := [.lit (.bool true)], args := [d1, d2, d3] }
  | _ => none }
def fnExactReachArcsRow : OpenClaim := { program := "ytgeoheeibebmcaa", sum := "2d3a1d2474f814a1ce77bc68c6042540338262a45182ba6df664c50371c3d114", func := "loop.example/waymark/laws.FnExactReachArcs", spec := "fnExactReachArcs", unfollowed := true, recurses := true, plainKeys := false, apart := false }
def FnExactReachArcsSaid : Prop := fnExactReachArcsRow.holds Try.pinned (OpenSpec.ofChange fnExactReachArcsSpec)

/-- ITS FALSE NEIGHBOUR: 'it returns false'. Refute it at one input. -/
def fnExactReachArcsWrong : ChangeSpec := { name := "fnExactReachArcs", fn := fun _ => fun
  | [d1, d2, d3] => { results := [.lit (.bool false)], args := [d1, d2, d3] }
  | _ => none }
def FnExactReachArcsWrongFalsely : Prop := fnExactReachArcsRow.holds Try.pinned (OpenSpec.ofChange fnExactReachArcsWrong)

/-- 'laws.FnExactReachParts': WHATEVER THE INPUT: true; the input reads as it did. -/
def fnExactReachPartsSpec : ChangeSpec := { name := "fnExactReachParts", fn := fun _ => fun
  | [d] => { results := [.lit (.bool true)], args := [d] }
  | _ => none }
def fnExactReachPartsRow : OpenClaim := { program := "ytgeoheeibebmcaa", sum := "2d3a1d2474f814a1ce77bc68c6042540338262a45182ba6df664c50371c3d114", func := "loop.example/waymark/laws.FnExactReachParts", spec := "fnExactReachParts", unfollowed := true, recurses := true, plainKeys := false, apart := false }
def FnExactReachPartsSaid : Prop := fnExactReachPartsRow.holds Try.pinned (OpenSpec.ofChange fnExactReachPartsSpec)

/-- ITS FALSE NEIGHBOUR: 'it returns false'. Refute it at one input. -/
def fnExactReachPartsWrong : ChangeSpec := { name := "fnExactReachParts", fn := fun _ => fun
  | [d] => { results := [.lit (.bool false)], args := [d] }
  | _ => none }
def FnExactReachPartsWrongFalsely : Prop := fnExactReachPartsRow.holds Try.pinned (OpenSpec.ofChange fnExactReachPartsWrong)

/-- 'laws.FnExactReachFar': WHATEVER THE INPUT: true; the input reads as it did. -/
def fnExactReachFarSpec : ChangeSpec := { name := "fnExactReachFar", fn := fun _ => fun
  | [d] => { results := [.lit (.bool true)], args := [d] }
  | _ => none }
def fnExactReachFarRow : OpenClaim := { program := "ytgeoheeibebmcaa", sum := "2d3a1d2474f814a1ce77bc68c6042540338262a45182ba6df664c50371c3d114", func := "loop.example/waymark/laws.FnExactReachFar", spec := "fnExactReachFar", unfollowed := true, recurses := true, plainKeys := false, apart := false }
def FnExactReachFarSaid : Prop := fnExactReachFarRow.holds Try.pinned (OpenSpec.ofChange fnExactReachFarSpec)

/-- ITS FALSE NEIGHBOUR: 'it returns false'. Refute it at one input. -/
def fnExactReachFarWrong : ChangeSpec := { name := "fnExactReachFar", fn := fun _ => fun
  | [d] => { results := [.lit (.bool false)], args := [d] }
  | _ => none }
def FnExactReachFarWrongFalsely : Prop := fnExactReachFarRow.holds Try.pinned (OpenSpec.ofChange fnExactReachFarWrong)

/-- 'laws.FnExactSomeShare': WHATEVER THE INPUT: true; the input reads as it did. -/
def fnExactSomeShareSpec : ChangeSpec := { name := "fnExactSomeShare", fn := fun _ => fun
  | [d1, d2, d3] => { results := [.lit (.bool true)], args := [d1, d2, d3] }
  | _ => none }
def fnExactSomeShareRow : OpenClaim := { program := "ytgeoheeibebmcaa", sum := "2d3a1d2474f814a1ce77bc68c6042540338262a45182ba6df664c50371c3d114", func := "loop.example/waymark/laws.FnExactSomeShare", spec := "fnExactSomeShare", plainKeys := false, apart := false }
def FnExactSomeShareSaid : Prop := fnExactSomeShareRow.holds Try.pinned (OpenSpec.ofChange fnExactSomeShareSpec)

/-- ITS FALSE NEIGHBOUR: 'it returns false'. Refute it at one input. -/
def fnExactSomeShareWrong : ChangeSpec := { name := "fnExactSomeShare", fn := fun _ => fun
  | [d1, d2, d3] => { results := [.lit (.bool false)], args := [d1, d2, d3] }
  | _ => none }
def FnExactSomeShareWrongFalsely : Prop := fnExactSomeShareRow.holds Try.pinned (OpenSpec.ofChange fnExactSomeShareWrong)

/-- 'laws.FnExactSeenCost': WHATEVER THE INPUT: true; the input reads as it did. -/
def fnExactSeenCostSpec : ChangeSpec := { name := "fnExactSeenCost", fn := fun _ => fun
  | [d1, d2, d3] => { results := [.lit (.bool true)], args := [d1, d2, d3] }
  | _ => none }
def fnExactSeenCostRow : OpenClaim := { program := "ytgeoheeibebmcaa", sum := "2d3a1d2474f814a1ce77bc68c6042540338262a45182ba6df664c50371c3d114", func := "loop.example/waymark/laws.FnExactSeenCost", spec := "fnExactSeenCost", unfollowed := true, recurses := true, plainKeys := false, apart := false }
def FnExactSeenCostSaid : Prop := fnExactSeenCostRow.holds Try.pinned (OpenSpec.ofChange fnExactSeenCostSpec)

/-- ITS FALSE NEIGHBOUR: 'it returns false'. Refute it at one input. -/
def fnExactSeenCostWrong : ChangeSpec := { name := "fnExactSeenCost", fn := fun _ => fun
  | [d1, d2, d3] => { results := [.lit (.bool false)], args := [d1, d2, d3] }
  | _ => none }
def FnExactSeenCostWrongFalsely : Prop := fnExactSeenCostRow.holds Try.pinned (OpenSpec.ofChange fnExactSeenCostWrong)

/-- 'laws.FnExactSeenBest': WHATEVER THE INPUT: true; the input reads as it did. -/
def fnExactSeenBestSpec : ChangeSpec := { name := "fnExactSeenBest", fn := fun _ => fun
  | [d1, d2] => { results := [.lit (.bool true)], args := [d1, d2] }
  | _ => none }
def fnExactSeenBestRow : OpenClaim := { program := "ytgeoheeibebmcaa", sum := "2d3a1d2474f814a1ce77bc68c6042540338262a45182ba6df664c50371c3d114", func := "loop.example/waymark/laws.FnExactSeenBest", spec := "fnExactSeenBest", unfollowed := true, recurses := true, plainKeys := false, apart := false }
def FnExactSeenBestSaid : Prop := fnExactSeenBestRow.holds Try.pinned (OpenSpec.ofChange fnExactSeenBestSpec)

/-- ITS FALSE NEIGHBOUR: 'it returns false'. Refute it at one input. -/
def fnExactSeenBestWrong : ChangeSpec := { name := "fnExactSeenBest", fn := fun _ => fun
  | [d1, d2] => { results := [.lit (.bool false)], args := [d1, d2] }
  | _ => none }
def FnExactSeenBestWrongFalsely : Prop := fnExactSeenBestRow.holds Try.pinned (OpenSpec.ofChange fnExactSeenBestWrong)

/-- 'laws.FnExactTurnAll': WHATEVER THE INPUT: true; the input reads as it did. -/
def fnExactTurnAllSpec : ChangeSpec := { name := "fnExactTurnAll", fn := fun _ => fun
  | [d1, d2, d3] => { results := [.lit (.bool true)], args := [d1, d2, d3] }
  | _ => none }
def fnExactTurnAllRow : OpenClaim := { program := "ytgeoheeibebmcaa", sum := "2d3a1d2474f814a1ce77bc68c6042540338262a45182ba6df664c50371c3d114", func := "loop.example/waymark/laws.FnExactTurnAll", spec := "fnExactTurnAll", unfollowed := true, recurses := true, plainKeys := false, apart := false }
def FnExactTurnAllSaid : Prop := fnExactTurnAllRow.holds Try.pinned (OpenSpec.ofChange fnExactTurnAllSpec)

/-- ITS FALSE NEIGHBOUR: 'it returns false'. Refute it at one input. -/
def fnExactTurnAllWrong : ChangeSpec := { name := "fnExactTurnAll", fn := fun _ => fun
  | [d1, d2, d3] => { results := [.lit (.bool false)], args := [d1, d2, d3] }
  | _ => none }
def FnExactTurnAllWrongFalsely : Prop := fnExactTurnAllRow.holds Try.pinned (OpenSpec.ofChange fnExactTurnAllWrong)

/-- 'laws.FnExactSomeWalks': WHATEVER THE INPUT: true; the input reads as it did. -/
def fnExactSomeWalksSpec : ChangeSpec := { name := "fnExactSomeWalks", fn := fun _ => fun
  | [d1, d2, d3, d4] => { results := [.lit (.bool true)], args := [d1, d2, d3, d4] }
  | _ => none }
def fnExactSomeWalksRow : OpenClaim := { program := "ytgeoheeibebmcaa", sum := "2d3a1d2474f814a1ce77bc68c6042540338262a45182ba6df664c50371c3d114", func := "loop.example/waymark/laws.FnExactSomeWalks", spec := "fnExactSomeWalks", unfollowed := true, recurses := true, plainKeys := false, apart := false }
def FnExactSomeWalksSaid : Prop := fnExactSomeWalksRow.holds Try.pinned (OpenSpec.ofChange fnExactSomeWalksSpec)

/-- ITS FALSE NEIGHBOUR: 'it returns false'. Refute it at one input. -/
def fnExactSomeWalksWrong : ChangeSpec := { name := "fnExactSomeWalks", fn := fun _ => fun
  | [d1, d2, d3, d4] => { results := [.lit (.bool false)], args := [d1, d2, d3, d4] }
  | _ => none }
def FnExactSomeWalksWrongFalsely : Prop := fnExactSomeWalksRow.holds Try.pinned (OpenSpec.ofChange fnExactSomeWalksWrong)

/- THE SECOND FORM. 'bulk': how many values and letters a reading holds, each counted each time it is reached (what is shared counts as often as it is met; a slice's spare places count too). A statement '..UptoSaid' is the law's where the arguments, and the package variables that the reading takes, are together of bulk at most 1048576: NARROWER than '..Said'. Prove '..Said' where nothing that the law and all that it calls make is longer than what came in: it says more and counts as full. Else prove '..UptoSaid'. A law counts once. -/
mutual
def uptoBulk {H : Type} : DataW H → Nat
  | .lit (.string bytes) => bytes.length + 1
  | .lit _ => 1
  | .nil => 1
  | .ptr d => uptoBulk d + 1
  | .slice elems spare => uptoBulkAll elems + uptoBulkAll spare + 1
  | .agg parts => uptoBulkAll parts + 1
  | .iface _ d => uptoBulk d + 1
  | .map entries => uptoBulkEntries entries + 1
  | .held _ => 1
def uptoBulkAll {H : Type} : List (DataW H) → Nat
  | [] => 0
  | d :: r => uptoBulk d + uptoBulkAll r
def uptoBulkEntries {H : Type} : List (Lit × DataW H) → Nat
  | [] => 0
  | x :: r => uptoBulkEntry x + uptoBulkEntries r
def uptoBulkEntry {H : Type} : Lit × DataW H → Nat
  | (.string bytes, d) => bytes.length + uptoBulk d + 1
  | (_, d) => uptoBulk d + 1
 end
def uptoSmall : (H : Type) → List (DataW H) → Bool := fun _ ds => decide (uptoBulkAll ds ≤ 1048576)
def OpenSpec.upto (s : _root_.Go.ChangeSpec) : _root_.Go.OpenSpec := { _root_.Go.OpenSpec.ofChange s with cond := some uptoSmall }

/-- 'laws.FnExactMarkBound', WHERE WHAT IT READS IS OF BULK AT MOST 1048576: true; the input reads as it did. -/
def fnExactMarkBoundUptoRow : OpenClaim := { program := "ytgeoheeibebmcaa", sum := "2d3a1d2474f814a1ce77bc68c6042540338262a45182ba6df664c50371c3d114", func := "loop.example/waymark/laws.FnExactMarkBound", spec := "fnExactMarkBound", unfollowed := true, recurses := true, plainKeys := false, apart := false, narrowed := true }
def FnExactMarkBoundUptoSaid : Prop := fnExactMarkBoundUptoRow.holds Try.pinned (OpenSpec.upto fnExactMarkBoundSpec)

/-- 'laws.FnExactMarkNear', WHERE WHAT IT READS IS OF BULK AT MOST 1048576: true; the input reads as it did. -/
def fnExactMarkNearUptoRow : OpenClaim := { program := "ytgeoheeibebmcaa", sum := "2d3a1d2474f814a1ce77bc68c6042540338262a45182ba6df664c50371c3d114", func := "loop.example/waymark/laws.FnExactMarkNear", spec := "fnExactMarkNear", unfollowed := true, recurses := true, plainKeys := false, apart := false, narrowed := true }
def FnExactMarkNearUptoSaid : Prop := fnExactMarkNearUptoRow.holds Try.pinned (OpenSpec.upto fnExactMarkNearSpec)

/-- 'laws.FnExactMarkPick', WHERE WHAT IT READS IS OF BULK AT MOST 1048576: true; the input reads as it did. -/
def fnExactMarkPickUptoRow : OpenClaim := { program := "ytgeoheeibebmcaa", sum := "2d3a1d2474f814a1ce77bc68c6042540338262a45182ba6df664c50371c3d114", func := "loop.example/waymark/laws.FnExactMarkPick", spec := "fnExactMarkPick", unfollowed := true, recurses := true, plainKeys := false, apart := false, narrowed := true }
def FnExactMarkPickUptoSaid : Prop := fnExactMarkPickUptoRow.holds Try.pinned (OpenSpec.upto fnExactMarkPickSpec)

/-- 'laws.FnExactReachIn', WHERE WHAT IT READS IS OF BULK AT MOST 1048576: true; the input reads as it did. -/
def fnExactReachInUptoRow : OpenClaim := { program := "ytgeoheeibebmcaa", sum := "2d3a1d2474f814a1ce77bc68c6042540338262a45182ba6df664c50371c3d114", func := "loop.example/waymark/laws.FnExactReachIn", spec := "fnExactReachIn", unfollowed := true, recurses := true, plainKeys := false, apart := false, narrowed := true }
def FnExactReachInUptoSaid : Prop := fnExactReachInUptoRow.holds Try.pinned (OpenSpec.upto fnExactReachInSpec)

/-- 'laws.FnExactReachArcs', WHERE WHAT IT READS IS OF BULK AT MOST 1048576: true; the input reads as it did. -/
def fnExactReachArcsUptoRow : OpenClaim := { program := "ytgeoheeibebmcaa", sum := "2d3a1d2474f814a1ce77bc68c6042540338262a45182ba6df664c50371c3d114", func := "loop.example/waymark/laws.FnExactReachArcs", spec := "fnExactReachArcs", unfollowed := true, recurses := true, plainKeys := false, apart := false, narrowed := true }
def FnExactReachArcsUptoSaid : Prop := fnExactReachArcsUptoRow.holds Try.pinned (OpenSpec.upto fnExactReachArcsSpec)

/-- 'laws.FnExactReachParts', WHERE WHAT IT READS IS OF BULK AT MOST 1048576: true; the input reads as it did. -/
def fnExactReachPartsUptoRow : OpenClaim := { program := "ytgeoheeibebmcaa", sum := "2d3a1d2474f814a1ce77bc68c6042540338262a45182ba6df664c50371c3d114", func := "loop.example/waymark/laws.FnExactReachParts", spec := "fnExactReachParts", unfollowed := true, recurses := true, plainKeys := false, apart := false, narrowed := true }
def FnExactReachPartsUptoSaid : Prop := fnExactReachPartsUptoRow.holds Try.pinned (OpenSpec.upto fnExactReachPartsSpec)

/-- 'laws.FnExactReachFar', WHERE WHAT IT READS IS OF BULK AT MOST 1048576: true; the input reads as it did. -/
def fnExactReachFarUptoRow : OpenClaim := { program := "ytgeoheeibebmcaa", sum := "2d3a1d2474f814a1ce77bc68c6042540338262a45182ba6df664c50371c3d114", func := "loop.example/waymark/laws.FnExactReachFar", spec := "fnExactReachFar", unfollowed := true, recurses := true, plainKeys := false, apart := false, narrowed := true }
def FnExactReachFarUptoSaid : Prop := fnExactReachFarUptoRow.holds Try.pinned (OpenSpec.upto fnExactReachFarSpec)

/-- 'laws.FnExactSomeShare', WHERE WHAT IT READS IS OF BULK AT MOST 1048576: true; the input reads as it did. -/
def fnExactSomeShareUptoRow : OpenClaim := { program := "ytgeoheeibebmcaa", sum := "2d3a1d2474f814a1ce77bc68c6042540338262a45182ba6df664c50371c3d114", func := "loop.example/waymark/laws.FnExactSomeShare", spec := "fnExactSomeShare", plainKeys := false, apart := false, narrowed := true }
def FnExactSomeShareUptoSaid : Prop := fnExactSomeShareUptoRow.holds Try.pinned (OpenSpec.upto fnExactSomeShareSpec)

/-- 'laws.FnExactSeenCost', WHERE WHAT IT READS IS OF BULK AT MOST 1048576: true; the input reads as it did. -/
def fnExactSeenCostUptoRow : OpenClaim := { program := "ytgeoheeibebmcaa", sum := "2d3a1d2474f814a1ce77bc68c6042540338262a45182ba6df664c50371c3d114", func := "loop.example/waymark/laws.FnExactSeenCost", spec := "fnExactSeenCost", unfollowed := true, recurses := true, plainKeys := false, apart := false, narrowed := true }
def FnExactSeenCostUptoSaid : Prop := fnExactSeenCostUptoRow.holds Try.pinned (OpenSpec.upto fnExactSeenCostSpec)

/-- 'laws.FnExactSeenBest', WHERE WHAT IT READS IS OF BULK AT MOST 1048576: true; the input reads as it did. -/
def fnExactSeenBestUptoRow : OpenClaim := { program := "ytgeoheeibebmcaa", sum := "2d3a1d2474f814a1ce77bc68c6042540338262a45182ba6df664c50371c3d114", func := "loop.example/waymark/laws.FnExactSeenBest", spec := "fnExactSeenBest", unfollowed := true, recurses := true, plainKeys := false, apart := false, narrowed := true }
def FnExactSeenBestUptoSaid : Prop := fnExactSeenBestUptoRow.holds Try.pinned (OpenSpec.upto fnExactSeenBestSpec)

/-- 'laws.FnExactTurnAll', WHERE WHAT IT READS IS OF BULK AT MOST 1048576: true; the input reads as it did. -/
def fnExactTurnAllUptoRow : OpenClaim := { program := "ytgeoheeibebmcaa", sum := "2d3a1d2474f814a1ce77bc68c6042540338262a45182ba6df664c50371c3d114", func := "loop.example/waymark/laws.FnExactTurnAll", spec := "fnExactTurnAll", unfollowed := true, recurses := true, plainKeys := false, apart := false, narrowed := true }
def FnExactTurnAllUptoSaid : Prop := fnExactTurnAllUptoRow.holds Try.pinned (OpenSpec.upto fnExactTurnAllSpec)

/-- 'laws.FnExactSomeWalks', WHERE WHAT IT READS IS OF BULK AT MOST 1048576: true; the input reads as it did. -/
def fnExactSomeWalksUptoRow : OpenClaim := { program := "ytgeoheeibebmcaa", sum := "2d3a1d2474f814a1ce77bc68c6042540338262a45182ba6df664c50371c3d114", func := "loop.example/waymark/laws.FnExactSomeWalks", spec := "fnExactSomeWalks", unfollowed := true, recurses := true, plainKeys := false, apart := false, narrowed := true }
def FnExactSomeWalksUptoSaid : Prop := fnExactSomeWalksUptoRow.holds Try.pinned (OpenSpec.upto fnExactSomeWalksSpec)

end Rows
end Go.Proofs.Ytgeoheeibebmcaa
