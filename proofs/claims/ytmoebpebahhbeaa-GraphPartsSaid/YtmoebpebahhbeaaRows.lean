/-
  No cell of these rows narrows 'for every input' (looked for: loops, veiled, ifaces, maps, wideKeys, modest, calm, conditions, laid).
  DERIVED. THE GIVEN ROWS OF THIS SEAT. 5 by the template 'for every input the law returns true; each argument reads behind the call as it read before'; 0 by the template 'total and deterministic' (their statements: YtmoebpebahhbeaaTotals.lean).
  GIVEN WITH THE SEED: the statements are not yours to turn. If you find one false, say at which input.
  Laid BY PROGRAM, IN A SANDBOX (cutbox-rows.mjs): the forced cells as the released guide's own fill.sh prints them over the translation c4b77388ad6434f7… (all of the seat's roots in one cut). By AI agents, Wed Nov 11 2026. No macro, syntax, notation, axiom, sorry.
-/
import Derived.Test.YtmoebpebahhbeaaChecked
import GoSem.Claim
import GoSem.ClaimJoined
import GoSem.ClaimMapViews
import Derived.JoinedTies
import Derived.KernelRfl
namespace Go.Proofs.Ytmoebpebahhbeaa
/- THE CELL 'sum', in the pinned program and in every row, IS THE sha256 OF THE DUMP (.gsa) THAT YtmoebpebahhbeaaProg.lean LOADS. Nothing in Lean hashes anything: it is a label: what it is worth is what the hold of that sum in a sandbox is worth. -/
noncomputable def Try.pinned : Pinned := { name := "ytmoebpebahhbeaa", sum := "c4b77388ad6434f7f1e1687668db0eab1651b8cc221289f8fb70e34ff08d018c", checked := Try.checked }
namespace Rows
def none {H : Type} : Left H := { results := [], args := [] }

/-- 'hammocklaw07.GraphPlays': WHATEVER THE INPUT: true; the input reads as it did. -/
def graphPlaysSpec : ChangeSpec := { name := "graphPlays", fn := fun _ => fun
  | [d1, d2, d3] => { results := [.lit (.bool true)], args := [d1, d2, d3] }
  | _ => none }
def graphPlaysRow : OpenClaim := { program := "ytmoebpebahhbeaa", sum := "c4b77388ad6434f7f1e1687668db0eab1651b8cc221289f8fb70e34ff08d018c", func := "hammock/hammocklaw07.GraphPlays", spec := "graphPlays", unfollowed := true, recurses := true, apart := false }
def GraphPlaysSaid : Prop := graphPlaysRow.holds Try.pinned (OpenSpec.ofChange graphPlaysSpec)

/-- ITS FALSE NEIGHBOUR: 'it returns false'. Refute it at one input. -/
def graphPlaysWrong : ChangeSpec := { name := "graphPlays", fn := fun _ => fun
  | [d1, d2, d3] => { results := [.lit (.bool false)], args := [d1, d2, d3] }
  | _ => none }
def GraphPlaysWrongFalsely : Prop := graphPlaysRow.holds Try.pinned (OpenSpec.ofChange graphPlaysWrong)

/-- 'hammocklaw07.GraphSizes': WHATEVER THE INPUT: true; the input reads as it did. -/
def graphSizesSpec : ChangeSpec := { name := "graphSizes", fn := fun _ => fun
  | [d] => { results := [.lit (.bool true)], args := [d] }
  | _ => none }
def graphSizesRow : OpenClaim := { program := "ytmoebpebahhbeaa", sum := "c4b77388ad6434f7f1e1687668db0eab1651b8cc221289f8fb70e34ff08d018c", func := "hammock/hammocklaw07.GraphSizes", spec := "graphSizes", unfollowed := true, recurses := true, apart := false }
def GraphSizesSaid : Prop := graphSizesRow.holds Try.pinned (OpenSpec.ofChange graphSizesSpec)

/-- ITS FALSE NEIGHBOUR: 'it returns false'. Refute it at one input. -/
def graphSizesWrong : ChangeSpec := { name := "graphSizes", fn := fun _ => fun
  | [d] => { results := [.lit (.bool false)], args := [d] }
  | _ => none }
def GraphSizesWrongFalsely : Prop := graphSizesRow.holds Try.pinned (OpenSpec.ofChange graphSizesWrong)

/-- 'hammocklaw07.GraphParts': WHATEVER THE INPUT: true; the input reads as it did. -/
def graphPartsSpec : ChangeSpec := { name := "graphParts", fn := fun _ => fun
  | [d1, d2] => { results := [.lit (.bool true)], args := [d1, d2] }
  | _ => none }
def graphPartsRow : OpenClaim := { program := "ytmoebpebahhbeaa", sum := "c4b77388ad6434f7f1e1687668db0eab1651b8cc221289f8fb70e34ff08d018c", func := "hammock/hammocklaw07.GraphParts", spec := "graphParts", unfollowed := true, recurses := true, apart := false }
def GraphPartsSaid : Prop := graphPartsRow.holds Try.pinned (OpenSpec.ofChange graphPartsSpec)

/-- ITS FALSE NEIGHBOUR: 'it returns false'. Refute it at one input. -/
def graphPartsWrong : ChangeSpec := { name := "graphParts", fn := fun _ => fun
  | [d1, d2] => { results := [.lit (.bool false)], args := [d1, d2] }
  | _ => none }
def GraphPartsWrongFalsely : Prop := graphPartsRow.holds Try.pinned (OpenSpec.ofChange graphPartsWrong)

/-- 'hammocklaw07.GraphRings': WHATEVER THE INPUT: true; the input reads as it did. -/
def graphRingsSpec : ChangeSpec := { name := "graphRings", fn := fun _ => fun
  | [d1, d2, d3, d4] => { results := [.lit (.bool true)], args := [d1, d2, d3, d4] }
  | _ => none }
def graphRingsRow : OpenClaim := { program := "ytmoebpebahhbeaa", sum := "c4b77388ad6434f7f1e1687668db0eab1651b8cc221289f8fb70e34ff08d018c", func := "hammock/hammocklaw07.GraphRings", spec := "graphRings", unfollowed := true, recurses := true, apart := false }
def GraphRingsSaid : Prop := graphRingsRow.holds Try.pinned (OpenSpec.ofChange graphRingsSpec)

/-- ITS FALSE NEIGHBOUR: 'it returns false'. Refute it at one input. -/
def graphRingsWrong : ChangeSpec := { name := "graphRings", fn := fun _ => fun
  | [d1, d2, d3, d4] => { results := [.lit (.bool false)], args := [d1, d2, d3, d4] }
  | _ => none }
def GraphRingsWrongFalsely : Prop := graphRingsRow.holds Try.pinned (OpenSpec.ofChange graphRingsWrong)

/-- 'hammocklaw07.GraphDoubled': WHATEVER THE INPUT: true; the input reads as it did. -/
def graphDoubledSpec : ChangeSpec := { name := "graphDoubled", fn := fun _ => fun
  | [d1, d2, d3] => { results := [.lit (.bool true)], args := [d1, d2, d3] }
  | _ => none }
def graphDoubledRow : OpenClaim := { program := "ytmoebpebahhbeaa", sum := "c4b77388ad6434f7f1e1687668db0eab1651b8cc221289f8fb70e34ff08d018c", func := "hammock/hammocklaw07.GraphDoubled", spec := "graphDoubled", unfollowed := true, recurses := true, apart := false }
def GraphDoubledSaid : Prop := graphDoubledRow.holds Try.pinned (OpenSpec.ofChange graphDoubledSpec)

/-- ITS FALSE NEIGHBOUR: 'it returns false'. Refute it at one input. -/
def graphDoubledWrong : ChangeSpec := { name := "graphDoubled", fn := fun _ => fun
  | [d1, d2, d3] => { results := [.lit (.bool false)], args := [d1, d2, d3] }
  | _ => none }
def GraphDoubledWrongFalsely : Prop := graphDoubledRow.holds Try.pinned (OpenSpec.ofChange graphDoubledWrong)

/- THE SECOND FORM. 'bulk': how many values and letters a reading holds, each counted each time it is reached (what is shared counts as often as it is met; a slice's spare places count too). A statement '..UptoSaid' is the law's where the arguments, and the package variables that the reading takes, are together of bulk at most 1048576: NARROWER than '..Said'. Prove '..Said' where nothing that the law and all that it calls make is longer than what came in: it says more and counts as full. Else prove '..UptoSaid'. A law counts once. -/
mutual
def uptoBulk {H : Type} : DataW H → Nat
  | .lit (.string bytes) => bytes.length + 1
  | .lit _ => 1
  | .nil => 1
  | .ptr d => uptoBulk d + 1
  | .slice elems spare => uptoBulkAll elems + uptoBulkAll spare + 1
  | .agg parts => uptoBulkAll parts + 1
  | .iface _ d => uptoBulk d + 1
  | .map entries => uptoBulkEntries entries + 1
  | .held _ => 1
def uptoBulkAll {H : Type} : List (DataW H) → Nat
  | [] => 0
  | d :: r => uptoBulk d + uptoBulkAll r
def uptoBulkEntries {H : Type} : List (Lit × DataW H) → Nat
  | [] => 0
  | x :: r => uptoBulkEntry x + uptoBulkEntries r
def uptoBulkEntry {H : Type} : Lit × DataW H → Nat
  | (.string bytes, d) => bytes.length + uptoBulk d + 1
  | (_, d) => uptoBulk d + 1
 end
def uptoSmall : (H : Type) → List (DataW H) → Bool := fun _ ds => decide (uptoBulkAll ds ≤ 1048576)
def OpenSpec.upto (s : _root_.Go.ChangeSpec) : _root_.Go.OpenSpec := { _root_.Go.OpenSpec.ofChange s with cond := some uptoSmall }

/-- 'hammocklaw07.GraphPlays', WHERE WHAT IT READS IS OF BULK AT MOST 1048576: true; the input reads as it did. -/
def graphPlaysUptoRow : OpenClaim := { program := "ytmoebpebahhbeaa", sum := "c4b77388ad6434f7f1e1687668db0eab1651b8cc221289f8fb70e34ff08d018c", func := "hammock/hammocklaw07.GraphPlays", spec := "graphPlays", unfollowed := true, recurses := true, apart := false, narrowed := true }
def GraphPlaysUptoSaid : Prop := graphPlaysUptoRow.holds Try.pinned (OpenSpec.upto graphPlaysSpec)

/-- 'hammocklaw07.GraphSizes', WHERE WHAT IT READS IS OF BULK AT MOST 1048576: true; the input reads as it did. -/
def graphSizesUptoRow : OpenClaim := { program := "ytmoebpebahhbeaa", sum := "c4b77388ad6434f7f1e1687668db0eab1651b8cc221289f8fb70e34ff08d018c", func := "hammock/hammocklaw07.GraphSizes", spec := "graphSizes", unfollowed := true, recurses := true, apart := false, narrowed := true }
def GraphSizesUptoSaid : Prop := graphSizesUptoRow.holds Try.pinned (OpenSpec.upto graphSizesSpec)

/-- 'hammocklaw07.GraphParts', WHERE WHAT IT READS IS OF BULK AT MOST 1048576: true; the input reads as it did. -/
def graphPartsUptoRow : OpenClaim := { program := "ytmoebpebahhbeaa", sum := "c4b77388ad6434f7f1e1687668db0eab1651b8cc221289f8fb70e34ff08d018c", func := "hammock/hammocklaw07.GraphParts", spec := "graphParts", unfollowed := true, recurses := true, apart := false, narrowed := true }
def GraphPartsUptoSaid : Prop := graphPartsUptoRow.holds Try.pinned (OpenSpec.upto graphPartsSpec)

/-- 'hammocklaw07.GraphRings', WHERE WHAT IT READS IS OF BULK AT MOST 1048576: true; the input reads as it did. -/
def graphRingsUptoRow : OpenClaim := { program := "ytmoebpebahhbeaa", sum := "c4b77388ad6434f7f1e1687668db0eab1651b8cc221289f8fb70e34ff08d018c", func := "hammock/hammocklaw07.GraphRings", spec := "graphRings", unfollowed := true, recurses := true, apart := false, narrowed := true }
def GraphRingsUptoSaid : Prop := graphRingsUptoRow.holds Try.pinned (OpenSpec.upto graphRingsSpec)

/-- 'hammocklaw07.GraphDoubled', WHERE WHAT IT READS IS OF BULK AT MOST 1048576: true; the input reads as it did. -/
def graphDoubledUptoRow : OpenClaim := { program := "ytmoebpebahhbeaa", sum := "c4b77388ad6434f7f1e1687668db0eab1651b8cc221289f8fb70e34ff08d018c", func := "hammock/hammocklaw07.GraphDoubled", spec := "graphDoubled", unfollowed := true, recurses := true, apart := false, narrowed := true }
def GraphDoubledUptoSaid : Prop := graphDoubledUptoRow.holds Try.pinned (OpenSpec.upto graphDoubledSpec)

end Rows
end Go.Proofs.Ytmoebpebahhbeaa
