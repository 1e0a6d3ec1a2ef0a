/-
  No cell of these rows narrows 'for every input' (looked for: loops, veiled, ifaces, maps, wideKeys, modest, calm, conditions, laid).
  DERIVED. THE GIVEN ROWS OF THIS SEAT. 4 by the template 'for every input the law returns true; each argument reads behind the call as it read before'; 0 by the template 'total and deterministic' (their statements: YtfhbfilmejegcaaTotals.lean).
  GIVEN WITH THE SEED: the statements are not yours to turn. If you find one false, say at which input.
  Laid BY PROGRAM, IN A SANDBOX (cutbox-rows.mjs): the forced cells as the released guide's own fill.sh prints them over the translation fec4b394015a4782… (all of the seat's roots in one cut). By AI agents, Wed Nov 11 2026. No macro, syntax, notation, axiom, sorry.
-/
import Derived.Test.YtfhbfilmejegcaaChecked
import GoSem.Claim
import GoSem.ClaimJoined
import GoSem.ClaimMapViews
import Derived.JoinedTies
import Derived.KernelRfl
namespace Go.Proofs.Ytfhbfilmejegcaa
/- THE CELL 'sum', in the pinned program and in every row, IS THE sha256 OF THE DUMP (.gsa) THAT YtfhbfilmejegcaaProg.lean LOADS. Nothing in Lean hashes anything: it is a label: what it is worth is what the hold of that sum in a sandbox is worth. -/
noncomputable def Try.pinned : Pinned := { name := "ytfhbfilmejegcaa", sum := "fec4b394015a4782b009b6e6c776c7b92f4c21e87ed1a210b4fc21a3e91b1e73", checked := Try.checked }
namespace Rows
def none {H : Type} : Left H := { results := [], args := [] }

/-- 'espalierlaw09.AxisTests': WHATEVER THE INPUT: true; the input reads as it did. -/
def axisTestsSpec : ChangeSpec := { name := "axisTests", fn := fun _ => fun
  | [d1, d2, d3] => { results := [.lit (.bool true)], args := [d1, d2, d3] }
  | _ => none }
def axisTestsRow : OpenClaim := { program := "ytfhbfilmejegcaa", sum := "fec4b394015a4782b009b6e6c776c7b92f4c21e87ed1a210b4fc21a3e91b1e73", func := "espalier/espalierlaw09.AxisTests", spec := "axisTests", apart := false }
def AxisTestsSaid : Prop := axisTestsRow.holds Try.pinned (OpenSpec.ofChange axisTestsSpec)

/-- ITS FALSE NEIGHBOUR: 'it returns false'. Refute it at one input. -/
def axisTestsWrong : ChangeSpec := { name := "axisTests", fn := fun _ => fun
  | [d1, d2, d3] => { results := [.lit (.bool false)], args := [d1, d2, d3] }
  | _ => none }
def AxisTestsWrongFalsely : Prop := axisTestsRow.holds Try.pinned (OpenSpec.ofChange axisTestsWrong)

/-- 'espalierlaw09.AxisChecks': WHATEVER THE INPUT: true; the input reads as it did. -/
def axisChecksSpec : ChangeSpec := { name := "axisChecks", fn := fun _ => fun
  | [d1, d2, d3] => { results := [.lit (.bool true)], args := [d1, d2, d3] }
  | _ => none }
def axisChecksRow : OpenClaim := { program := "ytfhbfilmejegcaa", sum := "fec4b394015a4782b009b6e6c776c7b92f4c21e87ed1a210b4fc21a3e91b1e73", func := "espalier/espalierlaw09.AxisChecks", spec := "axisChecks", apart := false }
def AxisChecksSaid : Prop := axisChecksRow.holds Try.pinned (OpenSpec.ofChange axisChecksSpec)

/-- ITS FALSE NEIGHBOUR: 'it returns false'. Refute it at one input. -/
def axisChecksWrong : ChangeSpec := { name := "axisChecks", fn := fun _ => fun
  | [d1, d2, d3] => { results := [.lit (.bool false)], args := [d1, d2, d3] }
  | _ => none }
def AxisChecksWrongFalsely : Prop := axisChecksRow.holds Try.pinned (OpenSpec.ofChange axisChecksWrong)

/-- 'espalierlaw09.AxisOne': WHATEVER THE INPUT: true; the input reads as it did. -/
def axisOneSpec : ChangeSpec := { name := "axisOne", fn := fun _ => fun
  | [d] => { results := [.lit (.bool true)], args := [d] }
  | _ => none }
def axisOneRow : OpenClaim := { program := "ytfhbfilmejegcaa", sum := "fec4b394015a4782b009b6e6c776c7b92f4c21e87ed1a210b4fc21a3e91b1e73", func := "espalier/espalierlaw09.AxisOne", spec := "axisOne", apart := false }
def AxisOneSaid : Prop := axisOneRow.holds Try.pinned (OpenSpec.ofChange axisOneSpec)

/-- ITS FALSE NEIGHBOUR: 'it returns false'. Refute it at one input. -/
def axisOneWrong : ChangeSpec := { name := "axisOne", fn := fun _ => fun
  | [d] => { results := [.lit (.bool false)], args := [d] }
  | _ => none }
def AxisOneWrongFalsely : Prop := axisOneRow.holds Try.pinned (OpenSpec.ofChange axisOneWrong)

/-- 'espaliertop.TopRoom': WHATEVER THE INPUT: true; the input reads as it did. -/
def topRoomSpec : ChangeSpec := { name := "topRoom", fn := fun _ => fun
  | [d1, d2, d3] => { results := [.lit (.bool true)], args := [d1, d2, d3] }
  | _ => none }
def topRoomRow : OpenClaim := { program := "ytfhbfilmejegcaa", sum := "fec4b394015a4782b009b6e6c776c7b92f4c21e87ed1a210b4fc21a3e91b1e73", func := "espalier/espaliertop.TopRoom", spec := "topRoom", inPlace := ["slices.overlaps[espalier/api.Handle]"], unfollowed := true, recurses := true, apart := false }
def TopRoomSaid : Prop := topRoomRow.holds Try.pinned (OpenSpec.ofChange topRoomSpec)

/-- ITS FALSE NEIGHBOUR: 'it returns false'. Refute it at one input. -/
def topRoomWrong : ChangeSpec := { name := "topRoom", fn := fun _ => fun
  | [d1, d2, d3] => { results := [.lit (.bool false)], args := [d1, d2, d3] }
  | _ => none }
def TopRoomWrongFalsely : Prop := topRoomRow.holds Try.pinned (OpenSpec.ofChange topRoomWrong)

/- THE SECOND FORM. 'bulk': how many values and letters a reading holds, each counted each time it is reached (what is shared counts as often as it is met; a slice's spare places count too). A statement '..UptoSaid' is the law's where the arguments, and the package variables that the reading takes, are together of bulk at most 1048576: NARROWER than '..Said'. Prove '..Said' where nothing that the law and all that it calls make is longer than what came in: it says more and counts as full. Else prove '..UptoSaid'. A law counts once. -/
mutual
def uptoBulk {H : Type} : DataW H → Nat
  | .lit (.string bytes) => bytes.length + 1
  | .lit _ => 1
  | .nil => 1
  | .ptr d => uptoBulk d + 1
  | .slice elems spare => uptoBulkAll elems + uptoBulkAll spare + 1
  | .agg parts => uptoBulkAll parts + 1
  | .iface _ d => uptoBulk d + 1
  | .map entries => uptoBulkEntries entries + 1
  | .held _ => 1
def uptoBulkAll {H : Type} : List (DataW H) → Nat
  | [] => 0
  | d :: r => uptoBulk d + uptoBulkAll r
def uptoBulkEntries {H : Type} : List (Lit × DataW H) → Nat
  | [] => 0
  | x :: r => uptoBulkEntry x + uptoBulkEntries r
def uptoBulkEntry {H : Type} : Lit × DataW H → Nat
  | (.string bytes, d) => bytes.length + uptoBulk d + 1
  | (_, d) => uptoBulk d + 1
 end
def uptoSmall : (H : Type) → List (DataW H) → Bool := fun _ ds => decide (uptoBulkAll ds ≤ 1048576)
def OpenSpec.upto (s : _root_.Go.ChangeSpec) : _root_.Go.OpenSpec := { _root_.Go.OpenSpec.ofChange s with cond := some uptoSmall }

/-- 'espalierlaw09.AxisTests', WHERE WHAT IT READS IS OF BULK AT MOST 1048576: true; the input reads as it did. -/
def axisTestsUptoRow : OpenClaim := { program := "ytfhbfilmejegcaa", sum := "fec4b394015a4782b009b6e6c776c7b92f4c21e87ed1a210b4fc21a3e91b1e73", func := "espalier/espalierlaw09.AxisTests", spec := "axisTests", apart := false, narrowed := true }
def AxisTestsUptoSaid : Prop := axisTestsUptoRow.holds Try.pinned (OpenSpec.upto axisTestsSpec)

/-- 'espalierlaw09.AxisChecks', WHERE WHAT IT READS IS OF BULK AT MOST 1048576: true; the input reads as it did. -/
def axisChecksUptoRow : OpenClaim := { program := "ytfhbfilmejegcaa", sum := "fec4b394015a4782b009b6e6c776c7b92f4c21e87ed1a210b4fc21a3e91b1e73", func := "espalier/espalierlaw09.AxisChecks", spec := "axisChecks", apart := false, narrowed := true }
def AxisChecksUptoSaid : Prop := axisChecksUptoRow.holds Try.pinned (OpenSpec.upto axisChecksSpec)

/-- 'espalierlaw09.AxisOne', WHERE WHAT IT READS IS OF BULK AT MOST 1048576: true; the input reads as it did. -/
def axisOneUptoRow : OpenClaim := { program := "ytfhbfilmejegcaa", sum := "fec4b394015a4782b009b6e6c776c7b92f4c21e87ed1a210b4fc21a3e91b1e73", func := "espalier/espalierlaw09.AxisOne", spec := "axisOne", apart := false, narrowed := true }
def AxisOneUptoSaid : Prop := axisOneUptoRow.holds Try.pinned (OpenSpec.upto axisOneSpec)

/-- 'espaliertop.TopRoom', WHERE WHAT IT READS IS OF BULK AT MOST 1048576: true; the input reads as it did. -/
def topRoomUptoRow : OpenClaim := { program := "ytfhbfilmejegcaa", sum := "fec4b394015a4782b009b6e6c776c7b92f4c21e87ed1a210b4fc21a3e91b1e73", func := "espalier/espaliertop.TopRoom", spec := "topRoom", inPlace := ["slices.overlaps[espalier/api.Handle]"], unfollowed := true, recurses := true, apart := false, narrowed := true }
def TopRoomUptoSaid : Prop := topRoomUptoRow.holds Try.pinned (OpenSpec.upto topRoomSpec)

end Rows
end Go.Proofs.Ytfhbfilmejegcaa
