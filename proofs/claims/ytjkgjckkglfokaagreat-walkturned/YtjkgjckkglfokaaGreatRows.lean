/-
  NARROWER THAN 'FOR EVERY INPUT', by the rows' own cells (each row's printed sentence says how): WalkAxes: loops · WalkParts: loops · WalkTurned: loops.
  DERIVED. THE GIVEN ROWS OF THIS SEAT. 3 by the template 'for every input the law returns true; each argument reads behind the call as it read before'; 0 by the template 'total and deterministic' (their statements: YtjkgjckkglfokaaGreatTotals.lean).
  GIVEN WITH THE SEED: the statements are not yours to turn. If you find one false, say at which input.
  Laid BY PROGRAM, IN A SANDBOX (cutbox-rows.mjs): the forced cells as the released guide's own fill.sh prints them over the translation b2ed28e8bd57a849… (all of the seat's roots in one cut). By AI agents, Wed Nov 11 2026. No macro, syntax, notation, axiom, sorry.
-/
import Derived.Test.YtjkgjckkglfokaaGreatChecked
import GoSem.Claim
import GoSem.ClaimJoined
import GoSem.ClaimMapViews
import Derived.JoinedTies
import Derived.KernelRfl
namespace Go.Proofs.YtjkgjckkglfokaaGreat
/- THE CELL 'sum', in the pinned program and in every row, IS THE sha256 OF THE DUMP (.gsa) THAT YtjkgjckkglfokaaGreatProg.lean LOADS. Nothing in Lean hashes anything: it is a label: what it is worth is what the hold of that sum in a sandbox is worth. -/
noncomputable def Tryz.pinned : Pinned := { name := "ytjkgjckkglfokaagreat", sum := "b2ed28e8bd57a849cfee00315b37310c71e2cf59463f7578cf0f005a7bd388fd", checked := Tryz.checked }
namespace Rows
def none {H : Type} : Left H := { results := [], args := [] }

/-- 'espalierlaw10.WalkAxes': WHATEVER THE INPUT: true; the input reads as it did. -/
def walkAxesSpec : ChangeSpec := { name := "walkAxes", fn := fun _ => fun
  | [d1, d2, d3, d4, d5, d6] => { results := [.lit (.bool true)], args := [d1, d2, d3, d4, d5, d6] }
  | _ => none }
def walkAxesRow : OpenClaim := { program := "ytjkgjckkglfokaagreat", sum := "b2ed28e8bd57a849cfee00315b37310c71e2cf59463f7578cf0f005a7bd388fd", func := "espalier/espalierlaw10.WalkAxes", spec := "walkAxes", unfollowed := true, recurses := true, loops := true, apart := false }
def WalkAxesSaid : Prop := walkAxesRow.holds Tryz.pinned (OpenSpec.ofChange walkAxesSpec)

/-- ITS FALSE NEIGHBOUR: 'it returns false'. Refute it at one input. -/
def walkAxesWrong : ChangeSpec := { name := "walkAxes", fn := fun _ => fun
  | [d1, d2, d3, d4, d5, d6] => { results := [.lit (.bool false)], args := [d1, d2, d3, d4, d5, d6] }
  | _ => none }
def WalkAxesWrongFalsely : Prop := walkAxesRow.holds Tryz.pinned (OpenSpec.ofChange walkAxesWrong)

/-- 'espalierlaw10.WalkParts': WHATEVER THE INPUT: true; the input reads as it did. -/
def walkPartsSpec : ChangeSpec := { name := "walkParts", fn := fun _ => fun
  | [d1, d2] => { results := [.lit (.bool true)], args := [d1, d2] }
  | _ => none }
def walkPartsRow : OpenClaim := { program := "ytjkgjckkglfokaagreat", sum := "b2ed28e8bd57a849cfee00315b37310c71e2cf59463f7578cf0f005a7bd388fd", func := "espalier/espalierlaw10.WalkParts", spec := "walkParts", inPlace := ["slices.overlaps[espalier/api.Handle]"], unfollowed := true, recurses := true, loops := true, apart := false }
def WalkPartsSaid : Prop := walkPartsRow.holds Tryz.pinned (OpenSpec.ofChange walkPartsSpec)

/-- ITS FALSE NEIGHBOUR: 'it returns false'. Refute it at one input. -/
def walkPartsWrong : ChangeSpec := { name := "walkParts", fn := fun _ => fun
  | [d1, d2] => { results := [.lit (.bool false)], args := [d1, d2] }
  | _ => none }
def WalkPartsWrongFalsely : Prop := walkPartsRow.holds Tryz.pinned (OpenSpec.ofChange walkPartsWrong)

/-- 'espalierlaw10.WalkTurned': WHATEVER THE INPUT: true; the input reads as it did. -/
def walkTurnedSpec : ChangeSpec := { name := "walkTurned", fn := fun _ => fun
  | [d1, d2, d3] => { results := [.lit (.bool true)], args := [d1, d2, d3] }
  | _ => none }
def walkTurnedRow : OpenClaim := { program := "ytjkgjckkglfokaagreat", sum := "b2ed28e8bd57a849cfee00315b37310c71e2cf59463f7578cf0f005a7bd388fd", func := "espalier/espalierlaw10.WalkTurned", spec := "walkTurned", inPlace := ["slices.overlaps[espalier/api.Handle]"], unfollowed := true, recurses := true, loops := true, apart := false }
def WalkTurnedSaid : Prop := walkTurnedRow.holds Tryz.pinned (OpenSpec.ofChange walkTurnedSpec)

/-- ITS FALSE NEIGHBOUR: 'it returns false'. Refute it at one input. -/
def walkTurnedWrong : ChangeSpec := { name := "walkTurned", fn := fun _ => fun
  | [d1, d2, d3] => { results := [.lit (.bool false)], args := [d1, d2, d3] }
  | _ => none }
def WalkTurnedWrongFalsely : Prop := walkTurnedRow.holds Tryz.pinned (OpenSpec.ofChange walkTurnedWrong)

/- THE SECOND FORM. 'bulk': how many values and letters a reading holds, each counted each time it is reached (what is shared counts as often as it is met; a slice's spare places count too). A statement '..UptoSaid' is the law's where the arguments, and the package variables that the reading takes, are together of bulk at most 1048576: NARROWER than '..Said'. Prove '..Said' where nothing that the law and all that it calls make is longer than what came in: it says more and counts as full. Else prove '..UptoSaid'. A law counts once. -/
mutual
def uptoBulk {H : Type} : DataW H → Nat
  | .lit (.string bytes) => bytes.length + 1
  | .lit _ => 1
  | .nil => 1
  | .ptr d => uptoBulk d + 1
  | .slice elems spare => uptoBulkAll elems + uptoBulkAll spare + 1
  | .agg parts => uptoBulkAll parts + 1
  | .iface _ d => uptoBulk d + 1
  | .map entries => uptoBulkEntries entries + 1
  | .held _ => 1
def uptoBulkAll {H : Type} : List (DataW H) → Nat
  | [] => 0
  | d :: r => uptoBulk d + uptoBulkAll r
def uptoBulkEntries {H : Type} : List (Lit × DataW H) → Nat
  | [] => 0
  | x :: r => uptoBulkEntry x + uptoBulkEntries r
def uptoBulkEntry {H : Type} : Lit × DataW H → Nat
  | (.string bytes, d) => bytes.length + uptoBulk d + 1
  | (_, d) => uptoBulk d + 1
 end
def uptoSmall : (H : Type) → List (DataW H) → Bool := fun _ ds => decide (uptoBulkAll ds ≤ 1048576)
def OpenSpec.upto (s : _root_.Go.ChangeSpec) : _root_.Go.OpenSpec := { _root_.Go.OpenSpec.ofChange s with cond := some uptoSmall }

/-- 'espalierlaw10.WalkAxes', WHERE WHAT IT READS IS OF BULK AT MOST 1048576: true; the input reads as it did. -/
def walkAxesUptoRow : OpenClaim := { program := "ytjkgjckkglfokaagreat", sum := "b2ed28e8bd57a849cfee00315b37310c71e2cf59463f7578cf0f005a7bd388fd", func := "espalier/espalierlaw10.WalkAxes", spec := "walkAxes", unfollowed := true, recurses := true, loops := true, apart := false, narrowed := true }
def WalkAxesUptoSaid : Prop := walkAxesUptoRow.holds Tryz.pinned (OpenSpec.upto walkAxesSpec)

/-- 'espalierlaw10.WalkParts', WHERE WHAT IT READS IS OF BULK AT MOST 1048576: true; the input reads as it did. -/
def walkPartsUptoRow : OpenClaim := { program := "ytjkgjckkglfokaagreat", sum := "b2ed28e8bd57a849cfee00315b37310c71e2cf59463f7578cf0f005a7bd388fd", func := "espalier/espalierlaw10.WalkParts", spec := "walkParts", inPlace := ["slices.overlaps[espalier/api.Handle]"], unfollowed := true, recurses := true, loops := true, apart := false, narrowed := true }
def WalkPartsUptoSaid : Prop := walkPartsUptoRow.holds Tryz.pinned (OpenSpec.upto walkPartsSpec)

/-- 'espalierlaw10.WalkTurned', WHERE WHAT IT READS IS OF BULK AT MOST 1048576: true; the input reads as it did. -/
def walkTurnedUptoRow : OpenClaim := { program := "ytjkgjckkglfokaagreat", sum := "b2ed28e8bd57a849cfee00315b37310c71e2cf59463f7578cf0f005a7bd388fd", func := "espalier/espalierlaw10.WalkTurned", spec := "walkTurned", inPlace := ["slices.overlaps[espalier/api.Handle]"], unfollowed := true, recurses := true, loops := true, apart := false, narrowed := true }
def WalkTurnedUptoSaid : Prop := walkTurnedUptoRow.holds Tryz.pinned (OpenSpec.upto walkTurnedSpec)

end Rows
end Go.Proofs.YtjkgjckkglfokaaGreat
