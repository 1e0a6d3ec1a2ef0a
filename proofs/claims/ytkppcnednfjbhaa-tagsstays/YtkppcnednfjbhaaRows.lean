/-
  No cell of these rows narrows 'for every input' (looked for: loops, veiled, ifaces, maps, wideKeys, modest, calm, conditions, laid).
  DERIVED. THE GIVEN ROWS OF THIS SEAT. 4 by the template 'for every input the law returns true; each argument reads behind the call as it read before'; 0 by the template 'total and deterministic' (their statements: YtkppcnednfjbhaaTotals.lean).
  GIVEN WITH THE SEED: the statements are not yours to turn. If you find one false, say at which input.
  Laid BY PROGRAM, IN A SANDBOX (cutbox-rows.mjs): the forced cells as the released guide's own fill.sh prints them over the translation c3af3c5db35f8138… (all of the seat's roots in one cut). By AI agents, Wed Nov 11 2026. No macro, syntax, notation, axiom, sorry.
-/
import Derived.Test.YtkppcnednfjbhaaChecked
import GoSem.Claim
import GoSem.ClaimJoined
import GoSem.ClaimMapViews
import Derived.JoinedTies
import Derived.KernelRfl
namespace Go.Proofs.Ytkppcnednfjbhaa
/- THE CELL 'sum', in the pinned program and in every row, IS THE sha256 OF THE DUMP (.gsa) THAT YtkppcnednfjbhaaProg.lean LOADS. Nothing in Lean hashes anything: it is a label: what it is worth is what the hold of that sum in a sandbox is worth. -/
noncomputable def Try.pinned : Pinned := { name := "ytkppcnednfjbhaa", sum := "c3af3c5db35f8138b05b190eb21ce91d368c7cd6b99d3711ff80f071522a643a", checked := Try.checked }
namespace Rows
def none {H : Type} : Left H := { results := [], args := [] }

/-- 'espalierlaw01.TagsActs': WHATEVER THE INPUT: true; the input reads as it did. -/
def tagsActsSpec : ChangeSpec := { name := "tagsActs", fn := fun _ => fun
  | [d] => { results := [.lit (.bool true)], args := [d] }
  | _ => none }
def tagsActsRow : OpenClaim := { program := "ytkppcnednfjbhaa", sum := "c3af3c5db35f8138b05b190eb21ce91d368c7cd6b99d3711ff80f071522a643a", func := "espalier/espalierlaw01.TagsActs", spec := "tagsActs", apart := false }
def TagsActsSaid : Prop := tagsActsRow.holds Try.pinned (OpenSpec.ofChange tagsActsSpec)

/-- ITS FALSE NEIGHBOUR: 'it returns false'. Refute it at one input. -/
def tagsActsWrong : ChangeSpec := { name := "tagsActs", fn := fun _ => fun
  | [d] => { results := [.lit (.bool false)], args := [d] }
  | _ => none }
def TagsActsWrongFalsely : Prop := tagsActsRow.holds Try.pinned (OpenSpec.ofChange tagsActsWrong)

/-- 'espalierlaw01.TagsGap': WHATEVER THE INPUT: true; the input reads as it did. -/
def tagsGapSpec : ChangeSpec := { name := "tagsGap", fn := fun _ => fun
  | [d1, d2, d3] => { results := [.lit (.bool true)], args := [d1, d2, d3] }
  | _ => none }
def tagsGapRow : OpenClaim := { program := "ytkppcnednfjbhaa", sum := "c3af3c5db35f8138b05b190eb21ce91d368c7cd6b99d3711ff80f071522a643a", func := "espalier/espalierlaw01.TagsGap", spec := "tagsGap", apart := false }
def TagsGapSaid : Prop := tagsGapRow.holds Try.pinned (OpenSpec.ofChange tagsGapSpec)

/-- ITS FALSE NEIGHBOUR: 'it returns false'. Refute it at one input. -/
def tagsGapWrong : ChangeSpec := { name := "tagsGap", fn := fun _ => fun
  | [d1, d2, d3] => { results := [.lit (.bool false)], args := [d1, d2, d3] }
  | _ => none }
def TagsGapWrongFalsely : Prop := tagsGapRow.holds Try.pinned (OpenSpec.ofChange tagsGapWrong)

/-- 'espalierlaw01.TagsStays': WHATEVER THE INPUT: true; the input reads as it did. -/
def tagsStaysSpec : ChangeSpec := { name := "tagsStays", fn := fun _ => fun
  | [d1, d2] => { results := [.lit (.bool true)], args := [d1, d2] }
  | _ => none }
def tagsStaysRow : OpenClaim := { program := "ytkppcnednfjbhaa", sum := "c3af3c5db35f8138b05b190eb21ce91d368c7cd6b99d3711ff80f071522a643a", func := "espalier/espalierlaw01.TagsStays", spec := "tagsStays", apart := false }
def TagsStaysSaid : Prop := tagsStaysRow.holds Try.pinned (OpenSpec.ofChange tagsStaysSpec)

/-- ITS FALSE NEIGHBOUR: 'it returns false'. Refute it at one input. -/
def tagsStaysWrong : ChangeSpec := { name := "tagsStays", fn := fun _ => fun
  | [d1, d2] => { results := [.lit (.bool false)], args := [d1, d2] }
  | _ => none }
def TagsStaysWrongFalsely : Prop := tagsStaysRow.holds Try.pinned (OpenSpec.ofChange tagsStaysWrong)

/-- 'espalierlaw01.TagsFull': WHATEVER THE INPUT: true; the input reads as it did. -/
def tagsFullSpec : ChangeSpec := { name := "tagsFull", fn := fun _ => fun
  | [d1, d2] => { results := [.lit (.bool true)], args := [d1, d2] }
  | _ => none }
def tagsFullRow : OpenClaim := { program := "ytkppcnednfjbhaa", sum := "c3af3c5db35f8138b05b190eb21ce91d368c7cd6b99d3711ff80f071522a643a", func := "espalier/espalierlaw01.TagsFull", spec := "tagsFull", apart := false }
def TagsFullSaid : Prop := tagsFullRow.holds Try.pinned (OpenSpec.ofChange tagsFullSpec)

/-- ITS FALSE NEIGHBOUR: 'it returns false'. Refute it at one input. -/
def tagsFullWrong : ChangeSpec := { name := "tagsFull", fn := fun _ => fun
  | [d1, d2] => { results := [.lit (.bool false)], args := [d1, d2] }
  | _ => none }
def TagsFullWrongFalsely : Prop := tagsFullRow.holds Try.pinned (OpenSpec.ofChange tagsFullWrong)

/- THE SECOND FORM. 'bulk': how many values and letters a reading holds, each counted each time it is reached (what is shared counts as often as it is met; a slice's spare places count too). A statement '..UptoSaid' is the law's where the arguments, and the package variables that the reading takes, are together of bulk at most 1048576: NARROWER than '..Said'. Prove '..Said' where nothing that the law and all that it calls make is longer than what came in: it says more and counts as full. Else prove '..UptoSaid'. A law counts once. -/
mutual
def uptoBulk {H : Type} : DataW H → Nat
  | .lit (.string bytes) => bytes.length + 1
  | .lit _ => 1
  | .nil => 1
  | .ptr d => uptoBulk d + 1
  | .slice elems spare => uptoBulkAll elems + uptoBulkAll spare + 1
  | .agg parts => uptoBulkAll parts + 1
  | .iface _ d => uptoBulk d + 1
  | .map entries => uptoBulkEntries entries + 1
  | .held _ => 1
def uptoBulkAll {H : Type} : List (DataW H) → Nat
  | [] => 0
  | d :: r => uptoBulk d + uptoBulkAll r
def uptoBulkEntries {H : Type} : List (Lit × DataW H) → Nat
  | [] => 0
  | x :: r => uptoBulkEntry x + uptoBulkEntries r
def uptoBulkEntry {H : Type} : Lit × DataW H → Nat
  | (.string bytes, d) => bytes.length + uptoBulk d + 1
  | (_, d) => uptoBulk d + 1
 end
def uptoSmall : (H : Type) → List (DataW H) → Bool := fun _ ds => decide (uptoBulkAll ds ≤ 1048576)
def OpenSpec.upto (s : _root_.Go.ChangeSpec) : _root_.Go.OpenSpec := { _root_.Go.OpenSpec.ofChange s with cond := some uptoSmall }

/-- 'espalierlaw01.TagsActs', WHERE WHAT IT READS IS OF BULK AT MOST 1048576: true; the input reads as it did. -/
def tagsActsUptoRow : OpenClaim := { program := "ytkppcnednfjbhaa", sum := "c3af3c5db35f8138b05b190eb21ce91d368c7cd6b99d3711ff80f071522a643a", func := "espalier/espalierlaw01.TagsActs", spec := "tagsActs", apart := false, narrowed := true }
def TagsActsUptoSaid : Prop := tagsActsUptoRow.holds Try.pinned (OpenSpec.upto tagsActsSpec)

/-- 'espalierlaw01.TagsGap', WHERE WHAT IT READS IS OF BULK AT MOST 1048576: true; the input reads as it did. -/
def tagsGapUptoRow : OpenClaim := { program := "ytkppcnednfjbhaa", sum := "c3af3c5db35f8138b05b190eb21ce91d368c7cd6b99d3711ff80f071522a643a", func := "espalier/espalierlaw01.TagsGap", spec := "tagsGap", apart := false, narrowed := true }
def TagsGapUptoSaid : Prop := tagsGapUptoRow.holds Try.pinned (OpenSpec.upto tagsGapSpec)

/-- 'espalierlaw01.TagsStays', WHERE WHAT IT READS IS OF BULK AT MOST 1048576: true; the input reads as it did. -/
def tagsStaysUptoRow : OpenClaim := { program := "ytkppcnednfjbhaa", sum := "c3af3c5db35f8138b05b190eb21ce91d368c7cd6b99d3711ff80f071522a643a", func := "espalier/espalierlaw01.TagsStays", spec := "tagsStays", apart := false, narrowed := true }
def TagsStaysUptoSaid : Prop := tagsStaysUptoRow.holds Try.pinned (OpenSpec.upto tagsStaysSpec)

/-- 'espalierlaw01.TagsFull', WHERE WHAT IT READS IS OF BULK AT MOST 1048576: true; the input reads as it did. -/
def tagsFullUptoRow : OpenClaim := { program := "ytkppcnednfjbhaa", sum := "c3af3c5db35f8138b05b190eb21ce91d368c7cd6b99d3711ff80f071522a643a", func := "espalier/espalierlaw01.TagsFull", spec := "tagsFull", apart := false, narrowed := true }
def TagsFullUptoSaid : Prop := tagsFullUptoRow.holds Try.pinned (OpenSpec.upto tagsFullSpec)

end Rows
end Go.Proofs.Ytkppcnednfjbhaa
