/-
  No cell of these rows narrows 'for every input' (looked for: loops, veiled, ifaces, maps, wideKeys, modest, calm, conditions, laid).
  DERIVED. THE GIVEN ROWS OF THIS SEAT. 6 by the template 'for every input the law returns true; each argument reads behind the call as it read before'; 0 by the template 'total and deterministic' (their statements: YtfccijpmgjcmiaaTotals.lean).
  GIVEN WITH THE SEED: the statements are not yours to turn. If you find one false, say at which input.
  Laid BY PROGRAM, IN A SANDBOX (cutbox-rows.mjs): the forced cells as the released guide's own fill.sh prints them over the translation 2a547fb5319a6ca5… (all of the seat's roots in one cut). By AI agents, Wed Nov 11 2026. No macro, syntax, notation, axiom, sorry.
-/
import Derived.Test.YtfccijpmgjcmiaaChecked
import GoSem.Claim
import GoSem.ClaimJoined
import GoSem.ClaimMapViews
import Derived.JoinedTies
import Derived.KernelRfl
namespace Go.Proofs.Ytfccijpmgjcmiaa
/- THE CELL 'sum', in the pinned program and in every row, IS THE sha256 OF THE DUMP (.gsa) THAT YtfccijpmgjcmiaaProg.lean LOADS. Nothing in Lean hashes anything: it is a label: what it is worth is what the hold of that sum in a sandbox is worth. -/
noncomputable def Try.pinned : Pinned := { name := "ytfccijpmgjcmiaa", sum := "2a547fb5319a6ca58bac6ccf5e6d87f5bc1a2197a2cb01701dfa98367ee14cf2", checked := Try.checked }
namespace Rows
def none {H : Type} : Left H := { results := [], args := [] }

/-- 'espalierlaw02.CharsTexts': WHATEVER THE INPUT: true; the input reads as it did. -/
def charsTextsSpec : ChangeSpec := { name := "charsTexts", fn := fun _ => fun
  | [d1, d2, d3, d4] => { results := [.lit (.bool true)], args := [d1, d2, d3, d4] }
  | _ => none }
def charsTextsRow : OpenClaim := { program := "ytfccijpmgjcmiaa", sum := "2a547fb5319a6ca58bac6ccf5e6d87f5bc1a2197a2cb01701dfa98367ee14cf2", func := "espalier/espalierlaw02.CharsTexts", spec := "charsTexts", inPlace := ["internal/abi.NoEscape"], apart := false }
def CharsTextsSaid : Prop := charsTextsRow.holds Try.pinned (OpenSpec.ofChange charsTextsSpec)

/-- ITS FALSE NEIGHBOUR: 'it returns false'. Refute it at one input. -/
def charsTextsWrong : ChangeSpec := { name := "charsTexts", fn := fun _ => fun
  | [d1, d2, d3, d4] => { results := [.lit (.bool false)], args := [d1, d2, d3, d4] }
  | _ => none }
def CharsTextsWrongFalsely : Prop := charsTextsRow.holds Try.pinned (OpenSpec.ofChange charsTextsWrong)

/-- 'espalierlaw02.CharsEscapes': WHATEVER THE INPUT: true; the input reads as it did. -/
def charsEscapesSpec : ChangeSpec := { name := "charsEscapes", fn := fun _ => fun
  | [d1, d2] => { results := [.lit (.bool true)], args := [d1, d2] }
  | _ => none }
def charsEscapesRow : OpenClaim := { program := "ytfccijpmgjcmiaa", sum := "2a547fb5319a6ca58bac6ccf5e6d87f5bc1a2197a2cb01701dfa98367ee14cf2", func := "espalier/espalierlaw02.CharsEscapes", spec := "charsEscapes", inPlace := ["internal/abi.NoEscape"], apart := false }
def CharsEscapesSaid : Prop := charsEscapesRow.holds Try.pinned (OpenSpec.ofChange charsEscapesSpec)

/-- ITS FALSE NEIGHBOUR: 'it returns false'. Refute it at one input. -/
def charsEscapesWrong : ChangeSpec := { name := "charsEscapes", fn := fun _ => fun
  | [d1, d2] => { results := [.lit (.bool false)], args := [d1, d2] }
  | _ => none }
def CharsEscapesWrongFalsely : Prop := charsEscapesRow.holds Try.pinned (OpenSpec.ofChange charsEscapesWrong)

/-- 'espalierlaw02.CharsUnescapes': WHATEVER THE INPUT: true; the input reads as it did. -/
def charsUnescapesSpec : ChangeSpec := { name := "charsUnescapes", fn := fun _ => fun
  | [d] => { results := [.lit (.bool true)], args := [d] }
  | _ => none }
def charsUnescapesRow : OpenClaim := { program := "ytfccijpmgjcmiaa", sum := "2a547fb5319a6ca58bac6ccf5e6d87f5bc1a2197a2cb01701dfa98367ee14cf2", func := "espalier/espalierlaw02.CharsUnescapes", spec := "charsUnescapes", apart := false }
def CharsUnescapesSaid : Prop := charsUnescapesRow.holds Try.pinned (OpenSpec.ofChange charsUnescapesSpec)

/-- ITS FALSE NEIGHBOUR: 'it returns false'. Refute it at one input. -/
def charsUnescapesWrong : ChangeSpec := { name := "charsUnescapes", fn := fun _ => fun
  | [d] => { results := [.lit (.bool false)], args := [d] }
  | _ => none }
def CharsUnescapesWrongFalsely : Prop := charsUnescapesRow.holds Try.pinned (OpenSpec.ofChange charsUnescapesWrong)

/-- 'espalierlaw02.CharsBack': WHATEVER THE INPUT: true; the input reads as it did. -/
def charsBackSpec : ChangeSpec := { name := "charsBack", fn := fun _ => fun
  | [d1, d2] => { results := [.lit (.bool true)], args := [d1, d2] }
  | _ => none }
def charsBackRow : OpenClaim := { program := "ytfccijpmgjcmiaa", sum := "2a547fb5319a6ca58bac6ccf5e6d87f5bc1a2197a2cb01701dfa98367ee14cf2", func := "espalier/espalierlaw02.CharsBack", spec := "charsBack", inPlace := ["internal/abi.NoEscape"], apart := false }
def CharsBackSaid : Prop := charsBackRow.holds Try.pinned (OpenSpec.ofChange charsBackSpec)

/-- ITS FALSE NEIGHBOUR: 'it returns false'. Refute it at one input. -/
def charsBackWrong : ChangeSpec := { name := "charsBack", fn := fun _ => fun
  | [d1, d2] => { results := [.lit (.bool false)], args := [d1, d2] }
  | _ => none }
def CharsBackWrongFalsely : Prop := charsBackRow.holds Try.pinned (OpenSpec.ofChange charsBackWrong)

/-- 'espalierlaw02.CharsForm': WHATEVER THE INPUT: true; the input reads as it did. -/
def charsFormSpec : ChangeSpec := { name := "charsForm", fn := fun _ => fun
  | [d] => { results := [.lit (.bool true)], args := [d] }
  | _ => none }
def charsFormRow : OpenClaim := { program := "ytfccijpmgjcmiaa", sum := "2a547fb5319a6ca58bac6ccf5e6d87f5bc1a2197a2cb01701dfa98367ee14cf2", func := "espalier/espalierlaw02.CharsForm", spec := "charsForm", inPlace := ["internal/abi.NoEscape"], apart := false }
def CharsFormSaid : Prop := charsFormRow.holds Try.pinned (OpenSpec.ofChange charsFormSpec)

/-- ITS FALSE NEIGHBOUR: 'it returns false'. Refute it at one input. -/
def charsFormWrong : ChangeSpec := { name := "charsForm", fn := fun _ => fun
  | [d] => { results := [.lit (.bool false)], args := [d] }
  | _ => none }
def CharsFormWrongFalsely : Prop := charsFormRow.holds Try.pinned (OpenSpec.ofChange charsFormWrong)

/-- 'espalierlaw02.CharsParts': WHATEVER THE INPUT: true; the input reads as it did. -/
def charsPartsSpec : ChangeSpec := { name := "charsParts", fn := fun _ => fun
  | [d1, d2, d3, d4] => { results := [.lit (.bool true)], args := [d1, d2, d3, d4] }
  | _ => none }
def charsPartsRow : OpenClaim := { program := "ytfccijpmgjcmiaa", sum := "2a547fb5319a6ca58bac6ccf5e6d87f5bc1a2197a2cb01701dfa98367ee14cf2", func := "espalier/espalierlaw02.CharsParts", spec := "charsParts", inPlace := ["internal/abi.NoEscape"], apart := false }
def CharsPartsSaid : Prop := charsPartsRow.holds Try.pinned (OpenSpec.ofChange charsPartsSpec)

/-- ITS FALSE NEIGHBOUR: 'it returns false'. Refute it at one input. -/
def charsPartsWrong : ChangeSpec := { name := "charsParts", fn := fun _ => fun
  | [d1, d2, d3, d4] => { results := [.lit (.bool false)], args := [d1, d2, d3, d4] }
  | _ => none }
def CharsPartsWrongFalsely : Prop := charsPartsRow.holds Try.pinned (OpenSpec.ofChange charsPartsWrong)

/- THE SECOND FORM. 'bulk': how many values and letters a reading holds, each counted each time it is reached (what is shared counts as often as it is met; a slice's spare places count too). A statement '..UptoSaid' is the law's where the arguments, and the package variables that the reading takes, are together of bulk at most 1048576: NARROWER than '..Said'. Prove '..Said' where nothing that the law and all that it calls make is longer than what came in: it says more and counts as full. Else prove '..UptoSaid'. A law counts once. -/
mutual
def uptoBulk {H : Type} : DataW H → Nat
  | .lit (.string bytes) => bytes.length + 1
  | .lit _ => 1
  | .nil => 1
  | .ptr d => uptoBulk d + 1
  | .slice elems spare => uptoBulkAll elems + uptoBulkAll spare + 1
  | .agg parts => uptoBulkAll parts + 1
  | .iface _ d => uptoBulk d + 1
  | .map entries => uptoBulkEntries entries + 1
  | .held _ => 1
def uptoBulkAll {H : Type} : List (DataW H) → Nat
  | [] => 0
  | d :: r => uptoBulk d + uptoBulkAll r
def uptoBulkEntries {H : Type} : List (Lit × DataW H) → Nat
  | [] => 0
  | x :: r => uptoBulkEntry x + uptoBulkEntries r
def uptoBulkEntry {H : Type} : Lit × DataW H → Nat
  | (.string bytes, d) => bytes.length + uptoBulk d + 1
  | (_, d) => uptoBulk d + 1
 end
def uptoSmall : (H : Type) → List (DataW H) → Bool := fun _ ds => decide (uptoBulkAll ds ≤ 1048576)
def OpenSpec.upto (s : _root_.Go.ChangeSpec) : _root_.Go.OpenSpec := { _root_.Go.OpenSpec.ofChange s with cond := some uptoSmall }

/-- 'espalierlaw02.CharsTexts', WHERE WHAT IT READS IS OF BULK AT MOST 1048576: true; the input reads as it did. -/
def charsTextsUptoRow : OpenClaim := { program := "ytfccijpmgjcmiaa", sum := "2a547fb5319a6ca58bac6ccf5e6d87f5bc1a2197a2cb01701dfa98367ee14cf2", func := "espalier/espalierlaw02.CharsTexts", spec := "charsTexts", inPlace := ["internal/abi.NoEscape"], apart := false, narrowed := true }
def CharsTextsUptoSaid : Prop := charsTextsUptoRow.holds Try.pinned (OpenSpec.upto charsTextsSpec)

/-- 'espalierlaw02.CharsEscapes', WHERE WHAT IT READS IS OF BULK AT MOST 1048576: true; the input reads as it did. -/
def charsEscapesUptoRow : OpenClaim := { program := "ytfccijpmgjcmiaa", sum := "2a547fb5319a6ca58bac6ccf5e6d87f5bc1a2197a2cb01701dfa98367ee14cf2", func := "espalier/espalierlaw02.CharsEscapes", spec := "charsEscapes", inPlace := ["internal/abi.NoEscape"], apart := false, narrowed := true }
def CharsEscapesUptoSaid : Prop := charsEscapesUptoRow.holds Try.pinned (OpenSpec.upto charsEscapesSpec)

/-- 'espalierlaw02.CharsUnescapes', WHERE WHAT IT READS IS OF BULK AT MOST 1048576: true; the input reads as it did. -/
def charsUnescapesUptoRow : OpenClaim := { program := "ytfccijpmgjcmiaa", sum := "2a547fb5319a6ca58bac6ccf5e6d87f5bc1a2197a2cb01701dfa98367ee14cf2", func := "espalier/espalierlaw02.CharsUnescapes", spec := "charsUnescapes", apart := false, narrowed := true }
def CharsUnescapesUptoSaid : Prop := charsUnescapesUptoRow.holds Try.pinned (OpenSpec.upto charsUnescapesSpec)

/-- 'espalierlaw02.CharsBack', WHERE WHAT IT READS IS OF BULK AT MOST 1048576: true; the input reads as it did. -/
def charsBackUptoRow : OpenClaim := { program := "ytfccijpmgjcmiaa", sum := "2a547fb5319a6ca58bac6ccf5e6d87f5bc1a2197a2cb01701dfa98367ee14cf2", func := "espalier/espalierlaw02.CharsBack", spec := "charsBack", inPlace := ["internal/abi.NoEscape"], apart := false, narrowed := true }
def CharsBackUptoSaid : Prop := charsBackUptoRow.holds Try.pinned (OpenSpec.upto charsBackSpec)

/-- 'espalierlaw02.CharsForm', WHERE WHAT IT READS IS OF BULK AT MOST 1048576: true; the input reads as it did. -/
def charsFormUptoRow : OpenClaim := { program := "ytfccijpmgjcmiaa", sum := "2a547fb5319a6ca58bac6ccf5e6d87f5bc1a2197a2cb01701dfa98367ee14cf2", func := "espalier/espalierlaw02.CharsForm", spec := "charsForm", inPlace := ["internal/abi.NoEscape"], apart := false, narrowed := true }
def CharsFormUptoSaid : Prop := charsFormUptoRow.holds Try.pinned (OpenSpec.upto charsFormSpec)

/-- 'espalierlaw02.CharsParts', WHERE WHAT IT READS IS OF BULK AT MOST 1048576: true; the input reads as it did. -/
def charsPartsUptoRow : OpenClaim := { program := "ytfccijpmgjcmiaa", sum := "2a547fb5319a6ca58bac6ccf5e6d87f5bc1a2197a2cb01701dfa98367ee14cf2", func := "espalier/espalierlaw02.CharsParts", spec := "charsParts", inPlace := ["internal/abi.NoEscape"], apart := false, narrowed := true }
def CharsPartsUptoSaid : Prop := charsPartsUptoRow.holds Try.pinned (OpenSpec.upto charsPartsSpec)

end Rows
end Go.Proofs.Ytfccijpmgjcmiaa
