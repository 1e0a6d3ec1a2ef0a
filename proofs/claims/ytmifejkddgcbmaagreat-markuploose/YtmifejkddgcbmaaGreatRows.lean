/-
  NARROWER THAN 'FOR EVERY INPUT', by the rows' own cells (each row's printed sentence says how): MarkupBack: loops · MarkupLoose: loops · MarkupOne: loops.
  DERIVED. THE GIVEN ROWS OF THIS SEAT. 5 by the template 'for every input the law returns true; each argument reads behind the call as it read before'; 0 by the template 'total and deterministic' (their statements: YtmifejkddgcbmaaGreatTotals.lean).
  GIVEN WITH THE SEED: the statements are not yours to turn. If you find one false, say at which input.
  Laid BY PROGRAM, IN A SANDBOX (cutbox-rows.mjs): the forced cells as the released guide's own fill.sh prints them over the translation 473526c17c0a1f7e… (all of the seat's roots in one cut). By AI agents, Wed Nov 11 2026. No macro, syntax, notation, axiom, sorry.
-/
import Derived.Test.YtmifejkddgcbmaaGreatChecked
import GoSem.Claim
import GoSem.ClaimJoined
import GoSem.ClaimMapViews
import Derived.JoinedTies
import Derived.KernelRfl
namespace Go.Proofs.YtmifejkddgcbmaaGreat
/- THE CELL 'sum', in the pinned program and in every row, IS THE sha256 OF THE DUMP (.gsa) THAT YtmifejkddgcbmaaGreatProg.lean LOADS. Nothing in Lean hashes anything: it is a label: what it is worth is what the hold of that sum in a sandbox is worth. -/
noncomputable def Tryz.pinned : Pinned := { name := "ytmifejkddgcbmaagreat", sum := "473526c17c0a1f7edbe74ab4448da22fc9d1518eb2e793dfb6449402fa0cdc06", checked := Tryz.checked }
namespace Rows
def none {H : Type} : Left H := { results := [], args := [] }

/-- 'espalierlaw04.MarkupParses': WHATEVER THE INPUT: true; the input reads as it did. -/
def markupParsesSpec : ChangeSpec := { name := "markupParses", fn := fun _ => fun
  | [d] => { results := [.lit (.bool true)], args := [d] }
  | _ => none }
def markupParsesRow : OpenClaim := { program := "ytmifejkddgcbmaagreat", sum := "473526c17c0a1f7edbe74ab4448da22fc9d1518eb2e793dfb6449402fa0cdc06", func := "espalier/espalierlaw04.MarkupParses", spec := "markupParses", inPlace := ["internal/bytealg.IndexByteString", "internal/bytealg.IndexString"], unfollowed := true, recurses := true, named := ["internal/bytealg.MaxLen"], apart := false }
def MarkupParsesSaid : Prop := markupParsesRow.holds Tryz.pinned (OpenSpec.ofChange markupParsesSpec)

/-- ITS FALSE NEIGHBOUR: 'it returns false'. Refute it at one input. -/
def markupParsesWrong : ChangeSpec := { name := "markupParses", fn := fun _ => fun
  | [d] => { results := [.lit (.bool false)], args := [d] }
  | _ => none }
def MarkupParsesWrongFalsely : Prop := markupParsesRow.holds Tryz.pinned (OpenSpec.ofChange markupParsesWrong)

/-- 'espalierlaw04.MarkupBack': WHATEVER THE INPUT: true; the input reads as it did. -/
def markupBackSpec : ChangeSpec := { name := "markupBack", fn := fun _ => fun
  | [d] => { results := [.lit (.bool true)], args := [d] }
  | _ => none }
def markupBackRow : OpenClaim := { program := "ytmifejkddgcbmaagreat", sum := "473526c17c0a1f7edbe74ab4448da22fc9d1518eb2e793dfb6449402fa0cdc06", func := "espalier/espalierlaw04.MarkupBack", spec := "markupBack", inPlace := ["internal/bytealg.IndexByteString", "internal/bytealg.IndexString", "internal/abi.NoEscape"], unfollowed := true, recurses := true, named := ["internal/bytealg.MaxLen"], loops := true, apart := false }
def MarkupBackSaid : Prop := markupBackRow.holds Tryz.pinned (OpenSpec.ofChange markupBackSpec)

/-- ITS FALSE NEIGHBOUR: 'it returns false'. Refute it at one input. -/
def markupBackWrong : ChangeSpec := { name := "markupBack", fn := fun _ => fun
  | [d] => { results := [.lit (.bool false)], args := [d] }
  | _ => none }
def MarkupBackWrongFalsely : Prop := markupBackRow.holds Tryz.pinned (OpenSpec.ofChange markupBackWrong)

/-- 'espalierlaw04.MarkupForm': WHATEVER THE INPUT: true; the input reads as it did. -/
def markupFormSpec : ChangeSpec := { name := "markupForm", fn := fun _ => fun
  | [d] => { results := [.lit (.bool true)], args := [d] }
  | _ => none }
def markupFormRow : OpenClaim := { program := "ytmifejkddgcbmaagreat", sum := "473526c17c0a1f7edbe74ab4448da22fc9d1518eb2e793dfb6449402fa0cdc06", func := "espalier/espalierlaw04.MarkupForm", spec := "markupForm", inPlace := ["internal/bytealg.IndexByteString", "internal/bytealg.IndexString", "internal/abi.NoEscape"], unfollowed := true, recurses := true, named := ["internal/bytealg.MaxLen"], apart := false }
def MarkupFormSaid : Prop := markupFormRow.holds Tryz.pinned (OpenSpec.ofChange markupFormSpec)

/-- ITS FALSE NEIGHBOUR: 'it returns false'. Refute it at one input. -/
def markupFormWrong : ChangeSpec := { name := "markupForm", fn := fun _ => fun
  | [d] => { results := [.lit (.bool false)], args := [d] }
  | _ => none }
def MarkupFormWrongFalsely : Prop := markupFormRow.holds Tryz.pinned (OpenSpec.ofChange markupFormWrong)

/-- 'espalierlaw04.MarkupLoose': WHATEVER THE INPUT: true; the input reads as it did. -/
def markupLooseSpec : ChangeSpec := { name := "markupLoose", fn := fun _ => fun
  | [d1, d2] => { results := [.lit (.bool true)], args := [d1, d2] }
  | _ => none }
def markupLooseRow : OpenClaim := { program := "ytmifejkddgcbmaagreat", sum := "473526c17c0a1f7edbe74ab4448da22fc9d1518eb2e793dfb6449402fa0cdc06", func := "espalier/espalierlaw04.MarkupLoose", spec := "markupLoose", inPlace := ["internal/bytealg.IndexByteString", "internal/bytealg.IndexString", "internal/abi.NoEscape"], unfollowed := true, recurses := true, named := ["internal/bytealg.MaxLen"], loops := true, apart := false }
def MarkupLooseSaid : Prop := markupLooseRow.holds Tryz.pinned (OpenSpec.ofChange markupLooseSpec)

/-- ITS FALSE NEIGHBOUR: 'it returns false'. Refute it at one input. -/
def markupLooseWrong : ChangeSpec := { name := "markupLoose", fn := fun _ => fun
  | [d1, d2] => { results := [.lit (.bool false)], args := [d1, d2] }
  | _ => none }
def MarkupLooseWrongFalsely : Prop := markupLooseRow.holds Tryz.pinned (OpenSpec.ofChange markupLooseWrong)

/-- 'espalierlaw04.MarkupOne': WHATEVER THE INPUT: true; the input reads as it did. -/
def markupOneSpec : ChangeSpec := { name := "markupOne", fn := fun _ => fun
  | [d1, d2] => { results := [.lit (.bool true)], args := [d1, d2] }
  | _ => none }
def markupOneRow : OpenClaim := { program := "ytmifejkddgcbmaagreat", sum := "473526c17c0a1f7edbe74ab4448da22fc9d1518eb2e793dfb6449402fa0cdc06", func := "espalier/espalierlaw04.MarkupOne", spec := "markupOne", inPlace := ["internal/bytealg.IndexByteString", "internal/bytealg.IndexString", "internal/abi.NoEscape"], unfollowed := true, recurses := true, named := ["internal/bytealg.MaxLen"], loops := true, apart := false }
def MarkupOneSaid : Prop := markupOneRow.holds Tryz.pinned (OpenSpec.ofChange markupOneSpec)

/-- ITS FALSE NEIGHBOUR: 'it returns false'. Refute it at one input. -/
def markupOneWrong : ChangeSpec := { name := "markupOne", fn := fun _ => fun
  | [d1, d2] => { results := [.lit (.bool false)], args := [d1, d2] }
  | _ => none }
def MarkupOneWrongFalsely : Prop := markupOneRow.holds Tryz.pinned (OpenSpec.ofChange markupOneWrong)

/- THE SECOND FORM. 'bulk': how many values and letters a reading holds, each counted each time it is reached (what is shared counts as often as it is met; a slice's spare places count too). A statement '..UptoSaid' is the law's where the arguments, and the package variables that the reading takes, are together of bulk at most 1048576: NARROWER than '..Said'. Prove '..Said' where nothing that the law and all that it calls make is longer than what came in: it says more and counts as full. Else prove '..UptoSaid'. A law counts once. -/
mutual
def uptoBulk {H : Type} : DataW H → Nat
  | .lit (.string bytes) => bytes.length + 1
  | .lit _ => 1
  | .nil => 1
  | .ptr d => uptoBulk d + 1
  | .slice elems spare => uptoBulkAll elems + uptoBulkAll spare + 1
  | .agg parts => uptoBulkAll parts + 1
  | .iface _ d => uptoBulk d + 1
  | .map entries => uptoBulkEntries entries + 1
  | .held _ => 1
def uptoBulkAll {H : Type} : List (DataW H) → Nat
  | [] => 0
  | d :: r => uptoBulk d + uptoBulkAll r
def uptoBulkEntries {H : Type} : List (Lit × DataW H) → Nat
  | [] => 0
  | x :: r => uptoBulkEntry x + uptoBulkEntries r
def uptoBulkEntry {H : Type} : Lit × DataW H → Nat
  | (.string bytes, d) => bytes.length + uptoBulk d + 1
  | (_, d) => uptoBulk d + 1
 end
def uptoSmall : (H : Type) → List (DataW H) → Bool := fun _ ds => decide (uptoBulkAll ds ≤ 1048576)
def OpenSpec.upto (s : _root_.Go.ChangeSpec) : _root_.Go.OpenSpec := { _root_.Go.OpenSpec.ofChange s with cond := some uptoSmall }

/-- 'espalierlaw04.MarkupParses', WHERE WHAT IT READS IS OF BULK AT MOST 1048576: true; the input reads as it did. -/
def markupParsesUptoRow : OpenClaim := { program := "ytmifejkddgcbmaagreat", sum := "473526c17c0a1f7edbe74ab4448da22fc9d1518eb2e793dfb6449402fa0cdc06", func := "espalier/espalierlaw04.MarkupParses", spec := "markupParses", inPlace := ["internal/bytealg.IndexByteString", "internal/bytealg.IndexString"], unfollowed := true, recurses := true, named := ["internal/bytealg.MaxLen"], apart := false, narrowed := true }
def MarkupParsesUptoSaid : Prop := markupParsesUptoRow.holds Tryz.pinned (OpenSpec.upto markupParsesSpec)

/-- 'espalierlaw04.MarkupBack', WHERE WHAT IT READS IS OF BULK AT MOST 1048576: true; the input reads as it did. -/
def markupBackUptoRow : OpenClaim := { program := "ytmifejkddgcbmaagreat", sum := "473526c17c0a1f7edbe74ab4448da22fc9d1518eb2e793dfb6449402fa0cdc06", func := "espalier/espalierlaw04.MarkupBack", spec := "markupBack", inPlace := ["internal/bytealg.IndexByteString", "internal/bytealg.IndexString", "internal/abi.NoEscape"], unfollowed := true, recurses := true, named := ["internal/bytealg.MaxLen"], loops := true, apart := false, narrowed := true }
def MarkupBackUptoSaid : Prop := markupBackUptoRow.holds Tryz.pinned (OpenSpec.upto markupBackSpec)

/-- 'espalierlaw04.MarkupForm', WHERE WHAT IT READS IS OF BULK AT MOST 1048576: true; the input reads as it did. -/
def markupFormUptoRow : OpenClaim := { program := "ytmifejkddgcbmaagreat", sum := "473526c17c0a1f7edbe74ab4448da22fc9d1518eb2e793dfb6449402fa0cdc06", func := "espalier/espalierlaw04.MarkupForm", spec := "markupForm", inPlace := ["internal/bytealg.IndexByteString", "internal/bytealg.IndexString", "internal/abi.NoEscape"], unfollowed := true, recurses := true, named := ["internal/bytealg.MaxLen"], apart := false, narrowed := true }
def MarkupFormUptoSaid : Prop := markupFormUptoRow.holds Tryz.pinned (OpenSpec.upto markupFormSpec)

/-- 'espalierlaw04.MarkupLoose', WHERE WHAT IT READS IS OF BULK AT MOST 1048576: true; the input reads as it did. -/
def markupLooseUptoRow : OpenClaim := { program := "ytmifejkddgcbmaagreat", sum := "473526c17c0a1f7edbe74ab4448da22fc9d1518eb2e793dfb6449402fa0cdc06", func := "espalier/espalierlaw04.MarkupLoose", spec := "markupLoose", inPlace := ["internal/bytealg.IndexByteString", "internal/bytealg.IndexString", "internal/abi.NoEscape"], unfollowed := true, recurses := true, named := ["internal/bytealg.MaxLen"], loops := true, apart := false, narrowed := true }
def MarkupLooseUptoSaid : Prop := markupLooseUptoRow.holds Tryz.pinned (OpenSpec.upto markupLooseSpec)

/-- 'espalierlaw04.MarkupOne', WHERE WHAT IT READS IS OF BULK AT MOST 1048576: true; the input reads as it did. -/
def markupOneUptoRow : OpenClaim := { program := "ytmifejkddgcbmaagreat", sum := "473526c17c0a1f7edbe74ab4448da22fc9d1518eb2e793dfb6449402fa0cdc06", func := "espalier/espalierlaw04.MarkupOne", spec := "markupOne", inPlace := ["internal/bytealg.IndexByteString", "internal/bytealg.IndexString", "internal/abi.NoEscape"], unfollowed := true, recurses := true, named := ["internal/bytealg.MaxLen"], loops := true, apart := false, narrowed := true }
def MarkupOneUptoSaid : Prop := markupOneUptoRow.holds Tryz.pinned (OpenSpec.upto markupOneSpec)

end Rows
end Go.Proofs.YtmifejkddgcbmaaGreat
