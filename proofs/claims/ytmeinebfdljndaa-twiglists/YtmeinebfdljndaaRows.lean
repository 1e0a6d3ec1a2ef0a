/-
  NARROWER THAN 'FOR EVERY INPUT', by the rows' own cells (each row's printed sentence says how): TwigLists: loops · TwigUsed: loops · TwigBranches: loops.
  DERIVED. THE GIVEN ROWS OF THIS SEAT. 3 by the template 'for every input the law returns true; each argument reads behind the call as it read before'; 0 by the template 'total and deterministic' (their statements: YtmeinebfdljndaaTotals.lean).
  GIVEN WITH THE SEED: the statements are not yours to turn. If you find one false, say at which input.
  Laid BY PROGRAM, IN A SANDBOX (cutbox-rows.mjs): the forced cells as the released guide's own fill.sh prints them over the translation 3f7814ec19ae1196… (all of the seat's roots in one cut). By AI agents, Wed Nov 11 2026. No macro, syntax, notation, axiom, sorry.
-/
import Derived.Test.YtmeinebfdljndaaChecked
import GoSem.Claim
import GoSem.ClaimJoined
import GoSem.ClaimMapViews
import Derived.JoinedTies
import Derived.KernelRfl
namespace Go.Proofs.Ytmeinebfdljndaa
/- THE CELL 'sum', in the pinned program and in every row, IS THE sha256 OF THE DUMP (.gsa) THAT YtmeinebfdljndaaProg.lean LOADS. Nothing in Lean hashes anything: it is a label: what it is worth is what the hold of that sum in a sandbox is worth. -/
noncomputable def Try.pinned : Pinned := { name := "ytmeinebfdljndaa", sum := "3f7814ec19ae11962f48439b2439879e8355e2397e94ef4804763b05f90a0fcc", checked := Try.checked }
namespace Rows
def none {H : Type} : Left H := { results := [], args := [] }

/-- 'espalierlaw12.TwigLists': WHATEVER THE INPUT: true; the input reads as it did. -/
def twigListsSpec : ChangeSpec := { name := "twigLists", fn := fun _ => fun
  | [d1, d2, d3, d4] => { results := [.lit (.bool true)], args := [d1, d2, d3, d4] }
  | _ => none }
def twigListsRow : OpenClaim := { program := "ytmeinebfdljndaa", sum := "3f7814ec19ae11962f48439b2439879e8355e2397e94ef4804763b05f90a0fcc", func := "espalier/espalierlaw12.TwigLists", spec := "twigLists", unfollowed := true, recurses := true, loops := true, apart := false }
def TwigListsSaid : Prop := twigListsRow.holds Try.pinned (OpenSpec.ofChange twigListsSpec)

/-- ITS FALSE NEIGHBOUR: 'it returns false'. Refute it at one input. -/
def twigListsWrong : ChangeSpec := { name := "twigLists", fn := fun _ => fun
  | [d1, d2, d3, d4] => { results := [.lit (.bool false)], args := [d1, d2, d3, d4] }
  | _ => none }
def TwigListsWrongFalsely : Prop := twigListsRow.holds Try.pinned (OpenSpec.ofChange twigListsWrong)

/-- 'espalierlaw12.TwigUsed': WHATEVER THE INPUT: true; the input reads as it did. -/
def twigUsedSpec : ChangeSpec := { name := "twigUsed", fn := fun _ => fun
  | [d1, d2, d3] => { results := [.lit (.bool true)], args := [d1, d2, d3] }
  | _ => none }
def twigUsedRow : OpenClaim := { program := "ytmeinebfdljndaa", sum := "3f7814ec19ae11962f48439b2439879e8355e2397e94ef4804763b05f90a0fcc", func := "espalier/espalierlaw12.TwigUsed", spec := "twigUsed", inPlace := ["math/bits.Add64"], unfollowed := true, recurses := true, loops := true, apart := false }
def TwigUsedSaid : Prop := twigUsedRow.holds Try.pinned (OpenSpec.ofChange twigUsedSpec)

/-- ITS FALSE NEIGHBOUR: 'it returns false'. Refute it at one input. -/
def twigUsedWrong : ChangeSpec := { name := "twigUsed", fn := fun _ => fun
  | [d1, d2, d3] => { results := [.lit (.bool false)], args := [d1, d2, d3] }
  | _ => none }
def TwigUsedWrongFalsely : Prop := twigUsedRow.holds Try.pinned (OpenSpec.ofChange twigUsedWrong)

/-- 'espalierlaw12.TwigBranches': WHATEVER THE INPUT: true; the input reads as it did. -/
def twigBranchesSpec : ChangeSpec := { name := "twigBranches", fn := fun _ => fun
  | [d1, d2] => { results := [.lit (.bool true)], args := [d1, d2] }
  | _ => none }
def twigBranchesRow : OpenClaim := { program := "ytmeinebfdljndaa", sum := "3f7814ec19ae11962f48439b2439879e8355e2397e94ef4804763b05f90a0fcc", func := "espalier/espalierlaw12.TwigBranches", spec := "twigBranches", inPlace := ["math/bits.Add64"], unfollowed := true, recurses := true, loops := true, apart := false }
def TwigBranchesSaid : Prop := twigBranchesRow.holds Try.pinned (OpenSpec.ofChange twigBranchesSpec)

/-- ITS FALSE NEIGHBOUR: 'it returns false'. Refute it at one input. -/
def twigBranchesWrong : ChangeSpec := { name := "twigBranches", fn := fun _ => fun
  | [d1, d2] => { results := [.lit (.bool false)], args := [d1, d2] }
  | _ => none }
def TwigBranchesWrongFalsely : Prop := twigBranchesRow.holds Try.pinned (OpenSpec.ofChange twigBranchesWrong)

/- THE SECOND FORM. 'bulk': how many values and letters a reading holds, each counted each time it is reached (what is shared counts as often as it is met; a slice's spare places count too). A statement '..UptoSaid' is the law's where the arguments, and the package variables that the reading takes, are together of bulk at most 1048576: NARROWER than '..Said'. Prove '..Said' where nothing that the law and all that it calls make is longer than what came in: it says more and counts as full. Else prove '..UptoSaid'. A law counts once. -/
mutual
def uptoBulk {H : Type} : DataW H → Nat
  | .lit (.string bytes) => bytes.length + 1
  | .lit _ => 1
  | .nil => 1
  | .ptr d => uptoBulk d + 1
  | .slice elems spare => uptoBulkAll elems + uptoBulkAll spare + 1
  | .agg parts => uptoBulkAll parts + 1
  | .iface _ d => uptoBulk d + 1
  | .map entries => uptoBulkEntries entries + 1
  | .held _ => 1
def uptoBulkAll {H : Type} : List (DataW H) → Nat
  | [] => 0
  | d :: r => uptoBulk d + uptoBulkAll r
def uptoBulkEntries {H : Type} : List (Lit × DataW H) → Nat
  | [] => 0
  | x :: r => uptoBulkEntry x + uptoBulkEntries r
def uptoBulkEntry {H : Type} : Lit × DataW H → Nat
  | (.string bytes, d) => bytes.length + uptoBulk d + 1
  | (_, d) => uptoBulk d + 1
 end
def uptoSmall : (H : Type) → List (DataW H) → Bool := fun _ ds => decide (uptoBulkAll ds ≤ 1048576)
def OpenSpec.upto (s : _root_.Go.ChangeSpec) : _root_.Go.OpenSpec := { _root_.Go.OpenSpec.ofChange s with cond := some uptoSmall }

/-- 'espalierlaw12.TwigLists', WHERE WHAT IT READS IS OF BULK AT MOST 1048576: true; the input reads as it did. -/
def twigListsUptoRow : OpenClaim := { program := "ytmeinebfdljndaa", sum := "3f7814ec19ae11962f48439b2439879e8355e2397e94ef4804763b05f90a0fcc", func := "espalier/espalierlaw12.TwigLists", spec := "twigLists", unfollowed := true, recurses := true, loops := true, apart := false, narrowed := true }
def TwigListsUptoSaid : Prop := twigListsUptoRow.holds Try.pinned (OpenSpec.upto twigListsSpec)

/-- 'espalierlaw12.TwigUsed', WHERE WHAT IT READS IS OF BULK AT MOST 1048576: true; the input reads as it did. -/
def twigUsedUptoRow : OpenClaim := { program := "ytmeinebfdljndaa", sum := "3f7814ec19ae11962f48439b2439879e8355e2397e94ef4804763b05f90a0fcc", func := "espalier/espalierlaw12.TwigUsed", spec := "twigUsed", inPlace := ["math/bits.Add64"], unfollowed := true, recurses := true, loops := true, apart := false, narrowed := true }
def TwigUsedUptoSaid : Prop := twigUsedUptoRow.holds Try.pinned (OpenSpec.upto twigUsedSpec)

/-- 'espalierlaw12.TwigBranches', WHERE WHAT IT READS IS OF BULK AT MOST 1048576: true; the input reads as it did. -/
def twigBranchesUptoRow : OpenClaim := { program := "ytmeinebfdljndaa", sum := "3f7814ec19ae11962f48439b2439879e8355e2397e94ef4804763b05f90a0fcc", func := "espalier/espalierlaw12.TwigBranches", spec := "twigBranches", inPlace := ["math/bits.Add64"], unfollowed := true, recurses := true, loops := true, apart := false, narrowed := true }
def TwigBranchesUptoSaid : Prop := twigBranchesUptoRow.holds Try.pinned (OpenSpec.upto twigBranchesSpec)

end Rows
end Go.Proofs.Ytmeinebfdljndaa
