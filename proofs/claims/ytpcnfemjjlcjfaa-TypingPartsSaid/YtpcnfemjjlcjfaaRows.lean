/-
  No cell of these rows narrows 'for every input' (looked for: loops, veiled, ifaces, maps, wideKeys, modest, calm, conditions, laid).
  DERIVED. THE GIVEN ROWS OF THIS SEAT. 3 by the template 'for every input the law returns true; each argument reads behind the call as it read before'; 0 by the template 'total and deterministic' (their statements: YtpcnfemjjlcjfaaTotals.lean).
  GIVEN WITH THE SEED: the statements are not yours to turn. If you find one false, say at which input.
  Laid BY PROGRAM, IN A SANDBOX (cutbox-rows.mjs): the forced cells as the released guide's own fill.sh prints them over the translation 069031bad4ae8520… (all of the seat's roots in one cut). By AI agents, Wed Nov 11 2026. No macro, syntax, notation, axiom, sorry.
-/
import Derived.Test.YtpcnfemjjlcjfaaChecked
import GoSem.Claim
import GoSem.ClaimJoined
import GoSem.ClaimMapViews
import Derived.JoinedTies
import Derived.KernelRfl
namespace Go.Proofs.Ytpcnfemjjlcjfaa
/- THE CELL 'sum', in the pinned program and in every row, IS THE sha256 OF THE DUMP (.gsa) THAT YtpcnfemjjlcjfaaProg.lean LOADS. Nothing in Lean hashes anything: it is a label: what it is worth is what the hold of that sum in a sandbox is worth. -/
noncomputable def Try.pinned : Pinned := { name := "ytpcnfemjjlcjfaa", sum := "069031bad4ae8520a46ee69760f311795347aee97cd0685244e907c1d1c54c45", checked := Try.checked }
namespace Rows
def none {H : Type} : Left H := { results := [], args := [] }

/-- 'forepeaklaw18.TypingNodes': WHATEVER THE INPUT: true; the input reads as it did. -/
def typingNodesSpec : ChangeSpec := { name := "typingNodes", fn := fun _ => fun
  | [d1, d2] => { results := [.lit (.bool true)], args := [d1, d2] }
  | _ => none }
def typingNodesRow : OpenClaim := { program := "ytpcnfemjjlcjfaa", sum := "069031bad4ae8520a46ee69760f311795347aee97cd0685244e907c1d1c54c45", func := "forepeak/forepeaklaw18.TypingNodes", spec := "typingNodes", apart := false }
def TypingNodesSaid : Prop := typingNodesRow.holds Try.pinned (OpenSpec.ofChange typingNodesSpec)

/-- ITS FALSE NEIGHBOUR: 'it returns false'. Refute it at one input. -/
def typingNodesWrong : ChangeSpec := { name := "typingNodes", fn := fun _ => fun
  | [d1, d2] => { results := [.lit (.bool false)], args := [d1, d2] }
  | _ => none }
def TypingNodesWrongFalsely : Prop := typingNodesRow.holds Try.pinned (OpenSpec.ofChange typingNodesWrong)

/-- 'forepeaklaw18.TypingTypes': WHATEVER THE INPUT: true; the input reads as it did. -/
def typingTypesSpec : ChangeSpec := { name := "typingTypes", fn := fun _ => fun
  | [d] => { results := [.lit (.bool true)], args := [d] }
  | _ => none }
def typingTypesRow : OpenClaim := { program := "ytpcnfemjjlcjfaa", sum := "069031bad4ae8520a46ee69760f311795347aee97cd0685244e907c1d1c54c45", func := "forepeak/forepeaklaw18.TypingTypes", spec := "typingTypes", recurses := true, apart := false }
def TypingTypesSaid : Prop := typingTypesRow.holds Try.pinned (OpenSpec.ofChange typingTypesSpec)

/-- ITS FALSE NEIGHBOUR: 'it returns false'. Refute it at one input. -/
def typingTypesWrong : ChangeSpec := { name := "typingTypes", fn := fun _ => fun
  | [d] => { results := [.lit (.bool false)], args := [d] }
  | _ => none }
def TypingTypesWrongFalsely : Prop := typingTypesRow.holds Try.pinned (OpenSpec.ofChange typingTypesWrong)

/-- 'forepeaklaw18.TypingParts': WHATEVER THE INPUT: true; the input reads as it did. -/
def typingPartsSpec : ChangeSpec := { name := "typingParts", fn := fun _ => fun
  | [d] => { results := [.lit (.bool true)], args := [d] }
  | _ => none }
def typingPartsRow : OpenClaim := { program := "ytpcnfemjjlcjfaa", sum := "069031bad4ae8520a46ee69760f311795347aee97cd0685244e907c1d1c54c45", func := "forepeak/forepeaklaw18.TypingParts", spec := "typingParts", apart := false }
def TypingPartsSaid : Prop := typingPartsRow.holds Try.pinned (OpenSpec.ofChange typingPartsSpec)

/-- ITS FALSE NEIGHBOUR: 'it returns false'. Refute it at one input. -/
def typingPartsWrong : ChangeSpec := { name := "typingParts", fn := fun _ => fun
  | [d] => { results := [.lit (.bool false)], args := [d] }
  | _ => none }
def TypingPartsWrongFalsely : Prop := typingPartsRow.holds Try.pinned (OpenSpec.ofChange typingPartsWrong)

/- THE SECOND FORM. 'bulk': how many values and letters a reading holds, each counted each time it is reached (what is shared counts as often as it is met; a slice's spare places count too). A statement '..UptoSaid' is the law's where the arguments, and the package variables that the reading takes, are together of bulk at most 1048576: NARROWER than '..Said'. Prove '..Said' where nothing that the law and all that it calls make is longer than what came in: it says more and counts as full. Else prove '..UptoSaid'. A law counts once. -/
mutual
def uptoBulk {H : Type} : DataW H → Nat
  | .lit (.string bytes) => bytes.length + 1
  | .lit _ => 1
  | .nil => 1
  | .ptr d => uptoBulk d + 1
  | .slice elems spare => uptoBulkAll elems + uptoBulkAll spare + 1
  | .agg parts => uptoBulkAll parts + 1
  | .iface _ d => uptoBulk d + 1
  | .map entries => uptoBulkEntries entries + 1
  | .held _ => 1
def uptoBulkAll {H : Type} : List (DataW H) → Nat
  | [] => 0
  | d :: r => uptoBulk d + uptoBulkAll r
def uptoBulkEntries {H : Type} : List (Lit × DataW H) → Nat
  | [] => 0
  | x :: r => uptoBulkEntry x + uptoBulkEntries r
def uptoBulkEntry {H : Type} : Lit × DataW H → Nat
  | (.string bytes, d) => bytes.length + uptoBulk d + 1
  | (_, d) => uptoBulk d + 1
 end
def uptoSmall : (H : Type) → List (DataW H) → Bool := fun _ ds => decide (uptoBulkAll ds ≤ 1048576)
def OpenSpec.upto (s : _root_.Go.ChangeSpec) : _root_.Go.OpenSpec := { _root_.Go.OpenSpec.ofChange s with cond := some uptoSmall }

/-- 'forepeaklaw18.TypingNodes', WHERE WHAT IT READS IS OF BULK AT MOST 1048576: true; the input reads as it did. -/
def typingNodesUptoRow : OpenClaim := { program := "ytpcnfemjjlcjfaa", sum := "069031bad4ae8520a46ee69760f311795347aee97cd0685244e907c1d1c54c45", func := "forepeak/forepeaklaw18.TypingNodes", spec := "typingNodes", apart := false, narrowed := true }
def TypingNodesUptoSaid : Prop := typingNodesUptoRow.holds Try.pinned (OpenSpec.upto typingNodesSpec)

/-- 'forepeaklaw18.TypingTypes', WHERE WHAT IT READS IS OF BULK AT MOST 1048576: true; the input reads as it did. -/
def typingTypesUptoRow : OpenClaim := { program := "ytpcnfemjjlcjfaa", sum := "069031bad4ae8520a46ee69760f311795347aee97cd0685244e907c1d1c54c45", func := "forepeak/forepeaklaw18.TypingTypes", spec := "typingTypes", recurses := true, apart := false, narrowed := true }
def TypingTypesUptoSaid : Prop := typingTypesUptoRow.holds Try.pinned (OpenSpec.upto typingTypesSpec)

/-- 'forepeaklaw18.TypingParts', WHERE WHAT IT READS IS OF BULK AT MOST 1048576: true; the input reads as it did. -/
def typingPartsUptoRow : OpenClaim := { program := "ytpcnfemjjlcjfaa", sum := "069031bad4ae8520a46ee69760f311795347aee97cd0685244e907c1d1c54c45", func := "forepeak/forepeaklaw18.TypingParts", spec := "typingParts", apart := false, narrowed := true }
def TypingPartsUptoSaid : Prop := typingPartsUptoRow.holds Try.pinned (OpenSpec.upto typingPartsSpec)

end Rows
end Go.Proofs.Ytpcnfemjjlcjfaa
