/-
  No cell of these rows narrows 'for every input' (looked for: loops, veiled, ifaces, maps, wideKeys, modest, calm, conditions, laid).
  DERIVED. THE GIVEN ROWS OF THIS SEAT. 4 by the template 'for every input the law returns true; each argument reads behind the call as it read before'; 0 by the template 'total and deterministic' (their statements: YtimbhamdblganaaTotals.lean).
  GIVEN WITH THE SEED: the statements are not yours to turn. If you find one false, say at which input.
  Laid BY PROGRAM, IN A SANDBOX (cutbox-rows.mjs): the forced cells as the released guide's own fill.sh prints them over the translation 501dc407bef9630b… (all of the seat's roots in one cut). By AI agents, Wed Nov 11 2026. No macro, syntax, notation, axiom, sorry.
-/
import Derived.Test.YtimbhamdblganaaChecked
import GoSem.Claim
import GoSem.ClaimJoined
import GoSem.ClaimMapViews
import Derived.JoinedTies
import Derived.KernelRfl
namespace Go.Proofs.Ytimbhamdblganaa
/- THE CELL 'sum', in the pinned program and in every row, IS THE sha256 OF THE DUMP (.gsa) THAT YtimbhamdblganaaProg.lean LOADS. Nothing in Lean hashes anything: it is a label: what it is worth is what the hold of that sum in a sandbox is worth. -/
noncomputable def Try.pinned : Pinned := { name := "ytimbhamdblganaa", sum := "501dc407bef9630b711805fa2f69dd3777c50ad015e62e3dc880839521e1d7bc", checked := Try.checked }
namespace Rows
def none {H : Type} : Left H := { results := [], args := [] }

/-- 'forepeaklaw14.VersionPlays': WHATEVER THE INPUT: true; the input reads as it did. -/
def versionPlaysSpec : ChangeSpec := { name := "versionPlays", fn := fun _ => fun
  | [d1, d2] => { results := [.lit (.bool true)], args := [d1, d2] }
  | _ => none }
def versionPlaysRow : OpenClaim := { program := "ytimbhamdblganaa", sum := "501dc407bef9630b711805fa2f69dd3777c50ad015e62e3dc880839521e1d7bc", func := "forepeak/forepeaklaw14.VersionPlays", spec := "versionPlays", apart := false }
def VersionPlaysSaid : Prop := versionPlaysRow.holds Try.pinned (OpenSpec.ofChange versionPlaysSpec)

/-- ITS FALSE NEIGHBOUR: 'it returns false'. Refute it at one input. -/
def versionPlaysWrong : ChangeSpec := { name := "versionPlays", fn := fun _ => fun
  | [d1, d2] => { results := [.lit (.bool false)], args := [d1, d2] }
  | _ => none }
def VersionPlaysWrongFalsely : Prop := versionPlaysRow.holds Try.pinned (OpenSpec.ofChange versionPlaysWrong)

/-- 'forepeaklaw14.VersionOf': WHATEVER THE INPUT: true; the input reads as it did. -/
def versionOfSpec : ChangeSpec := { name := "versionOf", fn := fun _ => fun
  | [d1, d2, d3] => { results := [.lit (.bool true)], args := [d1, d2, d3] }
  | _ => none }
def versionOfRow : OpenClaim := { program := "ytimbhamdblganaa", sum := "501dc407bef9630b711805fa2f69dd3777c50ad015e62e3dc880839521e1d7bc", func := "forepeak/forepeaklaw14.VersionOf", spec := "versionOf", apart := false }
def VersionOfSaid : Prop := versionOfRow.holds Try.pinned (OpenSpec.ofChange versionOfSpec)

/-- ITS FALSE NEIGHBOUR: 'it returns false'. Refute it at one input. -/
def versionOfWrong : ChangeSpec := { name := "versionOf", fn := fun _ => fun
  | [d1, d2, d3] => { results := [.lit (.bool false)], args := [d1, d2, d3] }
  | _ => none }
def VersionOfWrongFalsely : Prop := versionOfRow.holds Try.pinned (OpenSpec.ofChange versionOfWrong)

/-- 'forepeaklaw14.VersionKeeps': WHATEVER THE INPUT: true; the input reads as it did. -/
def versionKeepsSpec : ChangeSpec := { name := "versionKeeps", fn := fun _ => fun
  | [d] => { results := [.lit (.bool true)], args := [d] }
  | _ => none }
def versionKeepsRow : OpenClaim := { program := "ytimbhamdblganaa", sum := "501dc407bef9630b711805fa2f69dd3777c50ad015e62e3dc880839521e1d7bc", func := "forepeak/forepeaklaw14.VersionKeeps", spec := "versionKeeps", apart := false }
def VersionKeepsSaid : Prop := versionKeepsRow.holds Try.pinned (OpenSpec.ofChange versionKeepsSpec)

/-- ITS FALSE NEIGHBOUR: 'it returns false'. Refute it at one input. -/
def versionKeepsWrong : ChangeSpec := { name := "versionKeeps", fn := fun _ => fun
  | [d] => { results := [.lit (.bool false)], args := [d] }
  | _ => none }
def VersionKeepsWrongFalsely : Prop := versionKeepsRow.holds Try.pinned (OpenSpec.ofChange versionKeepsWrong)

/-- 'forepeaklaw14.VersionNobody': WHATEVER THE INPUT: true; the input reads as it did. -/
def versionNobodySpec : ChangeSpec := { name := "versionNobody", fn := fun _ => fun
  | [d] => { results := [.lit (.bool true)], args := [d] }
  | _ => none }
def versionNobodyRow : OpenClaim := { program := "ytimbhamdblganaa", sum := "501dc407bef9630b711805fa2f69dd3777c50ad015e62e3dc880839521e1d7bc", func := "forepeak/forepeaklaw14.VersionNobody", spec := "versionNobody", apart := false }
def VersionNobodySaid : Prop := versionNobodyRow.holds Try.pinned (OpenSpec.ofChange versionNobodySpec)

/-- ITS FALSE NEIGHBOUR: 'it returns false'. Refute it at one input. -/
def versionNobodyWrong : ChangeSpec := { name := "versionNobody", fn := fun _ => fun
  | [d] => { results := [.lit (.bool false)], args := [d] }
  | _ => none }
def VersionNobodyWrongFalsely : Prop := versionNobodyRow.holds Try.pinned (OpenSpec.ofChange versionNobodyWrong)

/- THE SECOND FORM. 'bulk': how many values and letters a reading holds, each counted each time it is reached (what is shared counts as often as it is met; a slice's spare places count too). A statement '..UptoSaid' is the law's where the arguments, and the package variables that the reading takes, are together of bulk at most 1048576: NARROWER than '..Said'. Prove '..Said' where nothing that the law and all that it calls make is longer than what came in: it says more and counts as full. Else prove '..UptoSaid'. A law counts once. -/
mutual
def uptoBulk {H : Type} : DataW H → Nat
  | .lit (.string bytes) => bytes.length + 1
  | .lit _ => 1
  | .nil => 1
  | .ptr d => uptoBulk d + 1
  | .slice elems spare => uptoBulkAll elems + uptoBulkAll spare + 1
  | .agg parts => uptoBulkAll parts + 1
  | .iface _ d => uptoBulk d + 1
  | .map entries => uptoBulkEntries entries + 1
  | .held _ => 1
def uptoBulkAll {H : Type} : List (DataW H) → Nat
  | [] => 0
  | d :: r => uptoBulk d + uptoBulkAll r
def uptoBulkEntries {H : Type} : List (Lit × DataW H) → Nat
  | [] => 0
  | x :: r => uptoBulkEntry x + uptoBulkEntries r
def uptoBulkEntry {H : Type} : Lit × DataW H → Nat
  | (.string bytes, d) => bytes.length + uptoBulk d + 1
  | (_, d) => uptoBulk d + 1
 end
def uptoSmall : (H : Type) → List (DataW H) → Bool := fun _ ds => decide (uptoBulkAll ds ≤ 1048576)
def OpenSpec.upto (s : _root_.Go.ChangeSpec) : _root_.Go.OpenSpec := { _root_.Go.OpenSpec.ofChange s with cond := some uptoSmall }

/-- 'forepeaklaw14.VersionPlays', WHERE WHAT IT READS IS OF BULK AT MOST 1048576: true; the input reads as it did. -/
def versionPlaysUptoRow : OpenClaim := { program := "ytimbhamdblganaa", sum := "501dc407bef9630b711805fa2f69dd3777c50ad015e62e3dc880839521e1d7bc", func := "forepeak/forepeaklaw14.VersionPlays", spec := "versionPlays", apart := false, narrowed := true }
def VersionPlaysUptoSaid : Prop := versionPlaysUptoRow.holds Try.pinned (OpenSpec.upto versionPlaysSpec)

/-- 'forepeaklaw14.VersionOf', WHERE WHAT IT READS IS OF BULK AT MOST 1048576: true; the input reads as it did. -/
def versionOfUptoRow : OpenClaim := { program := "ytimbhamdblganaa", sum := "501dc407bef9630b711805fa2f69dd3777c50ad015e62e3dc880839521e1d7bc", func := "forepeak/forepeaklaw14.VersionOf", spec := "versionOf", apart := false, narrowed := true }
def VersionOfUptoSaid : Prop := versionOfUptoRow.holds Try.pinned (OpenSpec.upto versionOfSpec)

/-- 'forepeaklaw14.VersionKeeps', WHERE WHAT IT READS IS OF BULK AT MOST 1048576: true; the input reads as it did. -/
def versionKeepsUptoRow : OpenClaim := { program := "ytimbhamdblganaa", sum := "501dc407bef9630b711805fa2f69dd3777c50ad015e62e3dc880839521e1d7bc", func := "forepeak/forepeaklaw14.VersionKeeps", spec := "versionKeeps", apart := false, narrowed := true }
def VersionKeepsUptoSaid : Prop := versionKeepsUptoRow.holds Try.pinned (OpenSpec.upto versionKeepsSpec)

/-- 'forepeaklaw14.VersionNobody', WHERE WHAT IT READS IS OF BULK AT MOST 1048576: true; the input reads as it did. -/
def versionNobodyUptoRow : OpenClaim := { program := "ytimbhamdblganaa", sum := "501dc407bef9630b711805fa2f69dd3777c50ad015e62e3dc880839521e1d7bc", func := "forepeak/forepeaklaw14.VersionNobody", spec := "versionNobody", apart := false, narrowed := true }
def VersionNobodyUptoSaid : Prop := versionNobodyUptoRow.holds Try.pinned (OpenSpec.upto versionNobodySpec)

end Rows
end Go.Proofs.Ytimbhamdblganaa
