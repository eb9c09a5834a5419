/-
  Nodes are compared: what is the same is equal; the document's Same.
-/
import Derived.DeepKeys
import Derived.ChangeKeysEq
import Derived.BigQuiet
import Derived.Deep.DeepCutAuto
import Derived.LoopTactic
import Derived.RangeFuncNested
import Derived.RangeFuncBound
import Derived.RangeFuncCalls
import Derived.RangeFuncLeaves
import Derived.RangeFuncBox
import Derived.RangeFuncWrites
import Derived.Shelf.Abstract
import Derived.Shelf.RegionOpen
import Derived.WalkKit
import Derived.OwnWalkIn
import Derived.TacticsInMore
import Derived.LoopNIn
import Derived.LoopIn
import Derived.Maps.AppendAt
import Derived.Test.YtpcnfemjjlcjfaaRows
import Derived.WalkSpells
import Derived.WalkLawsBesides
import Derived.Lib.Hide
import Derived.Deep.QuietTactic
import Derived.Outline
import Derived.Laws.BitsAllLaws
import Derived.Laws.ShiftsVarLaws
import Derived.Lib.TrailingZeros
import Derived.TacticsIn
import Derived.OwnWalk
import Derived.Laws.AppendOwnNone
import Derived.Test.YtpcnfemjjlcjfaaWParA
import Derived.Test.YtpcnfemjjlcjfaaWParO
import Derived.Test.YtpcnfemjjlcjfaaWLexM
import Derived.Test.YtpcnfemjjlcjfaaWSlcG
import Derived.Test.YtpcnfemjjlcjfaaWChain
import Derived.Test.YtpcnfemjjlcjfaaWRound
import Derived.Test.YtpcnfemjjlcjfaaWBlk
import Derived.Test.YtpcnfemjjlcjfaaWRegP
import Derived.Test.YtpcnfemjjlcjfaaWInvM
import Derived.Test.YtpcnfemjjlcjfaaWStage
/-! ParH -/
namespace Go.Proofs.Ytpcnfemjjlcjfaa
open Go.RowKit

/-- What a node holds is a number of the machine. -/
def IntQ (x : Qn) : Prop := (-9223372036854775808 ≤ x.kind ∧ x.kind ≤ 9223372036854775807) ∧ -9223372036854775808 ≤ x.n ∧ x.n ≤ 9223372036854775807
section
variable {x : Qn}
end
end Go.Proofs.Ytpcnfemjjlcjfaa
