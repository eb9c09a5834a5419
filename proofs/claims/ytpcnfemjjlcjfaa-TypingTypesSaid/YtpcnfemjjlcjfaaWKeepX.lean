/-
  What is known of the world, and stays so.
-/
import Derived.LoopTactic
import Derived.RangeFuncNested
import Derived.RangeFuncBound
import Derived.RangeFuncCalls
import Derived.RangeFuncLeaves
import Derived.RangeFuncBox
import Derived.RangeFuncWrites
import Derived.Shelf.Abstract
import Derived.Shelf.RegionOpen
import Derived.WalkKit
import Derived.OwnWalkIn
import Derived.TacticsInMore
import Derived.LoopNIn
import Derived.LoopIn
import Derived.Maps.AppendAt
import Derived.Test.YtpcnfemjjlcjfaaRows
import Derived.WalkSpells
import Derived.WalkLawsBesides
import Derived.Lib.Hide
import Derived.Deep.QuietTactic
import Derived.BigQuiet
import Derived.Outline
import Derived.Laws.BitsAllLaws
import Derived.Laws.ShiftsVarLaws
import Derived.Lib.TrailingZeros
import Derived.TacticsIn
import Derived.OwnWalk
import Derived.Laws.AppendOwnNone
import Derived.Test.YtpcnfemjjlcjfaaWLexM
import Derived.Test.YtpcnfemjjlcjfaaWSlcG
import Derived.Test.YtpcnfemjjlcjfaaWChain
import Derived.Test.YtpcnfemjjlcjfaaWRound
import Derived.Test.YtpcnfemjjlcjfaaWBlk
/-! KeepX -/
namespace Go.Proofs.Ytpcnfemjjlcjfaa
open Go.RowKit

/-- What is kept, as memory grows. -/
structure KeepX (G : World → Prop) : Prop where
  keep : ∀ {w w' : World}, G w → Below w.heap.size w w' → G w'
end Go.Proofs.Ytpcnfemjjlcjfaa
