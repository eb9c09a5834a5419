/-
  What is asked of the program's policies: contracts, as words.
-/
import Derived.Laws.BitsLemmas
import Derived.IntWalk
import Derived.LoopTactic
import Derived.WalkSpells
import Derived.Lib.SliceRun
import Derived.Lib.ConvBytes
import Derived.Test.YtimbhamdblganaaRows
import Derived.WalkKit
import Derived.WalkLawsBesides
import Derived.StillTailTactics
import Derived.Laws.AppendOwnNone
import Derived.Deep.QuietTactic
import Derived.BigQuiet
import Derived.KernelRfl
import Derived.OwnWalk
import Derived.RangeFuncNested
import Derived.RangeFuncBound
import Derived.RangeFuncCalls
import Derived.RangeFuncLeaves
import Derived.RangeFuncBox
import Derived.RangeFuncWrites
import Derived.Shelf.Abstract
import Derived.Shelf.RegionOpen
import Derived.OwnWalkIn
import Derived.TacticsInMore
import Derived.LoopNIn
import Derived.LoopIn
import Derived.Maps.AppendAt
import Derived.Test.YtimbhamdblganaaWPolB
import Derived.Test.YtimbhamdblganaaWBlk
import Derived.Test.YtimbhamdblganaaWFactsT
import Derived.Test.YtimbhamdblganaaWLate
import Derived.Test.YtimbhamdblganaaWPolT
import Derived.Test.YtimbhamdblganaaWTagL
/-! PolC -/
namespace Go.Proofs.Ytimbhamdblganaa
open Go.RowKit

def PFirstC : Prop := ∀ (w : World), Calls Try.prog 22 #[] w fun e w' => e = .returned (.agg (polC firstP)) ∧ Below w.heap.size w w'
/-! Of policies that may be, only. -/
end Go.Proofs.Ytimbhamdblganaa
