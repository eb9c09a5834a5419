/-
  The program's policies: Seen, Owned, First.
-/
import Derived.ChangeKeysEq
import Derived.Deep.DeepCutAuto
import Derived.Lib.ItoaNum
import Derived.Lib.Join
import Derived.Lib.AtoiAll
import Derived.Lib.Bytealg
import Derived.Lib.QuietBelow
import Derived.RangeFuncNested
import Derived.RangeFuncBound
import Derived.RangeFuncCalls
import Derived.RangeFuncLeaves
import Derived.RangeFuncBox
import Derived.RangeFuncWrites
import Derived.Shelf.Abstract
import Derived.Shelf.RegionOpen
import Derived.WalkKit
import Derived.OwnWalkIn
import Derived.TacticsInMore
import Derived.LoopNIn
import Derived.LoopIn
import Derived.Maps.AppendAt
import Derived.StillTailTactics
import Derived.OneCell
import Derived.Laws.Rows
import Derived.Test.YtimbhamdblganaaWPolC
import Derived.Test.YtimbhamdblganaaWMid
import Derived.Test.YtimbhamdblganaaWArr
import Derived.Test.YtimbhamdblganaaWBitsM
import Derived.Test.YtimbhamdblganaaWTagA
import Derived.Test.YtimbhamdblganaaWStage
import Derived.Test.YtimbhamdblganaaWTagL
import Derived.Test.YtimbhamdblganaaWRound
import Derived.Test.YtimbhamdblganaaWRelA
import Derived.Test.YtimbhamdblganaaWLabA
/-! PolE -/
namespace Go.Proofs.Ytimbhamdblganaa
open Go.RowKit

/-- A set of one. -/
theorem of_one (w : World) (k : Nat) : Calls Try.prog 27 #[.slice (some ⟨w.heap.size, 0, none⟩) 1 1] (w.alloc (.cells #[.int .i64 (k : Int)] 3)) fun e w' => e = .returned (.int .u16 (ofL 0 [(k : Int)] : Nat)) ∧ w.alloc (.cells #[.int .i64 (k : Int)] 3) = w' :=
  Of_any _ _ _ (ints_one w (k : Int))
end Go.Proofs.Ytimbhamdblganaa
