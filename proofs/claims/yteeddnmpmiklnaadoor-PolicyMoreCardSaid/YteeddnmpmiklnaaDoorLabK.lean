/-
  The reference's joins and meets.
-/
import Derived.Test.YteeddnmpmiklnaaDoorPair
import Derived.Test.YteeddnmpmiklnaaDoorLabB
import Derived.StillTailTactics
namespace Go.Proofs.YteeddnmpmiklnaaDoor
open Go.RowKit

end Go.Proofs.YteeddnmpmiklnaaDoor
