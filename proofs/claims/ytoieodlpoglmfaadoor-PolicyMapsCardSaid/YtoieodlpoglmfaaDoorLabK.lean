/-
  The reference's joins and meets.
-/
import Derived.Test.YtoieodlpoglmfaaDoorPair
import Derived.Test.YtoieodlpoglmfaaDoorLabB
import Derived.StillTailTactics
namespace Go.Proofs.YtoieodlpoglmfaaDoor
open Go.RowKit

end Go.Proofs.YtoieodlpoglmfaaDoor
