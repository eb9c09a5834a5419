/-
  The document's stores: At, Commit.
-/
import Derived.Test.YtimbhamdblganaaDoorWVerR
/-! VerA -/
namespace Go.Proofs.YtimbhamdblganaaDoor
open Go.RowKit

theorem infoPl : (Tryd.prog.info? 46).map (fun i => (i.zero, i.size, i.bytes)) = some (some (.agg (polC zeroP)), 66, 116) := by kernel_rfl
end Go.Proofs.YtimbhamdblganaaDoor
