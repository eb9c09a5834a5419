/-
  The document's texts of labels, as the differences ask for them; what the program's ask of memory.
-/
import Derived.Test.YtmaachmidgfhdaaGreatDoorWDifO
import Derived.Test.YtmaachmidgfhdaaGreatDoorWDifS
import Derived.Test.YtmaachmidgfhdaaGreatDoorWDifC
import Derived.Test.YtmaachmidgfhdaaGreatDoorW2
/-! DifE -/
namespace Go.Proofs.YtmaachmidgfhdaaGreatDoor
open Go.RowKit

theorem rTextD_any : RTextC := fun a b w ha hb => rLText_any a b ha hb w
theorem rLab_any : RLabC := ⟨fun a b w ha hb => rLParse_yes a b ha hb w, fun l w hl h => rLParse_not l hl h w⟩
end Go.Proofs.YtmaachmidgfhdaaGreatDoor
