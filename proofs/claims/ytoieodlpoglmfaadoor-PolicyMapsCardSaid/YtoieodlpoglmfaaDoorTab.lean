/-
  What is asked of the library's table, of which tagset.Each makes use.
-/
import Derived.Test.YtoieodlpoglmfaaDoorTagI
namespace Go.Proofs.YtoieodlpoglmfaaDoor
open Go.RowKit

/-- What the walks ask of the library's table. -/
def TabOk (w : World) : Prop := Tab32 w ∧ 0 < w.heap.size
theorem TabOk.below {w w' : World} (h : TabOk w) (hB : Below w.heap.size w w') : TabOk w' := ⟨h.1.below hB h.2, Nat.lt_of_lt_of_le h.2 hB.size⟩

end Go.Proofs.YtoieodlpoglmfaaDoor
