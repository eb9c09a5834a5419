/-
  What is known of the world, and stays so.
-/
import Derived.Test.YtfhjmhmgkdadhaaDoorWLexC
/-! KeepX -/
namespace Go.Proofs.YtfhjmhmgkdadhaaDoor
open Go.RowKit

/-- What is kept, as memory grows. -/
structure KeepX (G : World → Prop) : Prop where
  keep : ∀ {w w' : World}, G w → Below w.heap.size w w' → G w'
end Go.Proofs.YtfhjmhmgkdadhaaDoor
