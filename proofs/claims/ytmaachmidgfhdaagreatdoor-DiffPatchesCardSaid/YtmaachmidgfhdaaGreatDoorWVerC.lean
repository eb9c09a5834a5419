/-
  What is asked of the program's stores: contracts, whatever a store's memory looks like.
-/
import Derived.Test.YtmaachmidgfhdaaGreatDoorWVerM
import Derived.Test.YtmaachmidgfhdaaGreatDoorW2
/-! VerC -/
namespace Go.Proofs.YtmaachmidgfhdaaGreatDoor
open Go.RowKit

/-- What the memory of a store is: at block b the store S, whose memory is F. -/
structure VerRel where
  At : World → Nat → Sto → (Nat → Prop) → Prop
  lt : ∀ {w b S F}, At w b S F → F b ∧ ∀ k, F k → k < w.heap.size
  kept : ∀ {w w' b S F} {T : Nat → Prop}, At w b S F → Chg T w w' → (∀ k, F k → ¬ T k) → At w' b S F
section
variable {K : VerRel} {w : World} {b : Nat} {S : Sto} {V V' : World}
end
end Go.Proofs.YtmaachmidgfhdaaGreatDoor
