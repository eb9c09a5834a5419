/-
  Stores of policies by epoch, in plain terms.
-/
import Derived.Test.YtmaachmidgfhdaaGreatDoorW2
/-! VerM -/
namespace Go.Proofs.YtmaachmidgfhdaaGreatDoor

/-- A store: the epoch, and the kept policies, the oldest first. -/
structure Sto where
  ep : Nat
  l : List Pol
/-! The whole history. -/
end Go.Proofs.YtmaachmidgfhdaaGreatDoor
