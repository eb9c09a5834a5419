/-
  A region that draws its order, where some operations come one behind the other, each with a value that need not be known beforehand, and change what is known; all else has a value that is known, or hands one of these on. C vs is what is known of memory when these have had the values vs.
-/
import Derived.Test.YtpcnfemjjlcjfaaWStage
/-! Chain -/
namespace Go.Proofs.Ytpcnfemjjlcjfaa
open Go.RowKit

/-- It has this value; it is number k of those in turn; it has the value of number k. -/
inductive Step where
  | val (v : Value)
  | turn (k : Nat)
  | same (k : Nat)
section
variable {P : Program} {ops : Array Oper} {fr : (Nat → Value) → Act} {C : List Value → World → Prop} {ks : List Step}

end
end Go.Proofs.Ytpcnfemjjlcjfaa
