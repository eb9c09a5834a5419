/-
  Regions that draw their order, where the code is walked inside a fence: in a round of a range over a function, or beside one.
-/
import Derived.OrdersIn
import Derived.Test.YtpcnfemjjlcjfaaWInvM
import Derived.Test.YtpcnfemjjlcjfaaWChain
/-! Round -/
namespace Go.Proofs.Ytpcnfemjjlcjfaa
open Go.RowKit

/-- What is asked of going on alone. -/
def onlyN (Q : Exit → Act → World → Prop) : Exit → Act → World → Prop
  | .normal, a, w => Q .normal a w
  | _, _, _ => False
@[go_sem] theorem onlyN_normal (Q : Exit → Act → World → Prop) (a : Act) (w : World) : onlyN Q .normal a w = Q .normal a w := rfl
section
variable {P : Program}
end
end Go.Proofs.Ytpcnfemjjlcjfaa
