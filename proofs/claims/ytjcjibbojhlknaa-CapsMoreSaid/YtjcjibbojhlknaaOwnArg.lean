/-
  Labels as arguments of a row without laid variables.
-/
import Derived.Test.YtjcjibbojhlknaaLabArg
import Derived.ChangeSame
import Derived.JoinedOf
import Derived.JoinedAt
namespace Go.Proofs.Ytjcjibbojhlknaa
theorem own : ownKnob Try.prog.godebug = none := by kernel_rfl
end Go.Proofs.Ytjcjibbojhlknaa
