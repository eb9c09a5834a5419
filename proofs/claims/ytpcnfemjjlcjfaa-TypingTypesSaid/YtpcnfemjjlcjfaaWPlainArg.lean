/-
  Arguments of a row without laid variables, whatever their types: what all such texts import.
-/
import Derived.Test.YtpcnfemjjlcjfaaRows
import Derived.ProofKit
import Derived.OpenShut
import Derived.Deep.DeepHandedRow
import Derived.LaidMore
import Derived.Stop.Joined
import Derived.Deep.Slices
import Derived.Deep.Fields
import Derived.ChangeSame
import Derived.JoinedOf
import Derived.JoinedAt
import Derived.ChangeMaps
import Derived.DataElems
import Derived.Test.YtpcnfemjjlcjfaaWBlk
/-! PlainArg -/
namespace Go.Proofs.Ytpcnfemjjlcjfaa
theorem ownP : ownKnob Try.prog.godebug = none := by kernel_rfl
end Go.Proofs.Ytpcnfemjjlcjfaa
