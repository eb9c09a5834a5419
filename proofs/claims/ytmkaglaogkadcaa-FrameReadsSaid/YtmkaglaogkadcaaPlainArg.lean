/-
  Arguments of a row without laid variables, whatever their types: what all such texts import.
-/
import Derived.Test.YtmkaglaogkadcaaRows
import Derived.Test.YtmkaglaogkadcaaBlk
import Derived.ProofKit
import Derived.OpenShut
import Derived.Deep.DeepHandedRow
import Derived.LaidMore
import Derived.Stop.Joined
import Derived.Deep.Slices
import Derived.Deep.Fields
import Derived.ChangeSame
import Derived.JoinedOf
import Derived.JoinedAt
import Derived.ChangeMaps
import Derived.DataElems
namespace Go.Proofs.Ytmkaglaogkadcaa
theorem ownP : ownKnob Try.prog.godebug = none := by kernel_rfl
end Go.Proofs.Ytmkaglaogkadcaa
