/-
  The document's policies: Fine.
-/
import Derived.Deep.DeepCutAuto
import Derived.ChangeKeysEq
import Derived.Lib.ItoaNum
import Derived.Lib.Join
import Derived.Lib.AtoiAll
import Derived.Lib.Bytealg
import Derived.Lib.QuietBelow
import Derived.Test.YtimbhamdblganaaWPolA
import Derived.Test.YtimbhamdblganaaWArr
import Derived.Test.YtimbhamdblganaaWBitsM
import Derived.Test.YtimbhamdblganaaWTagA
import Derived.Test.YtimbhamdblganaaWLabA
import Derived.Test.YtimbhamdblganaaWStage
/-! PolS -/
namespace Go.Proofs.Ytimbhamdblganaa
open Go.RowKit

theorem infoLb : (Try.prog.info? 29).map (·.size) = some 2 := by kernel_rfl
end Go.Proofs.Ytimbhamdblganaa
