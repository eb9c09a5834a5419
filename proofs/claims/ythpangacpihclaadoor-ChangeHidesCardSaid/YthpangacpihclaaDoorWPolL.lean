/-
  The program's policies: Fine and Read.
-/
import Derived.Test.YthpangacpihclaaDoorWPolG
import Derived.Test.YthpangacpihclaaDoorWPolH
import Derived.Test.YthpangacpihclaaDoorWPolE
import Derived.Test.YthpangacpihclaaDoorW2
import Derived.Test.YthpangacpihclaaDoorW3
import Derived.Test.YthpangacpihclaaDoorWPolAl
/-! PolL -/
namespace Go.Proofs.YthpangacpihclaaDoor
open Go.RowKit

theorem pFine_any : PFineC := fun p w hT hp => pFine_tidy p (fineP p) (tid_iff hp) w hT hp
end Go.Proofs.YthpangacpihclaaDoor
