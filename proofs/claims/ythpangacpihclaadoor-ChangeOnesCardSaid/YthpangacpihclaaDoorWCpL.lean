/-
  The program's changes: all contracts.
-/
import Derived.Test.YthpangacpihclaaDoorWCpG
import Derived.Test.YthpangacpihclaaDoorWCpI
import Derived.Test.YthpangacpihclaaDoorWCpJ
import Derived.Test.YthpangacpihclaaDoorWCpD
import Derived.Test.YthpangacpihclaaDoorWCpM
import Derived.Test.YthpangacpihclaaDoorWCpB
import Derived.Test.YthpangacpihclaaDoorWCpK
import Derived.Test.YthpangacpihclaaDoorWPolO
/-! CpL -/
namespace Go.Proofs.YthpangacpihclaaDoor

theorem chOne_any : COneC := chOne_of chFine_any chAdd_any chDrop_any chLink_any chUnlink_any chOwn_any (chRevoke_of chMap_any pMapped_any)
theorem chAll_any : CAllC := chAll_of chOne_any
theorem chRead_any : CReadC := chRead_of chFine_any
end Go.Proofs.YthpangacpihclaaDoor
