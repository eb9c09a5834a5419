/-
  The law's own 'same', from the kit: a disk has what the document's has.
-/
import Derived.Test.YtmkaglaogkadcaaDskV
import Derived.Test.YtmkaglaogkadcaaWirN
namespace Go.Proofs.Ytmkaglaogkadcaa
open Go.RowKit

end Go.Proofs.Ytmkaglaogkadcaa
