/-
  The document's disk.
-/
import Derived.Test.YtmkaglaogkadcaaDskK
import Derived.Test.YtmkaglaogkadcaaChain
import Derived.IntWalk
namespace Go.Proofs.Ytmkaglaogkadcaa
open Go.RowKit

end Go.Proofs.Ytmkaglaogkadcaa
