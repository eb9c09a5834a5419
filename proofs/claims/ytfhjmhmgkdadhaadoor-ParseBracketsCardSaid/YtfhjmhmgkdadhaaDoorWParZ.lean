/-
  The laws of the parser, from the program's four contracts, for a row's arguments.
-/
import Derived.Test.YtfhjmhmgkdadhaaDoorWParV
import Derived.Test.YtfhjmhmgkdadhaaDoorWLawYRight
import Derived.Test.YtfhjmhmgkdadhaaDoorWLawYParts
import Derived.Test.YtfhjmhmgkdadhaaDoorWLawYQueries
import Derived.Test.YtfhjmhmgkdadhaaDoorWLawYBrackets
/-! ParZ -/
namespace Go.Proofs.YtfhjmhmgkdadhaaDoor
open Go.RowKit

theorem yqueries_row {G : World → Prop} (gK : KeepX G) (cA : YArgsC G) (cR : YRightC G) (cB : YBeginC G) (cQ : YQueryC G) (s : ByteArray) (hs : s.size ≤ maxLen) (w : World) (hw : G w) : Calls Tryd.prog 3 #[.string s] w fun e w' => e = .returned (.bool true) ∧ Below w.heap.size w w' :=
  yqueries_any gK cR cQ (yalive_any gK cA cR cB cQ) s.data.toList hs w hw
theorem ybrackets_row {G : World → Prop} (gK : KeepX G) (cA : YArgsC G) (cR : YRightC G) (cB : YBeginC G) (cQ : YQueryC G) (s : ByteArray) (hs : s.size ≤ maxLen) (w : World) (hw : G w) : Calls Tryd.prog 5 #[.string s] w fun e w' => e = .returned (.bool true) ∧ Below w.heap.size w w' :=
  ybrackets_any gK cQ (yalive_any gK cA cR cB cQ) s.data.toList hs w hw
theorem yright_row {G : World → Prop} (gK : KeepX G) (cA : YArgsC G) (cR : YRightC G) (cB : YBeginC G) (cQ : YQueryC G) (l : List Qn) (v : Value) (k : Int) (h1 : -9223372036854775808 ≤ k) (h2 : k ≤ 9223372036854775807) (w : World) (hw : G w) (hv : NodesAt w v l) (hi : ∀ x ∈ l, IntQ x) : Calls Tryd.prog 4 #[v, .int .i64 k] w fun e w' => e = .returned (.bool true) ∧ Below w.heap.size w w' :=
  yright_any gK cA cR cB (yalive_any gK cA cR cB cQ) l v k h1 h2 w hw hv hi
theorem yparts_row {G : World → Prop} (gK : KeepX G) (cA : YArgsC G) (cR : YRightC G) (cB : YBeginC G) (cQ : YQueryC G) (l : List Qn) (v : Value) (w : World) (hw : G w) (hv : NodesAt w v l) (hi : ∀ x ∈ l, IntQ x) : Calls Tryd.prog 6 #[v] w fun e w' => e = .returned (.bool true) ∧ Below w.heap.size w w' :=
  yparts_any gK cA cR cB (yalive_any gK cA cR cB cQ) l v w hw hv hi
end Go.Proofs.YtfhjmhmgkdadhaaDoor
