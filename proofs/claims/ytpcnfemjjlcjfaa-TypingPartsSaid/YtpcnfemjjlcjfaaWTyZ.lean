/-
  The laws of types, from the program's contracts, for a row's arguments.
-/
import Derived.Test.YtpcnfemjjlcjfaaWTyV
import Derived.Test.YtpcnfemjjlcjfaaWLawTNodes
import Derived.Test.YtpcnfemjjlcjfaaWLawTTypes
import Derived.Test.YtpcnfemjjlcjfaaWLawTParts
/-! TyZ -/
namespace Go.Proofs.Ytpcnfemjjlcjfaa
open Go.RowKit

theorem tnodes_row {G : World → Prop} (gK : KeepX G) (cN : TNodeC G) (cT : TTypeC G) (args : List Int) (v : Value) (k : Int) (h1 : -9223372036854775808 ≤ k) (h2 : k ≤ 9223372036854775807) (w : World) (hw : G w) (hv : ZnsAt w v args) (hi : ∀ x ∈ args, -9223372036854775808 ≤ x ∧ x ≤ 9223372036854775807) : Calls Try.prog 3 #[.int .i64 k, v] w fun e w' => e = .returned (.bool true) ∧ Below w.heap.size w w' :=
  tnodes_any gK cN (talive_any gK cN cT) args v k h1 h2 w hw hv hi
theorem ttypes_row {G : World → Prop} (gK : KeepX G) (cN : TNodeC G) (cT : TTypeC G) (l : List Qn) (v : Value) (w : World) (hw : G w) (hv : NodesAt w v l) (hi : ∀ x ∈ l, IntQ x) : Calls Try.prog 4 #[v] w fun e w' => e = .returned (.bool true) ∧ Below w.heap.size w w' :=
  ttypes_any gK cT (talive_any gK cN cT) l v w hw hv hi
theorem tparts_row {G : World → Prop} (gK : KeepX G) (cA : YArgsC G) (cR : YRightC G) (cB : YBeginC G) (cN : TNodeC G) (cT : TTypeC G) (l : List Qn) (v : Value) (w : World) (hw : G w) (hv : NodesAt w v l) (hi : ∀ x ∈ l, IntQ x) : Calls Try.prog 5 #[v] w fun e w' => e = .returned (.bool true) ∧ Below w.heap.size w w' :=
  tparts_any gK cA cR cB cT (talive_any gK cN cT) l v w hw hv hi
end Go.Proofs.Ytpcnfemjjlcjfaa
