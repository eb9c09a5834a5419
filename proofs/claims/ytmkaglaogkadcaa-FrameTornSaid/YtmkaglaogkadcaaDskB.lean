/-
  The document's disk: Write.
-/
import Derived.Test.YtmkaglaogkadcaaDskA
import Derived.Test.YtmkaglaogkadcaaStage
import Derived.Test.YtmkaglaogkadcaaWirN
namespace Go.Proofs.Ytmkaglaogkadcaa
open Go.RowKit

theorem bvs_put (l : List UInt8) (q : Nat) (x : UInt8) : bvs (l.set q x) = (bvs l).set q (.int .u8 (x.toNat : Int)) := by simp [bvs, List.map_set]
theorem leads_skip {P : Program} {o : Oper} {a : Act} {w w' : World} {R : Value → World → Prop} (h : (execOp a.eval o).run P w = .ok .skip w') (hR : R undef w') : leads P o a w R := by
  unfold leads; rw [h]; exact hR

end Go.Proofs.Ytmkaglaogkadcaa
