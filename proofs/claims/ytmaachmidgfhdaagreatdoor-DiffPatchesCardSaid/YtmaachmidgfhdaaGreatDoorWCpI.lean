/-
  The program's changes: revoke, and a role comes.
-/
import Derived.Test.YtmaachmidgfhdaaGreatDoorWCpH
import Derived.Test.YtmaachmidgfhdaaGreatDoorW2
import Derived.Test.YtmaachmidgfhdaaGreatDoorWChOa
import Derived.Test.YtmaachmidgfhdaaGreatDoorWChO
import Derived.Test.YtmaachmidgfhdaaGreatDoorW3
import Derived.Test.YtmaachmidgfhdaaGreatDoorWChM
import Derived.Test.YtmaachmidgfhdaaGreatDoorW1
/-! CpI -/
namespace Go.Proofs.YtmaachmidgfhdaaGreatDoor
open Go.RowKit

theorem leads_store_mid {P : Program} {o : Oper} {a : Act} {w : World} {x y : Operand} {ty : TypeId} {g off : Nat} {cs new : Array Value} {t : TypeId} (ho : o.op = .store ty x y) (hx : a.eval x = .pointer (some ⟨g, off, none⟩)) (hy : a.eval y = .agg new) (h : Blk w g cs t) (hn : off + new.size ≤ cs.size) (h1 : new.all (·.oneCell') = true)
    (hi : (P.info? ty).map (·.size) = some new.size) : leads P o a w (fun _ V' => Put w V' g (midC cs off new) t) := by
  unfold leads execOp
  simp only [ho, hx, hy, Instr.storeAt, Instr.sureAddr, Sem.run_bind, Sem.run_pure, Result.andThen_ok, run_store_mid (P := P) h hn h1 hi]
  exact ⟨⟨rfl, rfl, rfl, by simp, fun k _ hk => setRow_other w g k _ hk⟩, setRow_heap w g _ _ _ _ h⟩
end Go.Proofs.YtmaachmidgfhdaaGreatDoor
