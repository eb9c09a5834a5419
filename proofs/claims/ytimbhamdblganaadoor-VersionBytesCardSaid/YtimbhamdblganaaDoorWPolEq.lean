/-
  Two policies are equal where their cells are.
-/
import Derived.Test.YtimbhamdblganaaDoorWPolD
import Derived.Test.YtimbhamdblganaaDoorWEqS
/-! PolEq -/
namespace Go.Proofs.YtimbhamdblganaaDoor
open Go.RowKit

theorem tiled_pol : Tryd.prog.tiled 4 46 = true := by kernel_rfl
theorem equal_pols {p q : Pol} (hp : PolOk p) (hq : PolOk q) {b : Bool} (hb : b = true ↔ polC p = polC q) (w : World) : (Op.equalIn 10000 46 (.agg (polC p)) (.agg (polC q))).run Tryd.prog w = .ok b w :=
  equal_yes (fun w => equal_ints w (m := 4) (by decide) key_pol tiled_pol 4 (formed_pol p) (formed_pol q) (polC_ints hp) (polC_ints hq) (polC_kinds p polZ) (polC_kinds q polZ) polZ_lits) hb w
theorem exec_eql_pols {o : Oper} {a : Act} {w : World} {x y : Operand} {ty : TypeId} {p q : Pol} (hp : PolOk p) (hq : PolOk q) {b : Bool} (hb : b = true ↔ polC p = polC q) (ho : o.op = .binOp .eql 46 x y ty) (hx : a.eval x = .agg (polC p)) (hy : a.eval y = .agg (polC q)) :
    (execOp a.eval o).run Tryd.prog w = .ok (.value (.bool b)) w := by
  unfold execOp
  simp only [ho, hx, hy, Sem.run_bind, run_eqGuard_agg w .eql 46 x y _ _ guard_pol, run_eql_struct, equal_pols hp hq hb, Result.andThen_ok, Sem.run_pure]
end Go.Proofs.YtimbhamdblganaaDoor
