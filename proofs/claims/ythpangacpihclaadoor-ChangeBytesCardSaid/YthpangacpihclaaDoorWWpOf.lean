/-
  What is loaded, by what its run answers; a change of the call's own, loaded.
-/
import Derived.Test.YthpangacpihclaaDoorWChR
import Derived.Test.YthpangacpihclaaDoorW2
/-! WpOf -/
namespace Go.Proofs.YthpangacpihclaaDoor
open Go.RowKit

theorem wpList_of {P : Program} {ops : Array Oper} {rest : List Oper} {o : Oper} {a : Act} {w : World} {Q : Exit → Act → World → Prop} (hgd : Region.wanted o (yielded ops a.tmps) = true) {v : Value} (hr : (execOp a.eval o).run P w = .ok (.value v) w) (hK : wpList P ops Q rest (a.put o.dst v) w) : wpList P ops Q (o :: rest) a w :=
  wpList_step fun _ hK' => by
    rw [if_pos hgd]
    unfold Oper.wp
    rw [hr]
    exact hK' _ _ hK
theorem exec_load_chg {o : Oper} {a : Act} {w : World} {x : Operand} {b : Nat} {c : Cg} (ho : o.op = .load 31 x) (hx : a.eval x = .pointer (some ⟨b, 0, none⟩)) (h : Blk w b (chgC c) 31) :
    (execOp a.eval o).run Tryd.prog w = .ok (.value (.agg (chgC c))) w := by
  unfold execOp
  simp only [ho, hx, Instr.loadAt, Instr.sureAddr, Sem.run_bind, Sem.run_pure, Result.andThen_ok, run_loadVar_row w b _ 31 (chgC c) _ _ h Tryd.underlying31 rfl (infoChg c)]
end Go.Proofs.YthpangacpihclaaDoor
