/-
  The law PolicyTells, from the program's contracts.
-/
import Derived.Test.YtimbhamdblganaaDoorWPolC
import Derived.Test.YtimbhamdblganaaDoorWPolD
import Derived.Test.YtimbhamdblganaaDoorW1
import Derived.Test.YtimbhamdblganaaDoorWPolX
import Derived.Test.YtimbhamdblganaaDoorWPolS
/-! LawPTells -/
namespace Go.Proofs.YtimbhamdblganaaDoor
open Go.RowKit

/-! A policy, two roles, a label and some roles, as one struct. -/
def polO (p : Pol) : Obj := .cells (polC p) 46
theorem leads_alloc_pol {o : Oper} {a : Act} {w : World} (ho : o.op = .alloc 46) : leads Tryd.prog o a w (fun u V' => u = .pointer (some ⟨w.heap.size, 0, none⟩) ∧ Below w.heap.size w V' ∧ w.heap.size < V'.heap.size ∧ V'.heap[w.heap.size]? = some (polO zeroP)) := by
  refine leads_value (v := .pointer (some ⟨w.heap.size, 0, none⟩)) (w' := w.alloc (polO zeroP)) ?_ ⟨rfl, belowNew w _, by simp, PRow.new w zeroP⟩
  unfold execOp
  rw [ho]
  kernel_rfl
end Go.Proofs.YtimbhamdblganaaDoor
