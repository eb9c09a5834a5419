/-
  What is asked of the program's changes: contracts, as words.
-/
import Derived.Test.YthpangacpihclaaDoorWChOA
import Derived.Test.YthpangacpihclaaDoorW3
/-! ChC -/
namespace Go.Proofs.YthpangacpihclaaDoor
open Go.RowKit

def CFineC : Prop := ∀ (c : Cg) (w : World), CgOk c → Calls Tryd.prog 11 #[.agg (chgC c)] w fun e w' => e = .returned (.bool (cgB c)) ∧ Below w.heap.size w w'
def COneC : Prop := ∀ (p : Pol) (c : Cg) (w : World), TabOk w → PolOk p → fineP p = true → CgOk c → Calls Tryd.prog 9 #[.agg (polC p), .agg (chgC c)] w (OneIs p c w)
def CAliveC : Prop := ∀ (w : World), TabOk w → Calls Tryd.prog 13 #[] w fun e w' => e = .returned (.bool true) ∧ Below w.heap.size w w'
end Go.Proofs.YthpangacpihclaaDoor
