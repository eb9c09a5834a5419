/-
  The small functions of the package label and of its reference: each boxes its arguments; nothing that existed changes.
-/
import Derived.Test.YtajilnoebhipbaaDoorTagA
import Derived.Test.YtajilnoebhipbaaDoorSetA
import Derived.Test.YtajilnoebhipbaaDoorLabM
namespace Go.Proofs.YtajilnoebhipbaaDoor
open Go.RowKit

/-- A label as a value. -/
theorem agg_eq {a b c d : Int} (h1 : a = c) (h2 : b = d) : Value.agg #[.int .u16 a, .int .u16 b] = .agg #[.int .u16 c, .int .u16 d] := by rw [h1, h2]

theorem below_two (w : World) (o p : Obj) : Below w.heap.size w ((w.alloc o).alloc p) := ((Below.refl _ w).alloc (Nat.le_refl _) _).alloc (by simp) _
theorem below_one (w : World) (o : Obj) : Below w.heap.size w (w.alloc o) := (Below.refl _ w).alloc (Nat.le_refl _) _

end Go.Proofs.YtajilnoebhipbaaDoor
