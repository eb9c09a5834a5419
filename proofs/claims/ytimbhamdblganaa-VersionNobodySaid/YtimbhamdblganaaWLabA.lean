/-
  The small functions of the package label and of its reference: each boxes its arguments; nothing that existed changes.
-/
import Derived.Lib.ItoaNum
import Derived.Lib.Join
import Derived.Lib.AtoiAll
import Derived.Lib.Bytealg
import Derived.Test.YtimbhamdblganaaWTagA
import Derived.Test.YtimbhamdblganaaWBitsM
/-! LabA -/
namespace Go.Proofs.Ytimbhamdblganaa
open Go.RowKit

set_option maxHeartbeats 400000 in
theorem lBottom_any (w : World) :
    Calls Try.prog 28 #[] w fun e w' => e = .returned (.agg #[.int .u16 0, .int .u16 65535]) ∧ Below w.heap.size w w' := by
  go_enter Try.func28, Try.ntmps28
  go_wp2
  exact bodyPost_ret (v := .agg #[.int .u16 0, .int .u16 65535]) (by simp [results, Try.results28, go_sem]) rfl ⟨rfl, (Below.refl _ _).alloc (Nat.le_refl _) _⟩

end Go.Proofs.Ytimbhamdblganaa
