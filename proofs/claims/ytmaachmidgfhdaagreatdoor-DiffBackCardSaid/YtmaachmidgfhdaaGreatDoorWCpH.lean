/-
  The program's changes: link, unlink, own.
-/
import Derived.Deep.DeepCutAuto
import Derived.Test.YtmaachmidgfhdaaGreatDoorWChOa
import Derived.Test.YtmaachmidgfhdaaGreatDoorWChO
import Derived.Test.YtmaachmidgfhdaaGreatDoorW3
import Derived.Test.YtmaachmidgfhdaaGreatDoorW1
import Derived.Test.YtmaachmidgfhdaaGreatDoorWChM
import Derived.Test.YtmaachmidgfhdaaGreatDoorWChR
import Derived.Test.YtmaachmidgfhdaaGreatDoorW2
import Derived.Test.YtmaachmidgfhdaaGreatDoorWGraL
/-! CpH -/
namespace Go.Proofs.YtmaachmidgfhdaaGreatDoor
open Go.RowKit

theorem ofL_zero {r : Nat} (hr : r < 16) : ofL 0 [(r : Int)] = withN 0 r := by
  rw [ofL_one hr]; unfold withN; rw [Nat.zero_or]; rfl
theorem ofL_less {s r : Nat} (hs : s < 65536) (hr : r < 16) : bits .andNot .u16 (s : Int) ((ofL 0 [(r : Int)] : Nat) : Int) = ((lessN s (withN 0 r) : Nat) : Int) := by
  rw [ofL_zero hr, andNot_less hs (withN_lt (by decide) hr)]
end Go.Proofs.YtmaachmidgfhdaaGreatDoor
