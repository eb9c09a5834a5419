/-
  The program's policies: Owned, First, down, ActsFor, Caps.
-/
import Derived.Test.YtimbhamdblganaaDoorWPolE
import Derived.Test.YtimbhamdblganaaDoorWGraL
import Derived.Test.YtimbhamdblganaaDoorW1
/-! PolF -/
namespace Go.Proofs.YtimbhamdblganaaDoor
open Go.RowKit

theorem ofL_pw {a : Int} (h0 : 0 ≤ a) (h1 : a < 16) : ofL 0 [a] = withN 0 a.toNat := by
  obtain ⟨k, rfl⟩ := Int.eq_ofNat_of_zero_le h0
  rw [Int.toNat_natCast, ofL_one (by omega)]
  unfold pw withN; rw [Nat.zero_or]
end Go.Proofs.YtimbhamdblganaaDoor
