/-
  A region that draws its order, as in the text on chains of turns; and an operation for which a turn waits by an edge of its own may rely on it that this turn has not been.
-/
import Derived.Maps.AppendAt
import Derived.TacticsIn
import Derived.OwnWalkIn
import Derived.Test.YtfhjmhmgkdadhaaDoorWChain
import Derived.Test.YtfhjmhmgkdadhaaDoorWRound
/-! ChainW -/
namespace Go.Proofs.YtfhjmhmgkdadhaaDoor
open Go.RowKit

section
variable {P : Program} {ops : Array Oper} {l : List Oper} {fr : (Nat → Value) → Act} {C : List Value → World → Prop} {ks : List Step}

end
/-- A block of another type is not the row's. -/
theorem blk_not_row {W : World} {b : Nat} {cs : Array Value} {t e : TypeId} {lo hi : Nat} (h : W.heap[b]? = some (.cells cs t (lo, hi))) (hte : t ≠ e) {base size k : Nat} {v : Value} {xs : List Value} (hr : W.ownsRow base e size v k xs) : v.ownBlock ≠ some b := by
  rcases hr.2 with ⟨rfl, _⟩ | ⟨g, cap, cur, rfl, _, hgb, _⟩
  · simp [Value.ownBlock]
  · intro e'
    obtain rfl : g = b := by simpa [Value.ownBlock] using e'
    rw [hgb] at h
    cases h
    exact hte rfl
end Go.Proofs.YtfhjmhmgkdadhaaDoor
