/-
  A block of two cells that a call keeps: what it holds, that it may be written, what it is behind a store. And slices of labels.
-/
import Derived.OneCell
import Derived.Laws.Rows
import Derived.Test.YtajilnoebhipbaaDoorLabA
namespace Go.Proofs.YtajilnoebhipbaaDoor
open Go.RowKit

/-- In the world w the slice v holds just these labels. -/
def LabsAt (w : World) (v : Value) (l : List (Nat × Nat)) : Prop :=
  ∃ p cap, v = .slice p l.length cap ∧ l.length ≤ 70368744177664 ∧ (l ≠ [] → ∃ b off, p = some ⟨b, off, none⟩ ∧ b < w.heap.size ∧ ∀ i, (h : i < l.length) → w.cell? ⟨b, off + i * 2, none⟩ = some (.int .u16 l[i].1) ∧ w.cell? ⟨b, off + i * 2 + 1, none⟩ = some (.int .u16 l[i].2))
theorem LabsAt.nil (w : World) : LabsAt w (.slice none 0 0) [] := ⟨none, 0, rfl, by simp, fun h => absurd rfl h⟩

end Go.Proofs.YtajilnoebhipbaaDoor
