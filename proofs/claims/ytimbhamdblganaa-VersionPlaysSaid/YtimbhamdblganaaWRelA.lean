/-
  The functions of the package relabel that go through a map in a loop.
-/
import Derived.Deep.WholeRow
import Derived.ChangeKeysEq
import Derived.Laws.Rows
import Derived.Outline
import Derived.Lib.ItoaNum
import Derived.Lib.Join
import Derived.Lib.AtoiAll
import Derived.Lib.Bytealg
import Derived.OneCell
import Derived.Test.YtimbhamdblganaaWBitsM
import Derived.Test.YtimbhamdblganaaWLabA
import Derived.Test.YtimbhamdblganaaWTagL
import Derived.Test.YtimbhamdblganaaWTagA
/-! RelA -/
namespace Go.Proofs.Ytimbhamdblganaa
open Go.RowKit

theorem ints_one (W : World) (a : Int) : IntsAt (W.alloc (.cells #[.int .i64 a] 3)) (.slice (some ⟨W.heap.size, 0, none⟩) 1 1) [a] := by
  refine ⟨_, 1, rfl, by simp, fun _ => ⟨W.heap.size, 0, rfl, fun i hi => ?_⟩⟩
  have h := heap_alloc_new W (.cells #[.int .i64 a] 3)
  have : i = 0 := by simp at hi; omega
  subst this
  simp only [World.cell?, h, Nat.zero_add]
  rfl
end Go.Proofs.Ytimbhamdblganaa
