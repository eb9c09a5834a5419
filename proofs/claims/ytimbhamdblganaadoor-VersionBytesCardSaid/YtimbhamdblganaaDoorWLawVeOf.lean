/-
  The law VersionOf, from the program's contracts.
-/
import Derived.Deep.CutBlock
import Derived.LoopTactic
import Derived.Outline
import Derived.OneCell
import Derived.Laws.Rows
import Derived.Test.YtimbhamdblganaaDoorWVerA
import Derived.Test.YtimbhamdblganaaDoorW1
/-! LawVeOf -/
namespace Go.Proofs.YtimbhamdblganaaDoor
open Go.RowKit

theorem VeW.atB {K : VerRel} {w : World} {b : Nat} {S : Sto} {V : World} (c : VeAtC K) (h : VeW K w b S V) (e : Int) (h1 : -9223372036854775808 ≤ e) (h2 : e ≤ 9223372036854775807) : Calls Tryd.prog 19 #[storeV b, .int .i64 e] V fun x w' => x = .returned (.tuple #[.agg (polC (atP S e)), .int .i64 (atE S e)]) ∧ Below V.heap.size V w' := by
  obtain ⟨F, h3, -⟩ := h.ex
  exact c e h3 h.ok h1 h2
theorem VeW.epochB {K : VerRel} {w : World} {b : Nat} {S : Sto} {V : World} (c : VeEpochC K) (h : VeW K w b S V) : Calls Tryd.prog 22 #[storeV b] V fun x w' => x = .returned (.int .i64 (S.ep : Int)) ∧ Below V.heap.size V w' := by
  obtain ⟨F, h3, -⟩ := h.ex
  exact c h3 h.ok
end Go.Proofs.YtimbhamdblganaaDoor
