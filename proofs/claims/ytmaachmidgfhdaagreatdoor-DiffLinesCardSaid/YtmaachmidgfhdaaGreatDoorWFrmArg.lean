/-
  Numbers of 16 bits as a row's arguments.
-/
import Derived.OwnWalk
import Derived.Laws.AppendOwnNone
import Derived.Test.YtmaachmidgfhdaaGreatDoorW3
import Derived.Test.YtmaachmidgfhdaaGreatDoorW1
import Derived.Test.YtmaachmidgfhdaaGreatDoorW2
/-! FrmArg -/
namespace Go.Proofs.YtmaachmidgfhdaaGreatDoor
open Go.ChangeShapes Go.WideShapes Go.ChangeAt Go.RowKit

theorem u16_of_wf {z : Int} (h : (Lit.int .u16 z).wf = true) : ∃ n : Nat, z = (n : Int) ∧ n < 65536 := by
  have b1 : IntKind.u16.min = 0 := rfl
  have b2 : IntKind.u16.max = 65535 := rfl
  simp only [Lit.wf, Bool.and_eq_true, decide_eq_true_eq] at h
  exact ⟨z.toNat, by omega, by omega⟩
end Go.Proofs.YtmaachmidgfhdaaGreatDoor
