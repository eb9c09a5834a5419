/-
  The contracts of the small functions of the package tagset and of its reference: no memory is made.
-/
import Derived.Test.YtimbhamdblganaaRows
import Derived.WalkKit
import Derived.WalkSpells
import Derived.WalkLawsBesides
import Derived.Lib.Hide
import Derived.Deep.QuietTactic
import Derived.BigQuiet
import Derived.LoopTactic
import Derived.Outline
import Derived.Test.YtimbhamdblganaaWBitsM
/-! TagA -/
namespace Go.Proofs.Ytimbhamdblganaa
open Go.RowKit

theorem ret_bool {a b : Bool} (h : a = b) : Ending.returned (.bool a) = .returned (.bool b) := by rw [h]
theorem ret_int {k : IntKind} {a b : Int} (h : a = b) : Ending.returned (.int k a) = .returned (.int k b) := by rw [h]

def isTagB (t : Int) : Bool := decide (0 ≤ t ∧ t < 16)
theorem isTagB_yes {t : Int} (h0 : 0 ≤ t) (h1 : t < 16) : isTagB t = true := by unfold isTagB; simp; omega
theorem isTagB_no {t : Int} (h : ¬ (0 ≤ t ∧ t < 16)) : isTagB t = false := by unfold isTagB; simp; omega

set_option maxHeartbeats 400000 in
theorem isTag_any (t : Int) (w : World) :
    Calls Try.prog 29 #[.int .i64 t] w fun e w' => e = .returned (.bool (isTagB t)) ∧ w = w' := by
  by_cases h0 : 0 ≤ t
  · by_cases h1 : t < 16
    · go_enter Try.func29, Try.ntmps29
      go_wp2
      go_ret
      exact ⟨ret_bool (isTagB_yes h0 h1).symm, rfl⟩
    · go_enter Try.func29, Try.ntmps29
      go_wp2
      go_ret
      exact ⟨ret_bool (isTagB_no (by omega)).symm, rfl⟩
  · go_enter Try.func29, Try.ntmps29
    go_wp2
    go_ret
    exact ⟨ret_bool (isTagB_no (by omega)).symm, rfl⟩

end Go.Proofs.Ytimbhamdblganaa
