/-
  The contracts of the small functions of the package tagset and of its reference: no memory is made.
-/
import Derived.Test.YtcbphjdhafnkmaaDoorRows
import Derived.WalkKit
import Derived.WalkSpells
import Derived.WalkLawsBesides
import Derived.Lib.Hide
import Derived.Deep.QuietTactic
import Derived.BigQuiet
import Derived.LoopTactic
import Derived.Outline
import Derived.Test.YtcbphjdhafnkmaaDoorBitsM
namespace Go.Proofs.YtcbphjdhafnkmaaDoor
open Go.RowKit

theorem ret_bool {a b : Bool} (h : a = b) : Ending.returned (.bool a) = .returned (.bool b) := by rw [h]
theorem ret_int {k : IntKind} {a b : Int} (h : a = b) : Ending.returned (.int k a) = .returned (.int k b) := by rw [h]

def isTagB (t : Int) : Bool := decide (0 ≤ t ∧ t < 16)
theorem isTagB_yes {t : Int} (h0 : 0 ≤ t) (h1 : t < 16) : isTagB t = true := by unfold isTagB; simp; omega
theorem isTagB_no {t : Int} (h : ¬ (0 ≤ t ∧ t < 16)) : isTagB t = false := by unfold isTagB; simp; omega

theorem hasB_false_nat {s k : Nat} (h : hasB (s : Int) (k : Int) = false) : s.testBit k = false := by simpa [hasB] using h
theorem hasB_true_nat {s k : Nat} (h : hasB (s : Int) (k : Int) = true) : s.testBit k = true := by simpa [hasB] using h

/-- The table of the library in its variable. -/
def Tab32 (w : World) : Prop := ∀ j, j < 32 → w.cell? ⟨3, j, none⟩ = some (.int .u8 (Lib.deBruijn32tab.getD j 0))

theorem tz16_key (x a : Nat) (hx : x < 65536) (hx0 : x ≠ 0) (_ha : a < 65536) (hlow : x &&& (65536 - x) = a) :
    bits BinOp.and IntKind.u16 (x : Int) (IntKind.u16.wrap (-(x : Int))) % 4294967296 * 125613361 % 4294967296 / 134217728 = ((a * 125613361 % 4294967296 / 134217728 : Nat) : Int) := by
  have e1 : IntKind.u16.wrap (-(x : Int)) = ((65536 - x : Nat) : Int) := by rw [IntKind.wrap_u16]; omega
  rw [e1, u16_and_nat x _ hx (by omega), hlow]
  omega

end Go.Proofs.YtcbphjdhafnkmaaDoor
