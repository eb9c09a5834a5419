/-
  alive of layer 12, from the program's contracts.
-/
import Derived.Test.YthpangacpihclaaDoorW3
import Derived.Test.YthpangacpihclaaDoorW2
/-! PolAl -/
namespace Go.Proofs.YthpangacpihclaaDoor
open Go.RowKit

theorem fine_first : fineP firstP = true := by decide +kernel
theorem caps_of {p : Pol} {a : Int} {x y d c : Nat} (ha : ¬ (a < 0 ∨ 15 < a)) (h : downN p.acts (withN 0 a.toNat) (seenN p x y) = d) (hc : setG (fun t => p.active.testBit t && decide (p.owner t < 16) && hasB d (p.owner t : Int)) 16 = c) : capsN p a x y = c := by
  rw [← hc]
  unfold capsN
  congr 1
  funext t
  unfold capB actsB
  rw [if_neg ha, h]
end Go.Proofs.YthpangacpihclaaDoor
