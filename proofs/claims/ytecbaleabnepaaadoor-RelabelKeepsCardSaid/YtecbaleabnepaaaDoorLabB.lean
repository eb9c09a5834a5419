/-
  The small functions of label's reference.
-/
import Derived.Test.YtecbaleabnepaaaDoorLabA
namespace Go.Proofs.YtecbaleabnepaaaDoor
open Go.RowKit

theorem rHas_is (s k : Nat) (x : Bool) (hs : s < 65536) (h : hasB (s : Int) (k : Int) = x) (w : World) :
    Calls Tryd.prog 27 #[.int .u16 s, .int .i64 k] w fun e w' => e = .returned (.bool x) ∧ w = w' := by
  rw [← h]; exact rHas_any s k w hs

theorem flowsB_false {a b c d k : Nat} (hk : k < 16) (h : (hasB (a : Int) (k : Int) = true ∧ hasB (c : Int) (k : Int) = false) ∨ (hasB (d : Int) (k : Int) = true ∧ hasB (b : Int) (k : Int) = false)) : flowsB a b c d = false := by
  cases hf : flowsB a b c d
  · rfl
  · have := flowsB_iff.1 hf k hk
    rcases h with ⟨h1, h2⟩ | ⟨h1, h2⟩
    · have h3 := this.1 (hasB_true_nat h1); rw [hasB_false_nat h2] at h3; exact absurd h3 (by decide)
    · have h3 := this.2 (hasB_true_nat h1); rw [hasB_false_nat h2] at h3; exact absurd h3 (by decide)
def FlowsTo (a b c d k : Nat) : Prop := ∀ t, t < k → (a.testBit t = true → c.testBit t = true) ∧ (d.testBit t = true → b.testBit t = true)
theorem FlowsTo.step {a b c d k : Nat} (h : FlowsTo a b c d k) (h1 : hasB (a : Int) (k : Int) = false ∨ hasB (c : Int) (k : Int) = true) (h2 : hasB (d : Int) (k : Int) = false ∨ hasB (b : Int) (k : Int) = true) : FlowsTo a b c d (k + 1) := by
  intro t ht
  by_cases e : t = k
  · subst e
    constructor
    · intro h3
      rcases h1 with h1 | h1
      · rw [hasB_false_nat h1] at h3; exact absurd h3 (by decide)
      · exact hasB_true_nat h1
    · intro h3
      rcases h2 with h2 | h2
      · rw [hasB_false_nat h2] at h3; exact absurd h3 (by decide)
      · exact hasB_true_nat h2
  · exact h t (by omega)

end Go.Proofs.YtecbaleabnepaaaDoor
