/-
  A region that draws its order, walked once in the order of the text, where the operations may make memory and their values may be known only by what holds of them: each operation is shown to keep what was there, from the facts on those that it waits for.
-/
import Derived.Orders
import Derived.Below
import Derived.Tactics
/-! Facts -/
namespace Go.Proofs.Ytpcnfemjjlcjfaa
open Go.RowKit

/-- What may be known of a value, and stays true while memory is only made. -/
structure Fact where
  holds : Value → World → Prop
  keep : ∀ v u u', holds v u → Below u.heap.size u u' → holds v u'
/-- What an operation yields, with no way out but onward. -/
def leads (P : Program) (o : Oper) (a : Act) (w : World) (R : Value → World → Prop) : Prop :=
  match (execOp a.eval o).run P w with
  | .ok (.value v) w' => R v w'
  | .ok .skip w' => R undef w'
  | .ok (.enter f args) w' => Calls P f args w' fun e w'' => ∃ v, e = .returned v ∧ R v w''
  | _ => False

theorem wp_of_leads {P : Program} {o : Oper} {a : Act} {w : World} {R : Value → World → Prop} {K : Act → World → Prop} {Q : Exit → Act → World → Prop} (h : leads P o a w R) (hK : ∀ v w', R v w' → K (a.put o.dst v) w') : o.wp P a w K Q := by
  unfold leads at h
  unfold Oper.wp
  generalize (execOp a.eval o).run P w = r at *
  cases r with
  | ok n w' =>
    cases n <;> simp only [Oper.upon] at h ⊢ <;>
      first
        | exact hK _ _ h
        | exact Calls.mono h (fun e w'' he => by obtain ⟨v, rfl, hR⟩ := he; exact hK _ _ hR)
        | exact h.elim
  | halt x w' => exact h.elim

def setX (x : Nat → Value) (i : Nat) (v : Value) : Nat → Value := fun j => if j = i then v else x j

section
variable {P : Program} {ops : Array Oper} {fr : (Nat → Value) → Act} {C : World → Prop} {fs : List Fact}

def leftN (n : Nat) (listed : Array Bool) : Nat := ((List.range n).filter fun i => !listed.getD i true).length

theorem getD_set {b : Bool} {listed : Array Bool} {i j : Nat} (hi : i < listed.size) : (listed.setIfInBounds i true).getD j b = if j = i then true else listed.getD j b := by
  by_cases e : j = i
  · subst e; simp [hi]
  · have : ¬ i = j := fun h => e h.symm
    simp [this, e]

end
end Go.Proofs.Ytpcnfemjjlcjfaa
