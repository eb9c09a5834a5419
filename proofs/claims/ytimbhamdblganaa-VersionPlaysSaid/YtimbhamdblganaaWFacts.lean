/-
  A region that draws its order, walked once in the order of the text, where the operations may make memory and their values may be known only by what holds of them: each operation is shown to keep what was there, from the facts on those that it waits for.
-/
import Derived.Orders
import Derived.Below
import Derived.Tactics
/-! Facts -/
namespace Go.Proofs.Ytimbhamdblganaa
open Go.RowKit

/-- What may be known of a value, and stays true while memory is only made. -/
structure Fact where
  holds : Value → World → Prop
  keep : ∀ v u u', holds v u → Below u.heap.size u u' → holds v u'
def Fact.any : Fact := ⟨fun _ _ => True, fun _ _ _ _ _ => trivial⟩
/-- The value is this one. -/
def Fact.is (x : Value) : Fact := ⟨fun v _ => v = x, fun _ _ _ h _ => h⟩
def factAt (fs : List Fact) (i : Nat) : Fact := fs.getD i Fact.any

/-- What is known of those that an operation waits for. -/
def DepsOk (fs : List Fact) (x : Nat → Value) (w : World) : List Edge → Prop
  | [] => True
  | e :: r => (Region.binds .any e = true → (factAt fs e.on).holds (x e.on) w) ∧ DepsOk fs x w r

/-- What an operation yields, with no way out but onward. -/
def leads (P : Program) (o : Oper) (a : Act) (w : World) (R : Value → World → Prop) : Prop :=
  match (execOp a.eval o).run P w with
  | .ok (.value v) w' => R v w'
  | .ok .skip w' => R undef w'
  | .ok (.enter f args) w' => Calls P f args w' fun e w'' => ∃ v, e = .returned v ∧ R v w''
  | _ => False

theorem wp_of_leads {P : Program} {o : Oper} {a : Act} {w : World} {R : Value → World → Prop} {K : Act → World → Prop} {Q : Exit → Act → World → Prop} (h : leads P o a w R) (hK : ∀ v w', R v w' → K (a.put o.dst v) w') : o.wp P a w K Q := by
  unfold leads at h
  unfold Oper.wp
  generalize (execOp a.eval o).run P w = r at *
  cases r with
  | ok n w' =>
    cases n <;> simp only [Oper.upon] at h ⊢ <;>
      first
        | exact hK _ _ h
        | exact Calls.mono h (fun e w'' he => by obtain ⟨v, rfl, hR⟩ := he; exact hK _ _ hR)
        | exact h.elim
  | halt x w' => exact h.elim

def setX (x : Nat → Value) (i : Nat) (v : Value) : Nat → Value := fun j => if j = i then v else x j

/-- One operation's share. -/
def Ob (P : Program) (ops : Array Oper) (fr : (Nat → Value) → Act) (C : World → Prop) (fs : List Fact) (k : Nat) (o : Oper) : Prop :=
  (∀ x v, (fr x).put o.dst v = fr (setX x k v)) ∧
  ∀ x w, C w → DepsOk fs x w o.after.toList →
    if Region.wanted o (yielded ops (fr x).tmps) = true then leads P o (fr x) w (fun v w' => Below w.heap.size w w' ∧ (factAt fs k).holds v w') else (factAt fs k).holds undef w
def Obs (P : Program) (ops : Array Oper) (fr : (Nat → Value) → Act) (C : World → Prop) (fs : List Fact) : Nat → List Oper → Prop
  | _, [] => True
  | k, o :: r => Ob P ops fr C fs k o ∧ Obs P ops fr C fs (k + 1) r
section
variable {P : Program} {ops : Array Oper} {fr : (Nat → Value) → Act} {C : World → Prop} {fs : List Fact}

theorem Obs.at : ∀ {l : List Oper} {k : Nat}, Obs P ops fr C fs k l → ∀ i o, l[i]? = some o → Ob P ops fr C fs (k + i) o
  | [], _, _, i, o, h => by simp at h
  | o' :: r, k, h, 0, o, hi => by simp at hi; subst hi; exact h.1
  | o' :: r, k, h, i + 1, o, hi => by
    have := Obs.at (l := r) h.2 i o (by simpa using hi)
    rw [show k + (i + 1) = k + 1 + i by omega]; exact this
def leftN (n : Nat) (listed : Array Bool) : Nat := ((List.range n).filter fun i => !listed.getD i true).length

theorem getD_set {b : Bool} {listed : Array Bool} {i j : Nat} (hi : i < listed.size) : (listed.setIfInBounds i true).getD j b = if j = i then true else listed.getD j b := by
  by_cases e : j = i
  · subst e; simp [hi]
  · have : ¬ i = j := fun h => e h.symm
    simp [this, e]

theorem depsOk_of {x : Nat → Value} {w : World} : ∀ {es : List Edge}, (∀ e ∈ es, Region.binds .any e = true → (factAt fs e.on).holds (x e.on) w) → DepsOk fs x w es
  | [], _ => trivial
  | e :: r, h => ⟨h e (by simp), depsOk_of (es := r) fun e' he => h e' (List.mem_cons_of_mem _ he)⟩

end
end Go.Proofs.Ytimbhamdblganaa
