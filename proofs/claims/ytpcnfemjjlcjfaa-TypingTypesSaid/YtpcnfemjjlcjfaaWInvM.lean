/-
  A region that draws its order, where some operations make blocks and others store into just these, in whatever order the edges allow: each operation is met once. What is known: the values of all but the makers, the made blocks, and what they hold.
-/
import Derived.StillTail
import Derived.Laws.Rows
import Derived.Laws.Tables
import Derived.Test.YtpcnfemjjlcjfaaWFactsT
/-! InvM -/
namespace Go.Proofs.Ytpcnfemjjlcjfaa
open Go.RowKit

/-- What an operation does: it has this value; it makes a block that holds o, into which operation s stores, so that it holds o'; it stores into the block that operation a made. -/
inductive Kind where
  | val (v : Value)
  | mk (o : Obj) (s : Nat) (o' : Obj)
  | st (a : Nat)
/-- Each waits only for earlier ones, as far as it must. -/
def low2B : Nat → List Oper → Bool
  | _, [] => true
  | k, o :: r => o.after.all (fun e => !Region.binds .any e || decide (e.on < k)) && low2B (k + 1) r
theorem low2B_at : ∀ {l : List Oper} {k : Nat}, low2B k l = true → ∀ i o, l[i]? = some o → ∀ e ∈ o.after, Region.binds .any e = true → e.on < k + i
  | [], _, _, i, o, h => by simp at h
  | o' :: r, k, h, 0, o, hi => by
    simp at hi; subst hi
    simp only [low2B, Bool.and_eq_true] at h
    intro e he hb
    have := Array.all_eq_true'.1 h.1 e he
    simpa [hb] using this
  | o' :: r, k, h, i + 1, o, hi => by
    simp only [low2B, Bool.and_eq_true] at h
    intro e he hb
    have := low2B_at (l := r) h.2 i o (by simpa using hi) e he hb
    omega
section
variable {P : Program} {ops : Array Oper} {fr : (Nat → Value) → Act} {ks : List Kind} {W0 : World}

theorem setX_same (x : Nat → Value) (i : Nat) (v : Value) : setX x i v i = v := by unfold setX; rw [if_pos rfl]
theorem setX_other {x : Nat → Value} {i j : Nat} (v : Value) (h : j ≠ i) : setX x i v j = x j := by unfold setX; rw [if_neg h]

/-! How an operation's share is paid. -/

end
end Go.Proofs.Ytpcnfemjjlcjfaa
