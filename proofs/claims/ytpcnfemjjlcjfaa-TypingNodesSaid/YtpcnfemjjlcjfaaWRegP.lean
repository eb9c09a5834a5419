/-
  A region that draws its order and stores once: the operations for which the store waits read and call ahead of it; the others do not touch memory. C: what is known of memory ahead of the store, D: behind it.
-/
import Derived.Test.YtpcnfemjjlcjfaaWInvM
/-! RegP -/
namespace Go.Proofs.Ytpcnfemjjlcjfaa
open Go.RowKit

/-- val: this value, ahead of the store; fact: what is known of it; pure: this value, whenever; st: the store. -/
inductive KindP where
  | val (v : Value)
  | fact (F : Fact)
  | pure (v : Value)
  | st
section
variable {P : Program} {ops : Array Oper} {fr : (Nat → Value) → Act} {ks : List KindP} {s : Nat} {ags : List Edge} {C D : World → Prop}

/-! How an operation's share is paid. -/
end
end Go.Proofs.Ytpcnfemjjlcjfaa
