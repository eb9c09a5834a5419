/-
  What is asked of the program's parser; what a query's nodes are.
-/
import Derived.Test.YtpcnfemjjlcjfaaWParH
import Derived.Test.YtpcnfemjjlcjfaaWParB
import Derived.Test.YtpcnfemjjlcjfaaWParR
import Derived.Test.YtpcnfemjjlcjfaaWKeepX
/-! ParC -/
namespace Go.Proofs.Ytpcnfemjjlcjfaa
open Go.RowKit

def YArgsC (G : World → Prop) : Prop := ∀ (k : Int) (w : World), G w → -9223372036854775808 ≤ k → k ≤ 9223372036854775807 → Calls Try.prog 13 #[.int .i64 k] w fun e w' => e = .returned (.int .i64 (argN k)) ∧ Below w.heap.size w w'
def YRightC (G : World → Prop) : Prop := ∀ (l : List Qn) (v : Value) (w : World), G w → NodesAt w v l → (∀ x ∈ l, IntQ x) → l.length ≤ 1000 → Calls Try.prog 11 #[v] w fun e w' => ∃ b : Bool, e = .returned (.bool b) ∧ (b = true ↔ rightQ l) ∧ Below w.heap.size w w'
def YBeginC (G : World → Prop) : Prop := ∀ (l : List Qn) (i : Nat) (v : Value) (w : World), G w → NodesAt w v l → rightQ l → i < l.length → Calls Try.prog 12 #[v, .int .i64 (i : Int)] w fun e w' => e = .returned (.int .i64 (begI (begQ l i))) ∧ Below w.heap.size w w'
end Go.Proofs.Ytpcnfemjjlcjfaa
