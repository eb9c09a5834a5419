/-
  What is asked of the program's types of queries; its law's known types.
-/
import Derived.Test.YtpcnfemjjlcjfaaWTyT
import Derived.Test.YtpcnfemjjlcjfaaWParC
/-! TyC -/
namespace Go.Proofs.Ytpcnfemjjlcjfaa
open Go.RowKit

def TNodeC (G : World → Prop) : Prop := ∀ (k : Int) (args : List Int) (v : Value) (w : World), G w → ZnsAt w v args → -9223372036854775808 ≤ k → k ≤ 9223372036854775807 → (∀ x ∈ args, -9223372036854775808 ≤ x ∧ x ≤ 9223372036854775807) → args.length ≤ 1000 → Calls Try.prog 7 #[.int .i64 k, v] w fun e w' => e = .returned (.tuple #[.int .i64 (nodeT k args), .bool (decide (0 < nodeT k args))]) ∧ Below w.heap.size w w'
def TTypeC (G : World → Prop) : Prop := ∀ (l : List Qn) (v : Value) (w : World), G w → NodesAt w v l → (∀ x ∈ l, IntQ x) → l.length ≤ 1000 → Calls Try.prog 9 #[v] w (TypeIs l w)
def TAliveC (G : World → Prop) : Prop := ∀ (w : World), G w → Calls Try.prog 6 #[] w fun e w' => e = .returned (.bool true) ∧ Below w.heap.size w w'
def nodesTa : List Qn := [⟨2, 0⟩, ⟨10, 0⟩]
def nodesTb : List Qn := [⟨4, 1⟩, ⟨5, 1⟩, ⟨13, 0⟩]
theorem type_a : typeQ nodesTa = (3, 0, 0) := by decide +kernel
theorem type_b : typeQ nodesTb = (0, 2, 16) := by decide +kernel
theorem type_c : typeQ [] = (0, 0, 3) := by decide +kernel
theorem node_a : nodeT 9 [2] = 1 := by decide +kernel
theorem node_b : nodeT 9 [1] = 0 := by decide +kernel
theorem nodesTa_ints : ∀ x ∈ nodesTa, IntQ x := by unfold nodesTa IntQ; decide
theorem nodesTb_ints : ∀ x ∈ nodesTb, IntQ x := by unfold nodesTb IntQ; decide
theorem nodes_made (w : World) (l : List Qn) (a : Array Value) (n : Nat) (ha : a = (flatC nodC l).toArray) (hn : l.length = n) (hm : n ≤ maxLen) : NodesAt (w.alloc (.cells a 36)) (.slice (some ⟨w.heap.size, 0, none⟩) n n) l := by
  subst ha hn
  exact SlAt.ofBlk nodC_size (ok := fun _ => True) (Blk.new _ _ _) hm fun _ _ => trivial
theorem zns_made (w : World) (t : Int) : ZnsAt (w.alloc (.cells #[Value.int .i64 t] 3)) (.slice (some ⟨w.heap.size, 0, none⟩) 1 1) [t] := SlAt.ofBlk znC_size (l := [t]) (ok := fun _ => True) (Blk.new _ _ _) (by show (1 : Nat) ≤ maxLen; decide) fun _ _ => trivial
end Go.Proofs.Ytpcnfemjjlcjfaa
