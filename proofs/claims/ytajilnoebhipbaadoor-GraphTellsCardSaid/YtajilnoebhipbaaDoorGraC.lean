/-
  What is asked of the program's graphs: contracts, as words.
-/
import Derived.Test.YtajilnoebhipbaaDoorGraS
import Derived.Test.YtajilnoebhipbaaDoorTab
namespace Go.Proofs.YtajilnoebhipbaaDoor
open Go.RowKit

def GDownC : Prop := ∀ (f : Nat → Nat) (s W : Nat) (w : World), TabOk w → GrOk f → s < 65536 → W < 65536 → Calls Tryd.prog 7 #[.agg (grC f), .int .u16 (s : Int), .int .u16 (W : Int)] w fun e w' => e = .returned (.int .u16 (downN f s W : Nat)) ∧ Below w.heap.size w w'
def GUpC : Prop := ∀ (f : Nat → Nat) (t W : Nat) (w : World), TabOk w → GrOk f → t < 65536 → W < 65536 → Calls Tryd.prog 9 #[.agg (grC f), .int .u16 (t : Int), .int .u16 (W : Int)] w fun e w' => e = .returned (.int .u16 (upN f t W : Nat)) ∧ Below w.heap.size w w'
def GTurnC : Prop := ∀ (f : Nat → Nat) (w : World), TabOk w → GrOk f → Calls Tryd.prog 12 #[.agg (grC f)] w fun e w' => e = .returned (.agg (grC (turnF f))) ∧ Below w.heap.size w w'
def GCutC : Prop := ∀ (f : Nat → Nat) (W : Nat) (w : World), TabOk w → GrOk f → W < 65536 → Calls Tryd.prog 14 #[.agg (grC f), .int .u16 (W : Int)] w fun e w' => e = .returned (.agg (grC (cutF f W))) ∧ Below w.heap.size w w'
def GAliveC : Prop := ∀ (w : World), TabOk w → Calls Tryd.prog 11 #[] w fun e w' => e = .returned (.bool true) ∧ Below w.heap.size w w'
theorem turn_ok (f : Nat → Nat) : GrOk (turnF f) := fun t _ => turnF_lt f t
theorem cut_ok {f : Nat → Nat} (W : Nat) (h : GrOk f) : GrOk (cutF f W) := fun t ht => cutF_lt W (h t ht)
end Go.Proofs.YtajilnoebhipbaaDoor
