/-
  The iterator tagset.Each has its contract, for every loop body; and what the law's own 'tags' collects.
-/
import Derived.RangeFuncNested
import Derived.RangeFuncBound
import Derived.RangeFuncCalls
import Derived.RangeFuncLeaves
import Derived.RangeFuncBox
import Derived.RangeFuncWrites
import Derived.Shelf.Abstract
import Derived.Shelf.RegionOpen
import Derived.WalkKit
import Derived.OwnWalkIn
import Derived.TacticsInMore
import Derived.LoopNIn
import Derived.LoopIn
import Derived.Maps.AppendAt
import Derived.Test.YtcbphjdhafnkmaaDoorTagL
namespace Go.Proofs.YtcbphjdhafnkmaaDoor
open Go.RowKit Go.Shelf

attribute [local go_sem] Oper.semAt_some

theorem Tab32.below {n₀ : Nat} {A B : World} (h : Below n₀ A B) (hn : 3 < n₀) (hT : Tab32 A) : Tab32 B :=
  fun j hj => (h.cell (p := ⟨3, j, none⟩) hn).trans (hT j hj)

/-- What the iterator yields. -/
def encT (x : Fin 16) : Array Value := #[.int .i64 (x.val : Int)]
def valsF (l : List (Fin 16)) : List Nat := l.map (·.val)
theorem valsF_snoc (l : List (Fin 16)) (x : Fin 16) : valsF (l ++ [x]) = valsF l ++ [x.val] := by simp [valsF]

/-- How far the iterator still has to go, for the loop's measure. -/
def leftOf : Value → Nat
  | .int _ n => n.toNat
  | _ => 0

theorem info_int : (Tryd.prog.info? 3).map (fun i => (i.zero, i.size, i.bytes)) = some (some (.int .i64 0), 1, 8) := by kernel_rfl

theorem valsF_length (l : List (Fin 16)) : (valsF l).length = l.length := by simp [valsF]
def intsV (l : List Nat) : List Value := l.map fun x : Nat => Value.int .i64 (x : Int)
theorem intsV_snoc (l : List Nat) (x : Nat) : intsV (l ++ [x]) = intsV l ++ [.int .i64 (x : Int)] := by simp [intsV]

end Go.Proofs.YtcbphjdhafnkmaaDoor
