/-
  What the rows' list of laid variables gives the walks, and a world that meets it.
-/
import Derived.Test.YtmaachmidgfhdaaGreatDoorCards
import Derived.Test.YtmaachmidgfhdaaGreatDoorTie
import Derived.ProofKit
import Derived.OpenShut
import Derived.Deep.DeepHandedRow
import Derived.Deep.DeepWitnessRowRef
import Derived.Lib.LaidTab
import Derived.LaidMore
import Derived.Stop.Joined
import Derived.Stop.LaidErr
import Derived.Test.YtmaachmidgfhdaaGreatDoorW1
/-! Laid -/
namespace Go.Proofs.YtmaachmidgfhdaaGreatDoor
open Go.ChangeShapes Go.WideShapes Go.ChangeAt Go.RowKit

theorem own : ownKnob Tryz.prog.godebug = none := by kernel_rfl
theorem gTab : Tryz.prog.globalNamed "math/bits.deBruijn32tab" = some 0 := by kernel_rfl
theorem gTabType : (Tryz.prog.globals[0]?).map (·.type) = some 104 := by kernel_rfl
theorem cellsTab : Tryz.prog.cellsOf 104 = 32 := by kernel_rfl
theorem cellsByte : Tryz.prog.cellsOf 5 = 1 := by kernel_rfl
theorem gRng : Tryz.prog.globalNamed "strconv.ErrRange" = some 6 := by kernel_rfl
theorem gSyn : Tryz.prog.globalNamed "strconv.ErrSyntax" = some 5 := by kernel_rfl
theorem tRng : (Tryz.prog.globals[6]?).map (·.type) = some 113 := by kernel_rfl
theorem tSyn : (Tryz.prog.globals[5]?).map (·.type) = some 113 := by kernel_rfl
def tabInts : List Int := Lib.deBruijn32tab.map fun n : Nat => (n : Int)

theorem cellsErr : Tryz.prog.cellsOf 169 = 1 := by kernel_rfl
theorem cellsStr : Tryz.prog.cellsOf 9 = 1 := by kernel_rfl
theorem starErr : "*" ++ "errors.errorString" = "*errors.errorString" := by decide
theorem rowPtr (u : TypeId) (h : Tryz.prog.typeName? 3 u = some "*errors.errorString") : u = 167 :=
  typeName_ptr_named (nm := "errors.errorString") (by rw [starErr]; kernel_rfl) (by kernel_rfl) (by decide) u (by rw [starErr]; exact h)

end Go.Proofs.YtmaachmidgfhdaaGreatDoor
