/-
  What the rows' one laid variable (the library's table) gives the walks, and a world that meets it.
-/
import Derived.Test.YtimbhamdblganaaDoorCards
import Derived.Test.YtimbhamdblganaaDoorTie
import Derived.ProofKit
import Derived.OpenShut
import Derived.Deep.DeepHandedRow
import Derived.Deep.DeepWitnessRowRef
import Derived.Lib.LaidTab
import Derived.LaidMore
import Derived.Stop.Joined
import Derived.Test.YtimbhamdblganaaDoorW1
/-! LaidTab -/
namespace Go.Proofs.YtimbhamdblganaaDoor
open Go.ChangeShapes Go.WideShapes Go.ChangeAt Go.RowKit

theorem tOwn : ownKnob Tryd.prog.godebug = none := by kernel_rfl
def tabList : List (String × DataW Unit) := [("math/bits.deBruijn32tab", Rows.laid_math_bits_deBruijn32tab)]
theorem tTab : Tryd.prog.globalNamed "math/bits.deBruijn32tab" = some 0 := by kernel_rfl
theorem tTabType : (Tryd.prog.globals[0]?).map (·.type) = some 99 := by kernel_rfl
theorem tCellsTab : Tryd.prog.cellsOf 99 = 32 := by kernel_rfl
theorem tCellsByte : Tryd.prog.cellsOf 5 = 1 := by kernel_rfl
def tTabInts : List Int := Lib.deBruijn32tab.map fun n : Nat => (n : Int)
theorem ltOfCell {w : World} {b o : Nat} {v : Value} (h : w.cell? ⟨b, o, none⟩ = some v) : b < w.heap.size := block_lt_of_cell h

theorem tab_of_laid {W : World} (h0 : laidMetH Tryd.prog tabList W) : TabOk W := by
  have h : laidMet Tryd.prog tabList W := by
    rw [MakeChecks.laidMetH_plain _ _ _ (by kernel_rfl)] at h0; exact h0
  have hT : Lib.TabIs Tryd.prog W "math/bits.deBruijn32tab" .u8 tTabInts := Lib.tabIs_of_head tTab tTabType Tryd.underlying99 Tryd.underlying5 tCellsByte tCellsTab h
  refine ⟨fun j hj => ?_, ltOfCell (hT.cell tTab 0 (by decide))⟩
  have hc := hT.cell tTab j (by rw [tTabInts, List.length_map]; exact hj)
  rw [hc]
  have : tTabInts.getD j 0 = ((Lib.deBruijn32tab.getD j 0 : Nat) : Int) := by
    have hj2 : j < Lib.deBruijn32tab.length := hj
    simp [tTabInts, List.getD, hj2]
  rw [this]

/-- A world for the witness: the heap that the run of the initialisers leaves. -/
noncomputable def tabWorld (os : Os) : World := World.doorLaid Tryd.prog 1000 os
theorem tab_met (os : Os) (args : Array Value) : laidMet Tryd.prog tabList ((tabWorld os).forCall (fun _ _ => 0) ⟨#[], args, []⟩).memory :=
  laidMet_of_run' 8 (by kernel_rfl) (by kernel_rfl)

end Go.Proofs.YtimbhamdblganaaDoor
