/-
  What the rows' list of laid variables gives the walks, and a world that meets it.
-/
import Derived.Test.YtfhjmhmgkdadhaaDoorCards
import Derived.Test.YtfhjmhmgkdadhaaDoorTie
import Derived.ProofKit
import Derived.OpenShut
import Derived.Deep.DeepHandedRow
import Derived.Deep.DeepWitnessRowRef
import Derived.Lib.LaidTab
import Derived.LaidMore
import Derived.Stop.Joined
import Derived.Stop.LaidErr
import Derived.Test.YtfhjmhmgkdadhaaDoorW1
/-! Laid -/
namespace Go.Proofs.YtfhjmhmgkdadhaaDoor
open Go.ChangeShapes Go.WideShapes Go.ChangeAt Go.RowKit

theorem own : ownKnob Tryd.prog.godebug = none := by kernel_rfl
def laidList : List (String × DataW Unit) := [("math/bits.deBruijn32tab", Rows.laid_math_bits_deBruijn32tab), ("math/bits.deBruijn64tab", Rows.laid_math_bits_deBruijn64tab), ("internal/strconv.uint64pow10", Rows.laid_internal_strconv_uint64pow10), ("strconv.ErrRange", Rows.laid_strconv_ErrRange), ("strconv.ErrSyntax", Rows.laid_strconv_ErrSyntax)]
theorem gTab : Tryd.prog.globalNamed "math/bits.deBruijn32tab" = some 3 := by kernel_rfl
theorem gTabType : (Tryd.prog.globals[3]?).map (·.type) = some 111 := by kernel_rfl
theorem cellsTab : Tryd.prog.cellsOf 111 = 32 := by kernel_rfl
theorem cellsByte : Tryd.prog.cellsOf 5 = 1 := by kernel_rfl
theorem gRng : Tryd.prog.globalNamed "strconv.ErrRange" = some 1 := by kernel_rfl
theorem gSyn : Tryd.prog.globalNamed "strconv.ErrSyntax" = some 0 := by kernel_rfl
theorem tRng : (Tryd.prog.globals[1]?).map (·.type) = some 73 := by kernel_rfl
theorem tSyn : (Tryd.prog.globals[0]?).map (·.type) = some 73 := by kernel_rfl
def tabInts : List Int := Lib.deBruijn32tab.map fun n : Nat => (n : Int)

theorem cellsErr : Tryd.prog.cellsOf 103 = 1 := by kernel_rfl
theorem cellsStr : Tryd.prog.cellsOf 9 = 1 := by kernel_rfl
theorem starErr : "*" ++ "errors.errorString" = "*errors.errorString" := by decide
theorem rowPtr (u : TypeId) (h : Tryd.prog.typeName? 3 u = some "*errors.errorString") : u = 101 :=
  typeName_ptr_named (nm := "errors.errorString") (by rw [starErr]; kernel_rfl) (by kernel_rfl) (by decide) u (by rw [starErr]; exact h)

theorem env_of_laid {W : World} (h0 : laidMetH Tryd.prog laidList W) : Env W := by
  have h : laidMet Tryd.prog laidList W := by
    rw [MakeChecks.laidMetH_plain _ _ _ (by kernel_rfl)] at h0; exact h0
  have hT : Lib.TabIs Tryd.prog W "math/bits.deBruijn32tab" .u8 tabInts := Lib.tabIs_of_head gTab gTabType Tryd.underlying111 Tryd.underlying5 cellsByte cellsTab h
  have hr := h.tail.tail.tail
  obtain ⟨a0, s0, hv0, -, -, -⟩ := laid_sentinel hr gRng tRng Tryd.underlying73 rowPtr Tryd.underlying101 Tryd.underlying103 rfl rfl Tryd.underlying9 cellsErr cellsStr
  obtain ⟨a1, s1, hv1, -, -, -⟩ := laid_sentinel hr.tail gSyn tSyn Tryd.underlying73 rowPtr Tryd.underlying101 Tryd.underlying103 rfl rfl Tryd.underlying9 cellsErr cellsStr
  refine ⟨fun j hj => ?_, ⟨_, _, by have h0 := World.var?_cell gSyn hv1 0; simpa using h0⟩, ⟨_, _, by have h0 := World.var?_cell gRng hv0 0; simpa using h0⟩⟩
  have hc := hT.cell gTab j (by rw [tabInts, List.length_map]; exact hj)
  rw [hc]
  have : tabInts.getD j 0 = ((Lib.deBruijn32tab.getD j 0 : Nat) : Int) := by
    have hj2 : j < Lib.deBruijn32tab.length := hj
    simp [tabInts, List.getD, hj2]
  rw [this]

/-- A world for the witness: the heap that the run of the initialisers leaves. -/
noncomputable def laidWorld (os : Os) : World := World.doorLaid Tryd.prog 1000 os
theorem laid_met (os : Os) (args : Array Value) : laidMet Tryd.prog laidList ((laidWorld os).forCall (fun _ _ => 0) ⟨#[], args, []⟩).memory :=
  laidMet_of_run' 8 (by kernel_rfl) (by kernel_rfl)

end Go.Proofs.YtfhjmhmgkdadhaaDoor
