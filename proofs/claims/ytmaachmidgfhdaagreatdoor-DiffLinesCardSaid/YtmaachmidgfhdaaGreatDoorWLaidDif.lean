/-
  What the rows' list of seven laid variables gives the walks, with the library's own longest length, whatever it is; a world that meets it.
-/
import Derived.Shelf.Vars
import Derived.Lay
import Derived.Test.YtmaachmidgfhdaaGreatDoorWLaid
import Derived.Test.YtmaachmidgfhdaaGreatDoorWDpA
/-! LaidDif -/
namespace Go.Proofs.YtmaachmidgfhdaaGreatDoor
open Go.ChangeShapes Go.WideShapes Go.ChangeAt Go.RowKit

def laidListD : List (String × DataW Unit) := [("math/bits.deBruijn32tab", Rows.laid_math_bits_deBruijn32tab), ("math/bits.deBruijn64tab", Rows.laid_math_bits_deBruijn64tab), ("internal/strconv.uint64pow10", Rows.laid_internal_strconv_uint64pow10), ("unicode/utf8.acceptRanges", Rows.laid_unicode_utf8_acceptRanges), ("strconv.ErrRange", Rows.laid_strconv_ErrRange), ("strconv.ErrSyntax", Rows.laid_strconv_ErrSyntax), ("unicode/utf8.first", Rows.laid_unicode_utf8_first)]
theorem env_of_laidD {W : World} (h0 : laidMetH Tryz.prog laidListD W) : Env W := by
  have h : laidMet Tryz.prog laidListD W := by
    rw [MakeChecks.laidMetH_plain _ _ _ (by kernel_rfl)] at h0; exact h0
  have hT : Lib.TabIs Tryz.prog W "math/bits.deBruijn32tab" .u8 tabInts := Lib.tabIs_of_head gTab gTabType Tryz.underlying104 Tryz.underlying5 cellsByte cellsTab h
  have hr := h.tail.tail.tail.tail
  obtain ⟨a0, s0, hv0, -, -, -⟩ := laid_sentinel hr gRng tRng Tryz.underlying113 rowPtr Tryz.underlying167 Tryz.underlying169 rfl rfl Tryz.underlying9 cellsErr cellsStr
  obtain ⟨a1, s1, hv1, -, -, -⟩ := laid_sentinel hr.tail gSyn tSyn Tryz.underlying113 rowPtr Tryz.underlying167 Tryz.underlying169 rfl rfl Tryz.underlying9 cellsErr cellsStr
  refine ⟨fun j hj => ?_, ⟨_, _, by have h0 := World.var?_cell gSyn hv1 0; simpa using h0⟩, ⟨_, _, by have h0 := World.var?_cell gRng hv0 0; simpa using h0⟩⟩
  have hc := hT.cell gTab j (by rw [tabInts, List.length_map]; exact hj)
  rw [hc]
  have : tabInts.getD j 0 = ((Lib.deBruijn32tab.getD j 0 : Nat) : Int) := by
    have hj2 : j < Lib.deBruijn32tab.length := hj
    simp [tabInts, List.getD, hj2]
  rw [this]
theorem maxlen_of_shape {W : World} (h : W.ShapedOpen Tryz.prog) : ∃ m, W.cell? ⟨1, 0, none⟩ = some (.int .i64 m) :=
  cell_of_shapedOpen_int (P := Tryz.prog) (g := 1) (t := 3) (zero := #[.int .i64 0]) h (of_decide_eq_true (by kernel_rfl)) (by kernel_rfl) rfl (by kernel_rfl) (by kernel_rfl) Tryz.underlying3
/-- A world for the witness: each variable is laid by its datum. -/
noncomputable def difWorld (os : Os) : World := World.laidAll Tryz.prog os laidListD
theorem dif_os (os : Os) : (difWorld os).os = os := World.laidAll_os _ _ _
theorem dif_met (os : Os) (args : Array Value) : laidMet Tryz.prog laidListD ((difWorld os).forCall (fun _ _ => 0) ⟨#[], args, []⟩).memory :=
  laidMet_laidAll _ (by kernel_rfl) (by kernel_rfl)
end Go.Proofs.YtmaachmidgfhdaaGreatDoor
