/-
  Slices of pairs of bytes as arguments of a row: opened.
-/
import Derived.Test.YtajilnoebhipbaaDoorPbA
import Derived.Test.YtajilnoebhipbaaDoorByteArg
namespace Go.Proofs.YtajilnoebhipbaaDoor
open Go.ChangeShapes Go.WideShapes Go.ChangeAt Go.RowKit Go.Deep

theorem cellsPb1 : Tryd.prog.cellsOf 5 = 1 := by kernel_rfl
theorem byte_of {z : Int} (h : (Lit.int .u8 z).wf = true) : ∃ b : UInt8, z = (b.toNat : Int) := by
  have b1 : IntKind.u8.min = 0 := rfl
  have b2 : IntKind.u8.max = 255 := rfl
  simp only [Lit.wf, Bool.and_eq_true, decide_eq_true_eq] at h
  obtain ⟨k, rfl⟩ := Int.eq_ofNat_of_zero_le (show 0 ≤ z by omega)
  exact ⟨UInt8.ofNat k, by simp; omega⟩
end Go.Proofs.YtajilnoebhipbaaDoor
