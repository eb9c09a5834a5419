/-
  Labels and slices of labels as arguments of a row: opened and shut.
-/
import Derived.ProofKit
import Derived.OpenShut
import Derived.Deep.DeepHandedRow
import Derived.LaidMore
import Derived.Stop.Joined
import Derived.Lib.SmallJoins
import Derived.Deep.SlicePairs
import Derived.Test.YthpangacpihclaaDoorW1
/-! LabArg -/
namespace Go.Proofs.YthpangacpihclaaDoor
open Go.ChangeShapes Go.WideShapes Go.ChangeAt Go.RowKit Go.Joins Go.Deep

theorem cellsLab : Tryd.prog.cellsOf 24 = 2 := by kernel_rfl
set_option maxRecDepth 100000 in
theorem lab_of_arg {H : Type} {enc : TypeId × Value → H} {W : World} {r : Reach} {b0 : Nat} {v : Value} {d : DataW H} {p : List MemPlace}
    (hv : Value.okWide Tryd.prog W r b0 24 v) (h : DataW.Trod enc Tryd.prog W 0 (fun _ => true) true 24 v d p) :
    ∃ a b : Nat, a < 65536 ∧ b < 65536 ∧ v = .agg #[.int .u16 a, .int .u16 b] ∧ d = .agg [.lit (.int .u16 a), .lit (.int .u16 b)] ∧ p = [] := by
  obtain ⟨c0, c1, y0, y1, m, rfl, rfl, rfl, hy0, hy1⟩ := open_agg2 Tryd.underlying24 (by kernel_rfl) cellsLab hv h
  obtain ⟨a, e0, rfl, wa⟩ := DataW.trod_int Tryd.underlying22 hy0
  obtain ⟨b, e1, rfl, wb⟩ := DataW.trod_int Tryd.underlying22 hy1
  simp at e0 e1
  subst e0 e1
  have ba := bounds_u16 wa
  have bb := bounds_u16 wb
  obtain ⟨n, rfl⟩ := Int.eq_ofNat_of_zero_le ba.1
  obtain ⟨k, rfl⟩ := Int.eq_ofNat_of_zero_le bb.1
  exact ⟨n, k, by omega, by omega, rfl, rfl, rfl⟩

end Go.Proofs.YthpangacpihclaaDoor
