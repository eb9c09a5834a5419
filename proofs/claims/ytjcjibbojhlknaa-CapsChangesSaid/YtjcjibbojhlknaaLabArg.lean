/-
  Labels and slices of labels as arguments of a row: opened and shut.
-/
import Derived.Test.YtjcjibbojhlknaaPair
import Derived.ProofKit
import Derived.OpenShut
import Derived.Deep.DeepHandedRow
import Derived.LaidMore
import Derived.Stop.Joined
import Derived.Lib.SmallJoins
import Derived.Deep.SlicePairs
namespace Go.Proofs.Ytjcjibbojhlknaa
open Go.ChangeShapes Go.WideShapes Go.ChangeAt Go.RowKit Go.Joins Go.Deep

theorem laidOutL : laidOutB Try.prog = true := by kernel_rfl
theorem cellsLab : Try.prog.cellsOf 24 = 2 := by kernel_rfl
theorem cellsU16 : Try.prog.cellsOf 22 = 1 := by kernel_rfl

set_option maxRecDepth 100000 in
theorem lab_of_arg {H : Type} {enc : TypeId × Value → H} {W : World} {r : Reach} {b0 : Nat} {v : Value} {d : DataW H} {p : List MemPlace}
    (hv : Value.okWide Try.prog W r b0 24 v) (h : DataW.Trod enc Try.prog W 0 (fun _ => true) true 24 v d p) :
    ∃ a b : Nat, a < 65536 ∧ b < 65536 ∧ v = .agg #[.int .u16 a, .int .u16 b] ∧ d = .agg [.lit (.int .u16 a), .lit (.int .u16 b)] ∧ p = [] := by
  obtain ⟨c0, c1, y0, y1, m, rfl, rfl, rfl, hy0, hy1⟩ := open_agg2 Try.underlying24 (by kernel_rfl) cellsLab hv h
  obtain ⟨a, e0, rfl, wa⟩ := DataW.trod_int Try.underlying22 hy0
  obtain ⟨b, e1, rfl, wb⟩ := DataW.trod_int Try.underlying22 hy1
  simp at e0 e1
  subst e0 e1
  have ba := bounds_u16 wa
  have bb := bounds_u16 wb
  obtain ⟨n, rfl⟩ := Int.eq_ofNat_of_zero_le ba.1
  obtain ⟨k, rfl⟩ := Int.eq_ofNat_of_zero_le bb.1
  exact ⟨n, k, by omega, by omega, rfl, rfl, rfl⟩

theorem u16_wf {a : Nat} (h : a < 65536) : (Lit.int .u16 (a : Int)).wf = true := WalkArith.wf_u16 (by omega)

set_option maxRecDepth 100000 in
theorem lab_shut {H : Type} {enc : TypeId × Value → H} {W : World} {sp : Nat → Bool} {a b : Nat} (ha : a < 65536) (hb : b < 65536) :
    DataW.Trod enc Try.prog W 0 sp true 24 (.agg #[.int .u16 a, .int .u16 b]) (.agg [.lit (.int .u16 a), .lit (.int .u16 b)]) [] :=
  shut_agg2 (y0 := (.lit (.int .u16 a), [])) (y1 := (.lit (.int .u16 b), [])) Try.underlying24 (by kernel_rfl) cellsLab ⟨1, by simp [DataW.trod, Try.underlying22, u16_wf ha]⟩ ⟨1, by simp [DataW.trod, Try.underlying22, u16_wf hb]⟩

theorem small_ofFn {n : Nat} {f g : Nat → Nat} (h : ∀ i, i < n → f i < 65536 ∧ g i < 65536) : SmallL ((List.range n).map fun i => (f i, g i)) := by
  intro x hx
  obtain ⟨i, hi, rfl⟩ := List.mem_map.1 hx
  exact h i (List.mem_range.1 hi)

end Go.Proofs.Ytjcjibbojhlknaa
