/-
  Numbers of 16 bits as a row's arguments.
-/
import Derived.Test.YtajilnoebhipbaaDoorByteArg
import Derived.Test.YtajilnoebhipbaaDoorPbArg
namespace Go.Proofs.YtajilnoebhipbaaDoor
open Go.ChangeShapes Go.WideShapes Go.ChangeAt Go.RowKit

theorem u16_of_wf {z : Int} (h : (Lit.int .u16 z).wf = true) : ∃ n : Nat, z = (n : Int) ∧ n < 65536 := by
  have b1 : IntKind.u16.min = 0 := rfl
  have b2 : IntKind.u16.max = 65535 := rfl
  simp only [Lit.wf, Bool.and_eq_true, decide_eq_true_eq] at h
  exact ⟨z.toNat, by omega, by omega⟩
set_option maxRecDepth 100000 in
theorem frArg_bool {H : Type} {enc : TypeId × Value → H} {W : World} {b0 : Nat} {v : Value} {d : DataW H} {p : List MemPlace} (hv : Value.okWide Tryd.prog W .any b0 4 v) (h : DataW.Trod enc Tryd.prog W 0 (fun _ => true) true 4 v d p) : ∃ s : Bool, v = .bool s := by
  obtain ⟨s, rfl, -, -⟩ := open_bool Tryd.underlying4 hv h
  exact ⟨s, rfl⟩
end Go.Proofs.YtajilnoebhipbaaDoor
