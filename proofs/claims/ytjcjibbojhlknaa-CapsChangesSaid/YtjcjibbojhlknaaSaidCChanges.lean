/-
  The law CapsChanges holds for every two labels, tags and capabilities. Nothing of the program's variables is asked: it returns true and leaves its arguments as they were.
-/
import Derived.Test.YtjcjibbojhlknaaOwnArg
import Derived.Test.YtjcjibbojhlknaaLawCChanges
namespace Go.Proofs.Ytjcjibbojhlknaa
open Go.ChangeShapes Go.WideShapes Go.ChangeAt Go.RowKit

set_option maxRecDepth 100000 in
theorem cchanges_contract (H : Type) (enc : TypeId × Value → H) (W : World) (base : Nat) (args : Array Value) (ds gs : List (DataW H)) (before : List MemPlace)
    (hval : ∀ (j : Nat) t v, Try.f4.params[j]? = some t → args[j]? = some v → Value.okWide Try.prog W .any base t v)
    (hW : DataW.Whole enc Try.prog Try.f4.params.toList Rows.capsChangesSpec.vars false W args.toList ds gs before) :
    Calls Try.prog 4 args W fun e W' => ∃ v, e = .returned v ∧ Rows.capsChangesSpec.post enc Try.prog Try.f4 false true false false W args v W' := by
  have hW' := hW
  obtain ⟨p, q, hA0, hV, rfl, hfz, hnd⟩ := hW
  have hA : DataW.TrodAll enc Try.prog W 0 (fun _ => true) true Try.f4.params.toList args.toList ds p := hA0
  rw [Try.params4] at hA hval
  obtain ⟨v0, v1, v2, v3, d0, d1, d2, d3, p0, p1, p2, p3, rfl, rfl, rfl, h0, h1, h2, h3⟩ := trodAll_four hA
  obtain ⟨rfl, rfl⟩ := trodVars_none hV
  obtain ⟨x0, y0, hx0, hy0, rfl, rfl, rfl⟩ := lab_of_arg (hval 0 24 v0 rfl rfl) h0
  obtain ⟨x1, y1, hx1, hy1, rfl, rfl, rfl⟩ := lab_of_arg (hval 1 24 v1 rfl rfl) h1
  obtain ⟨a2, rfl, rfl, rfl, wa2⟩ := open_int Try.underlying22 (hval 2 22 v2 rfl rfl) h2
  have bd2 := bounds_u16 wa2
  obtain ⟨n2, rfl⟩ := Int.eq_ofNat_of_zero_le bd2.1
  obtain ⟨a3, rfl, rfl, rfl, wa3⟩ := open_int Try.underlying22 (hval 3 22 v3 rfl rfl) h3
  have bd3 := bounds_u16 wa3
  obtain ⟨n3, rfl⟩ := Int.eq_ofNat_of_zero_le bd3.1
  clear hA0
  simp only [List.append_nil] at hW'
  refine (cchanges_any x0 y0 x1 y1 n2 n3 hx0 hy0 hx1 hy1 (by omega) (by omega) W ).mono fun e W' ⟨he, hB⟩ => ?_
  subst he
  exact ⟨_, rfl, _, _, _, [], [], [], hW', trodAll_mk1 (shut_bool Try.underlying4 _), trodAll_mk4 (lab_shut hx0 hy0) (lab_shut hx1 hy1) (shut_int Try.underlying22 wa2) (shut_int Try.underlying22 wa3), rfl, hB.frame _, fun h => by cases h⟩

set_option maxRecDepth 100000 in
theorem cchanges_lifted (os : Os) (started : os.Started) (H : Type) (enc : TypeId × Value → H) :
    ReturnsInHanded {} Try.checked os 4 .any (Rows.capsChangesSpec.pre6 enc Try.prog Try.f4 Rows.capsChangesRow.domain false) (Rows.capsChangesSpec.post enc Try.prog Try.f4 false true false false) := by
  refine returnsInHanded_of_change (C := Try.checked) own started (by kernel_rfl) Try.func4
    (ChangeSpec.witness6 (enc := enc) (C := Try.checked) false ⟨#[], #[Value.agg #[.int .u16 0, .int .u16 0], .agg #[.int .u16 0, .int .u16 0], .int .u16 0, .int .u16 0], []⟩ 8 (by kernel_rfl) (by kernel_rfl) (by kernel_rfl) (by kernel_rfl)) ?_
  intro W base args ds gs before hval hW _ _
  exact cchanges_contract H enc W base args ds gs before hval hW

theorem cchanges_holds : Rows.CapsChangesSaid :=
  OpenClaim.holds_of_wide 4 Try.f4 rfl rfl rfl rfl rfl rfl rfl ⟨rfl, rfl, rfl, rfl, rfl⟩ rfl rfl rfl rfl rfl (by kernel_rfl) Try.func4 (by kernel_rfl)
    (of_decide_eq_true (by kernel_rfl)) (by unfold Func.isWrapper; first | (rw [if_pos (by decide +kernel)]; kernel_rfl) | (rw [if_neg (by decide +kernel)]; exact ⟨rfl, rfl⟩))
    (fun os started H enc _ => cchanges_lifted os started H enc)

end Go.Proofs.Ytjcjibbojhlknaa
