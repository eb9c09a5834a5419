/-
  The law VersionKeeps holds for every argument: it returns true and leaves its arguments as they were.
-/
import Derived.Test.YtimbhamdblganaaWPlainArg
import Derived.Test.YtimbhamdblganaaWVerArg
import Derived.Test.YtimbhamdblganaaWVerAl
import Derived.Test.YtimbhamdblganaaWVpC
import Derived.Test.YtimbhamdblganaaWPolH
import Derived.Test.YtimbhamdblganaaWLawVeKeeps
/-! SaidVeKeeps -/
namespace Go.Proofs.Ytimbhamdblganaa
open Go.ChangeShapes Go.WideShapes Go.ChangeAt Go.RowKit

theorem vekeeps_laidOut : laidOutB Try.prog = true := by kernel_rfl
set_option maxRecDepth 100000 in
theorem vekeeps_contract (H : Type) (enc : TypeId × Value → H) (W : World) (base : Nat) (args : Array Value) (ds gs : List (DataW H)) (before : List MemPlace)
    (hval : ∀ (j : Nat) t v, Try.f5.params[j]? = some t → args[j]? = some v → Value.okWide Try.prog W .any base t v)
    (hW : DataW.Whole enc Try.prog Try.f5.params.toList Rows.versionKeepsSpec.vars false W args.toList ds gs before) :
    Calls Try.prog 5 args W fun e W' => ∃ v, e = .returned v ∧ Rows.versionKeepsSpec.post enc Try.prog Try.f5 false true false false W args v W' := by
  have hW' := hW
  obtain ⟨p, q, hA0, hV, rfl, hfz, hnd⟩ := hW
  have hA : DataW.TrodAll enc Try.prog W 0 (fun _ => true) true Try.f5.params.toList args.toList ds p := hA0
  rw [Try.params5] at hA hval
  obtain ⟨v0, d0, rfl, rfl, h0⟩ := trodAll_one hA
  obtain ⟨rfl, rfl⟩ := trodVars_none hV
  clear hA0
  simp only [List.append_nil] at hW'
  have hlt0 : ∀ x ∈ p, x.block < W.heap.size := fun x hx => by simpa using hW'.lt x (by simp [hx])
  have hargs0 : ∀ (W' : World), Below W.heap.size W W' → DataW.Trod enc Try.prog W' 0 (fun b => decide (b < W.heap.size)) true 22 v0 d0 p :=
    fun W' hn => Below.trod vekeeps_laidOut (by kernel_rfl) (of_decide_eq_true (by kernel_rfl)) h0 hn hlt0
  obtain ⟨a0, n0, cap0, rfl⟩ := okWide_slice Try.underlying22 (hval 0 22 v0 rfl rfl)
  obtain ⟨l0, rfl, hx0, hI0⟩ := u16s_of_arg h0
  refine (vekeeps_any veNew_any veCommit_any veAt_any veEpoch_any veKept_any pFirst_any (vealive_any pFirst_any veNew_any veCommit_any veAt_any veEpoch_any veNow_any veKept_any veOf_any veOfNo_any veCount_any veNobCommit_any veNobEpoch_any) _ l0 W hI0 hx0).mono fun e W' ⟨he, hB⟩ => ?_
  subst he
  exact ⟨_, rfl, _, _, _, [], p, [], hW', trodAll_mk1 (shut_bool Try.underlying4 _), trodAll_mk1 (hargs0 _ hB), rfl, hB.frame _, fun h => by cases h⟩

set_option maxRecDepth 100000 in
theorem vekeeps_lifted (os : Os) (started : os.Started) (H : Type) (enc : TypeId × Value → H) :
    ReturnsInHanded {} Try.checked os 5 .any (Rows.versionKeepsSpec.pre6 enc Try.prog Try.f5 Rows.versionKeepsRow.domain false) (Rows.versionKeepsSpec.post enc Try.prog Try.f5 false true false false) := by
  refine returnsInHanded_of_change (C := Try.checked) ownP started (by kernel_rfl) Try.func5
    (ChangeSpec.witness6 (enc := enc) (C := Try.checked) false ⟨#[], #[Value.slice none 0 0], []⟩ 8 (by kernel_rfl) (by kernel_rfl) (by kernel_rfl) (by kernel_rfl)) ?_
  intro W base args ds gs before hval hW _ _
  exact vekeeps_contract H enc W base args ds gs before hval hW

theorem vekeeps_holds : Rows.VersionKeepsSaid :=
  OpenClaim.holds_of_wide 5 Try.f5 rfl rfl rfl rfl rfl rfl rfl ⟨rfl, rfl, rfl, rfl, rfl⟩ rfl rfl rfl rfl rfl (by kernel_rfl) Try.func5 (by kernel_rfl)
    (of_decide_eq_true (by kernel_rfl)) (by unfold Func.isWrapper; first | (rw [if_pos (by decide +kernel)]; kernel_rfl) | (rw [if_neg (by decide +kernel)]; exact ⟨rfl, rfl⟩))
    (fun os started H enc _ => vekeeps_lifted os started H enc)

end Go.Proofs.Ytimbhamdblganaa
