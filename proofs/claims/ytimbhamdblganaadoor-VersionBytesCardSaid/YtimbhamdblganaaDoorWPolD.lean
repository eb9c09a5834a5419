/-
  A policy is equal to itself.
-/
import Derived.Test.YtimbhamdblganaaDoorWPolA
import Derived.Test.YtimbhamdblganaaDoorWEqR
/-! PolD -/
namespace Go.Proofs.YtimbhamdblganaaDoor
open Go.RowKit

theorem mem_range_map {α : Type} {f : Nat → α} {n : Nat} {v : α} (h : v ∈ (List.range n).map f) : ∃ k, k < n ∧ v = f k := by
  obtain ⟨k, hk, rfl⟩ := List.mem_map.1 h
  exact ⟨k, List.mem_range.1 hk, rfl⟩
theorem wfU16 {n : Nat} (h : n < 65536) : (Lit.int .u16 (n : Int)).wf = true := by
  have h1 : (0 : Int) ≤ (n : Int) := Int.natCast_nonneg n
  have h2 : (n : Int) ≤ 65535 := by omega
  simp only [Lit.wf, show IntKind.u16.min = 0 by decide, show IntKind.u16.max = 65535 by decide, decide_eq_true h1, decide_eq_true h2, Bool.and_self]
theorem wfU8 {n : Nat} (h : n < 256) : (Lit.int .u8 (n : Int)).wf = true := by
  have h1 : (0 : Int) ≤ (n : Int) := Int.natCast_nonneg n
  have h2 : (n : Int) ≤ 255 := by omega
  simp only [Lit.wf, show IntKind.u8.min = 0 by decide, show IntKind.u8.max = 255 by decide, decide_eq_true h1, decide_eq_true h2, Bool.and_self]
theorem polAt_int {p : Pol} (hp : PolOk p) {k : Nat} (hk : k < 66) : ∃ q n, polAt p k = .int q n ∧ (Lit.int q n).wf = true := by
  unfold polAt
  split
  · exact ⟨_, _, rfl, wfU16 hp.live⟩
  · split
    · split
      · exact ⟨_, _, rfl, wfU16 (hp.s _ (by omega))⟩
      · exact ⟨_, _, rfl, wfU16 (hp.i _ (by omega))⟩
    · split
      · exact ⟨_, _, rfl, wfU16 (hp.acts _ (by omega))⟩
      · split
        · exact ⟨_, _, rfl, wfU8 (hp.owner _ (by omega))⟩
        · exact ⟨_, _, rfl, wfU16 hp.active⟩
def polZ : Pol := ⟨0, fun _ => 0, fun _ => 0, fun _ => 0, fun _ => 0, 0⟩
theorem polAt_kind (p q : Pol) (k : Nat) : kindV (polAt p k) = kindV (polAt q k) := by
  unfold polAt
  split
  · rfl
  · split
    · split <;> rfl
    · split
      · rfl
      · split <;> rfl
theorem polC_kinds (p q : Pol) : (polC p).toList.map kindV = (polC q).toList.map kindV := by
  simp only [polC, List.map_map]
  exact List.map_congr_left fun k _ => polAt_kind p q k
theorem polC_ints {p : Pol} (hp : PolOk p) : intsL (polC p).toList := by
  intro v hv
  simp only [polC] at hv
  obtain ⟨k, hk, rfl⟩ := mem_range_map hv
  exact polAt_int hp hk
theorem polZ_lits : (Tryd.prog.keyLits 4 46 (polC polZ).toList).isSome = true := by kernel_rfl
theorem key_pol : Tryd.prog.keyTypeAt 4 46 = true := by kernel_rfl
theorem formed_pol (p : Pol) : (Value.agg (polC p)).formed Tryd.prog 46 = true := by
  simp only [Value.formed, Tryd.underlying46, polC_size]
  kernel_rfl
theorem run_equal_pol {p : Pol} (hp : PolOk p) (w : World) : (Op.equalIn 10000 46 (.agg (polC p)) (.agg (polC p))).run Tryd.prog w = .ok true w :=
  equal_self w (m := 4) (by decide) key_pol 4 (formed_pol p) (polC_ints hp) (polC_kinds p polZ) polZ_lits
theorem guard_pol : Tryd.prog.eqGuardType Tryd.prog.depth 46 = false := by kernel_rfl
theorem exec_eql_pol {o : Oper} {a : Act} {w : World} {x y : Operand} {ty : TypeId} {p : Pol} (hp : PolOk p) (ho : o.op = .binOp .eql 46 x y ty) (hx : a.eval x = .agg (polC p)) (hy : a.eval y = .agg (polC p)) :
    (execOp a.eval o).run Tryd.prog w = .ok (.value (.bool true)) w := by
  unfold execOp
  simp only [ho, hx, hy, Sem.run_bind, run_eqGuard_agg w .eql 46 x y _ _ guard_pol, run_eql_struct, run_equal_pol hp, Result.andThen_ok, Sem.run_pure]
theorem exec_neq_pol {o : Oper} {a : Act} {w : World} {x y : Operand} {ty : TypeId} {p : Pol} (hp : PolOk p) (ho : o.op = .binOp .neq 46 x y ty) (hx : a.eval x = .agg (polC p)) (hy : a.eval y = .agg (polC p)) :
    (execOp a.eval o).run Tryd.prog w = .ok (.value (.bool false)) w := by
  unfold execOp
  simp only [ho, hx, hy, Sem.run_bind, run_eqGuard_agg w .neq 46 x y _ _ guard_pol, run_neq_struct, run_equal_pol hp, Result.andThen_ok, Sem.run_pure, Bool.not_true]
end Go.Proofs.YtimbhamdblganaaDoor
