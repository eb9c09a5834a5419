/-
  Pieces are compared: what is the same is equal.
-/
import Derived.Test.YtcbphjdhafnkmaaDoorLexC
import Derived.DeepKeys
import Derived.ChangeKeysEq
import Derived.Test.YtcbphjdhafnkmaaDoorNumA
namespace Go.Proofs.YtcbphjdhafnkmaaDoor
open Go.RowKit

/-- What a piece holds is small. -/
def SmallPc (x : Pc × Nat) : Prop := x.1.kind ≤ 5 ∧ x.1.n < 16 ∧ x.1.text.length ≤ 8 ∧ x.2 ≤ 48
theorem tab_few : ∀ x ∈ tabPc, x.kind ≤ 5 ∧ x.n < 16 ∧ x.text.length ≤ 8 := by decide +kernel
theorem pcsO_small (s : List UInt8) : ∀ x ∈ (pcsO s).1, SmallPc x := by
  intro x hx
  unfold pcsO at hx
  split at hx
  · cases hx
  · rename_i h48
    split at hx
    · rename_i L hL
      obtain ⟨h1, h2, -⟩ := pcsF_at s _ 0 s L rfl (Nat.lt_succ_self _) hL x hx
      have h3 := h2 (Nat.zero_le _)
      have h4 : x.2 ≤ 48 := by omega
      rcases h1 with h1 | h1
      · obtain ⟨a, b, c⟩ := tab_few _ h1
        exact ⟨a, b, c, h4⟩
      · refine ⟨?_, ?_, ?_, h4⟩ <;> rw [h1] <;> decide
    · cases hx
theorem lxWf {n : Nat} (h : n ≤ 1000) : (Lit.int .i64 (n : Int)).wf = true := by
  have h1 : (-9223372036854775808 : Int) ≤ (n : Int) := by omega
  have h2 : (n : Int) ≤ 9223372036854775807 := by omega
  simp only [Lit.wf, show IntKind.i64.min = -9223372036854775808 by decide, show IntKind.i64.max = 9223372036854775807 by decide, decide_eq_true h1, decide_eq_true h2, Bool.and_self]
section
variable {x : Pc × Nat}
theorem keyLx_int {n : Nat} (h : n ≤ 1000) : Tryd.prog.keyLits 1 3 [.int .i64 (n : Int)] = some [.int .i64 (n : Int)] := by
  simp only [Program.keyLits, Tryd.underlying3, lxWf h, and_self, if_true]
theorem keyLx_str {l : List UInt8} (h : l.length ≤ 1000) : Tryd.prog.keyLits 1 9 [.string ⟨l.toArray⟩] = some [.string l] := by
  have h2 : (⟨l.toArray⟩ : ByteArray).size ≤ maxLen := by simp only [ByteArray.size, List.size_toArray, maxLen]; omega
  simp only [Program.keyLits, Tryd.underlying9, h2, if_true]
theorem cellsLx : Tryd.prog.cellsOf 31 = 4 ∧ Tryd.prog.cellsOf 3 = 1 ∧ Tryd.prog.cellsOf 9 = 1 := ⟨by kernel_rfl, by kernel_rfl, by kernel_rfl⟩
theorem keyLx (h : SmallPc x) : ∃ L, Tryd.prog.keyLits 2 31 (pieC x).toList = some L := by
  refine ⟨[.int .i64 (x.1.kind : Int), .string x.1.text, .int .i64 (x.1.n : Int), .int .i64 (x.2 : Int)], ?_⟩
  have h1 := keyLx_int (n := x.1.kind) (by have := h.1; omega)
  have h2 := keyLx_str (l := x.1.text) (by have := h.2.2.1; omega)
  have h3 := keyLx_int (n := x.1.n) (by have := h.2.1; omega)
  have h4 := keyLx_int (n := x.2) (by have := h.2.2.2; omega)
  obtain ⟨c1, c2, c3⟩ := cellsLx
  unfold Program.keyLits
  rw [Tryd.underlying31]
  simp [pieC, c1, c2, c3, h1, h2, h3, h4]
theorem keyT_lx : Tryd.prog.keyTypeAt 2 31 = true := by kernel_rfl
theorem formedLx (x : Pc × Nat) : (Value.agg (pieC x)).formed Tryd.prog 31 = true := by
  simp only [Value.formed, Tryd.underlying31, pieC_size]
  kernel_rfl
theorem equalLx (h : SmallPc x) (w : World) : (Op.equalIn 10000 31 (.agg (pieC x)) (.agg (pieC x))).run Tryd.prog w = .ok true w := by
  obtain ⟨L, hL⟩ := keyLx h
  obtain ⟨r, hr, hiff⟩ := run_equalIn_deep (10000 - 2) 2 31 keyT_lx w 2 2 (.agg (pieC x)) (.agg (pieC x)) L L (formedLx x) (formedLx x) hL hL
  rw [show 10000 - 2 + 2 = 10000 by omega] at hr
  rw [hr, hiff.2 rfl]
theorem guardLx : Tryd.prog.eqGuardType Tryd.prog.depth 31 = false := by kernel_rfl
theorem exec_neqLx {o : Oper} {a : Act} {w : World} {p q : Operand} {ty : TypeId} (h : SmallPc x) (ho : o.op = .binOp .neq 31 p q ty) (hx : a.eval p = .agg (pieC x)) (hy : a.eval q = .agg (pieC x)) :
    (execOp a.eval o).run Tryd.prog w = .ok (.value (.bool false)) w := by
  unfold execOp
  simp only [ho, hx, hy, Sem.run_bind, run_eqGuard_agg w .neq 31 p q _ _ guardLx, run_neq_struct, equalLx h, Result.andThen_ok, Sem.run_pure, Bool.not_true]
end
end Go.Proofs.YtcbphjdhafnkmaaDoor
