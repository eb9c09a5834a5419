/-
  Strings put together and compared, as the walk meets them; the document's Num.
-/
import Derived.Test.YtcbphjdhafnkmaaDoorTexts
import Derived.Test.YtcbphjdhafnkmaaDoorTagA
import Derived.LoopTactic
namespace Go.Proofs.YtcbphjdhafnkmaaDoor
open Go.RowKit

theorem str_cat (a b : List UInt8) : (⟨a.toArray⟩ : ByteArray) ++ (⟨b.toArray⟩ : ByteArray) = ⟨(a ++ b).toArray⟩ := by
  rw [ByteArray.mk_append_mk]
theorem cat_run (x y : List UInt8) (h : x.length + y.length ≤ 1000) : ∀ V : World, (Op.stringOp .add ⟨x.toArray⟩ ⟨y.toArray⟩).run Tryd.prog V = .ok (.string ⟨(x ++ y).toArray⟩) V :=
  fun V => run_string_add_lists V x y (by omega) (by omega)
theorem exec_cat {o : Oper} {a : Act} {w : World} {t t2 : TypeId} {x y : Operand} (ho : o.op = .binOp .add t x y t2) {l m : List UInt8} (hx : a.eval x = .string ⟨l.toArray⟩) (hy : a.eval y = .string ⟨m.toArray⟩) (h : l.length + m.length ≤ 1000) : (execOp a.eval o).run Tryd.prog w = .ok (.value (.string ⟨(l ++ m).toArray⟩)) w := by
  unfold execOp
  simp only [ho, hx, hy, binOp_string_add, Sem.run_bind, cat_run l m h, eqGuard]
  simp
theorem num_ten : ∀ n : Fin 10, (⟨#[48, 49, 50, 51, 52, 53, 54, 55, 56, 57]⟩ : ByteArray).extract n.val (n.val + 1) = ⟨(dig n.val).toArray⟩ := by decide +kernel
theorem dig_big : ∀ n : Fin 16, 9 < n.val → [49] ++ dig (n.val - 10) = dig n.val := by decide +kernel
theorem rdNum_small (n : Nat) (hn : n < 10) (w : World) : Calls Tryd.prog 13 #[.int .i64 (n : Int)] w fun e w' => e = .returned (.string ⟨(dig n).toArray⟩) ∧ w = w' := by
  have HX := Lib.hid (show (⟨#[48, 49, 50, 51, 52, 53, 54, 55, 56, 57]⟩ : ByteArray).extract n (n + 1) = ⟨(dig n).toArray⟩ from num_ten ⟨n, hn⟩)
  have d : decide ((9 : Int) < (n : Int)) = false := by simp; omega
  have q : IntKind.i64.wrap ((n : Int) + 1) = (n : Int) + 1 := by rw [IntKind.wrap_i64]; omega
  have a0 : (0 : Int) ≤ (n : Int) := by omega
  have a1 : (n : Int) ≤ (n : Int) + 1 := by omega
  have a2 : (n : Int) + 1 ≤ 10 := by omega
  clear hn
  go_enter Tryd.func13, Tryd.ntmps13
  go_wp2_with fail
  go_ret
  exact ⟨congrArg (fun b => Ending.returned (Value.string b)) HX.out, rfl⟩
theorem rdNum_any (n : Nat) (hn : n < 16) (w : World) : Calls Tryd.prog 13 #[.int .i64 (n : Int)] w fun e w' => e = .returned (.string ⟨(dig n).toArray⟩) ∧ w = w' := by
  by_cases h10 : n < 10
  · exact rdNum_small n h10 w
  have HX := Lib.hid (show [49] ++ dig (n - 10) = dig n from dig_big ⟨n, hn⟩ (by show 9 < n; omega))
  have H0 := Lib.hid (rdNum_small (n - 10) (by omega) w)
  have d : decide ((9 : Int) < (n : Int)) = true := by simp; omega
  have q : IntKind.i64.wrap ((n : Int) - 10) = ((n - 10 : Nat) : Int) := by rw [IntKind.wrap_i64]; omega
  have hlen : (dig (n - 10)).length ≤ 2 := (dig_len ⟨n - 10, by omega⟩).2
  have hc : ∀ V : World, (Op.stringOp .add ⟨#[49]⟩ ⟨(dig (n - 10)).toArray⟩).run Tryd.prog V = .ok (.string ⟨([49] ++ dig (n - 10)).toArray⟩) V := cat_run [49] (dig (n - 10)) (by simp; omega)
  generalize n - 10 = m at *
  clear hn h10 hlen
  go_enter Tryd.func13, Tryd.ntmps13
  go_wp2_with fail
  refine H0.out.mono ?_
  rintro e w1 ⟨rfl, rfl⟩
  go_wp2_with fail
  go_ret
  exact ⟨by rw [← HX.out]; rfl, rfl⟩
theorem exec_streq {o : Oper} {a : Act} {w : World} {t t2 : TypeId} {x y : Operand} (ho : o.op = .binOp .eql t x y t2) {l m : List UInt8} (hx : a.eval x = .string ⟨l.toArray⟩) (hy : a.eval y = .string ⟨m.toArray⟩) {b : Bool} (hb : b = true ↔ l = m) : (execOp a.eval o).run Tryd.prog w = .ok (.value (.bool b)) w := by
  have e : (l == m) = b := by
    rw [Bool.eq_iff_iff, beq_iff_eq, hb]
  unfold execOp
  simp only [ho, hx, hy, binOp_string_eql, Sem.run_bind, eqGuard, ByteArray.toList_mk, e]
  simp
end Go.Proofs.YtcbphjdhafnkmaaDoor
