/-
  The small functions of the package label and of its reference: each boxes its arguments; nothing that existed changes.
-/
import Derived.Test.YtoieodlpoglmfaaDoorTagA
import Derived.Test.YtoieodlpoglmfaaDoorSetA
import Derived.Test.YtoieodlpoglmfaaDoorLabM
namespace Go.Proofs.YtoieodlpoglmfaaDoor
open Go.RowKit

/-- A label as a value. -/
theorem agg_eq {a b c d : Int} (h1 : a = c) (h2 : b = d) : Value.agg #[.int .u16 a, .int .u16 b] = .agg #[.int .u16 c, .int .u16 d] := by rw [h1, h2]

theorem below_two (w : World) (o p : Obj) : Below w.heap.size w ((w.alloc o).alloc p) := ((Below.refl _ w).alloc (Nat.le_refl _) _).alloc (by simp) _
theorem below_one (w : World) (o : Obj) : Below w.heap.size w (w.alloc o) := (Below.refl _ w).alloc (Nat.le_refl _) _

theorem Sub_is (a b : Nat) (x : Bool) (h : subB a b = x) (ha : a < 65536) (hb : b < 65536) (w : World) :
    Calls Tryd.prog 66 #[.int .u16 a, .int .u16 b] w fun e w' => e = .returned (.bool x) ∧ w = w' := by
  rw [← h]; exact Sub_any a b w ha hb

set_option maxHeartbeats 400000 in
theorem lFlows_any (a b c d : Nat) (w : World) (ha : a < 65536) (hb : b < 65536) (hc : c < 65536) (hd : d < 65536) :
    Calls Tryd.prog 35 #[.agg #[.int .u16 a, .int .u16 b], .agg #[.int .u16 c, .int .u16 d]] w fun e w' => e = .returned (.bool (flowsB a b c d)) ∧ Below w.heap.size w w' := by
  cases hS : subB a c
  · have HF := Lib.hid (show flowsB a b c d = false by unfold flowsB; rw [hS, Bool.false_and])
    have H1 := Lib.hid (Sub_is a c false hS ha hc)
    clear hS
    go_enter Tryd.func35, Tryd.ntmps35
    go_wp2_with fail
    (with_reducible refine (H1.out _).mono ?_); rintro e w' ⟨rfl, rfl⟩
    go_wp2_with fail
    go_ret
    exact ⟨ret_bool HF.out.symm, below_two _ _ _⟩
  · have HF := Lib.hid (show flowsB a b c d = subB d b by unfold flowsB; rw [hS, Bool.true_and])
    have H1 := Lib.hid (Sub_is a c true hS ha hc)
    have H2 := Lib.hid (fun W => Sub_any d b W hd hb)
    clear hS
    go_enter Tryd.func35, Tryd.ntmps35
    go_wp2_with fail
    (with_reducible refine (H1.out _).mono ?_); rintro e w' ⟨rfl, rfl⟩
    go_wp2_with fail
    (with_reducible refine (H2.out _).mono ?_); rintro e w' ⟨rfl, rfl⟩
    go_wp2_with fail
    go_ret
    exact ⟨ret_bool HF.out.symm, below_two _ _ _⟩

set_option maxHeartbeats 400000 in
theorem lBottom_any (w : World) :
    Calls Tryd.prog 41 #[] w fun e w' => e = .returned (.agg #[.int .u16 0, .int .u16 65535]) ∧ Below w.heap.size w w' := by
  go_enter Tryd.func41, Tryd.ntmps41
  go_wp2
  exact bodyPost_ret (v := .agg #[.int .u16 0, .int .u16 65535]) (by simp [results, Tryd.results41, go_sem]) rfl ⟨rfl, (Below.refl _ _).alloc (Nat.le_refl _) _⟩

set_option maxHeartbeats 400000 in
theorem lTop_any (w : World) :
    Calls Tryd.prog 49 #[] w fun e w' => e = .returned (.agg #[.int .u16 65535, .int .u16 0]) ∧ Below w.heap.size w w' := by
  go_enter Tryd.func49, Tryd.ntmps49
  go_wp2
  exact bodyPost_ret (v := .agg #[.int .u16 65535, .int .u16 0]) (by simp [results, Tryd.results49, go_sem]) rfl ⟨rfl, (Below.refl _ _).alloc (Nat.le_refl _) _⟩

end Go.Proofs.YtoieodlpoglmfaaDoor
