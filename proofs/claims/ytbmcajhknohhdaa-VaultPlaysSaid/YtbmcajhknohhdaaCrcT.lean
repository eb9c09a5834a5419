/-
  The document's Turn: bits of bytes turned.
-/
import Derived.Test.YtbmcajhknohhdaaCrcS
import Derived.Laws.BitsAllLaws
import Derived.IntWalk
namespace Go.Proofs.Ytbmcajhknohhdaa
open Go.RowKit

theorem bvs_set (l : List UInt8) (q : Nat) (x : UInt8) : bvs (l.set q x) = (bvs l).set q (.int .u8 (x.toNat : Int)) := by simp [bvs, List.map_set]
/-- Bytes of its own with these bits turned. -/
def TurnIs (w : World) (l : List UInt8) (a : Int) (mask : Nat) (e : Ending) (w' : World) : Prop := ∃ t p c, e = .returned (.slice p t.length c) ∧ w'.ownsRow w.heap.size 5 1 (.slice p t.length c) t.length (bvs t) ∧ Below w.heap.size w w' ∧ t.length = l.length ∧ leN t = leN l ^^^ turnE (8 * l.length) a mask 32
/-- What holds at the head of a round. -/
def TurnAt (w : World) (l : List UInt8) (a : Int) (mask j : Nat) (V : Value) (wr : World) : Prop := ∃ t : List UInt8, t.length = l.length ∧ leN t = leN l ^^^ turnE (8 * l.length) a mask j ∧ wr.ownsRow w.heap.size 5 1 V t.length (bvs t) ∧ Below w.heap.size w wr
theorem turn_yes {n : Nat} {a : Int} {mask j : Nat} (h : turnB n a mask j = true) : turnE n a mask (j + 1) = turnE n a mask j ^^^ 2 ^ (a + j).toNat := by rw [turnE, if_pos h]
theorem turn_no {n : Nat} {a : Int} {mask j : Nat} (h : turnB n a mask j = false) : turnE n a mask (j + 1) = turnE n a mask j := by rw [turnE, if_neg (by rw [h]; decide), Nat.xor_zero]
theorem two_small {m : Nat} (h : m < 7) : 2 ^ m ≤ 64 := by
  have := Nat.pow_le_pow_right (n := 2) (by decide) (show m ≤ 6 by omega)
  simpa using this

end Go.Proofs.Ytbmcajhknohhdaa
