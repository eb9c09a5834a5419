/-
  The document's sealed bytes, and bits turned.
-/
import Derived.Test.YtoieodlpoglmfaaDoorCrcR
import Derived.Laws.BitsAllLaws
namespace Go.Proofs.YtoieodlpoglmfaaDoor
open Go.RowKit

theorem le4_take {n j : Nat} (h : j < 4) : (le4 n).take (j + 1) = (le4 n).take j ++ [UInt8.ofNat (n / 256 ^ j)] := by
  have hc : j = 0 ∨ j = 1 ∨ j = 2 ∨ j = 3 := by omega
  rcases hc with rfl | rfl | rfl | rfl <;> simp [le4]
/-- Bytes of its own, in memory that was not there: an owned row. -/
def OwnIs (w : World) (l : List UInt8) (e : Ending) (w' : World) : Prop := ∃ p c, e = .returned (.slice p l.length c) ∧ w'.ownsRow w.heap.size 5 1 (.slice p l.length c) l.length (bvs l) ∧ Below w.heap.size w w'
theorem own_len {w : World} {base e n : Nat} {v : Value} {l : List UInt8} (h : w.ownsRow base e 1 v n (bvs l)) : n = l.length := by have := h.1; rw [bvs_length] at this; omega
theorem own_form {w : World} {base e : Nat} {v : Value} {l : List UInt8} (h : w.ownsRow base e 1 v l.length (bvs l)) : ∃ p c, v = .slice p l.length c := by
  rcases h.2 with ⟨rfl, h0⟩ | ⟨g, cap, cur, rfl, -⟩
  · exact ⟨none, 0, by rw [h0]⟩
  · exact ⟨_, cap, rfl⟩

end Go.Proofs.YtoieodlpoglmfaaDoor
