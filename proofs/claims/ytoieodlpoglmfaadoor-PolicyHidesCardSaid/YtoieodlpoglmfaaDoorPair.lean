/-
  A block of two cells that a call keeps: what it holds, that it may be written, what it is behind a store. And slices of labels.
-/
import Derived.OneCell
import Derived.Laws.Rows
import Derived.Test.YtoieodlpoglmfaaDoorLabA
namespace Go.Proofs.YtoieodlpoglmfaaDoor
open Go.RowKit

/-- Block b is a label of its own. -/
def Pair (w : World) (b : Nat) (x y : Value) : Prop := w.heap[b]? = some (.cells #[x, y] 24 (0, 0))
theorem Pair.lt {w : World} {b : Nat} {x y : Value} (h : Pair w b x y) : b < w.heap.size := lt_of_block h
theorem Pair.cell0 {w : World} {b : Nat} {x y : Value} (h : Pair w b x y) : w.cell? ⟨b, 0, none⟩ = some x := by unfold Pair at h; simp [World.cell?, h]
theorem Pair.cell1 {w : World} {b : Nat} {x y : Value} (h : Pair w b x y) : w.cell? ⟨b, 1, none⟩ = some y := by unfold Pair at h; simp [World.cell?, h]
theorem Pair.free0 {w : World} {b : Nat} {x y : Value} (h : Pair w b x y) : w.frozen? ⟨b, 0, none⟩ = false := by unfold Pair at h; simp [World.frozen?, h]
theorem Pair.free1 {w : World} {b : Nat} {x y : Value} (h : Pair w b x y) : w.frozen? ⟨b, 1, none⟩ = false := by unfold Pair at h; simp [World.frozen?, h]
theorem Pair.new (w : World) (x y : Value) : Pair (w.alloc (.cells #[x, y] 24)) w.heap.size x y := heap_alloc_new w _
theorem Pair.alloc {w : World} {b : Nat} {x y : Value} (h : Pair w b x y) (o : Obj) : Pair (w.alloc o) b x y := (Below.heap_alloc w o b h.lt).trans h
theorem Pair.drew {w : World} {b : Nat} {x y : Value} (h : Pair w b x y) : Pair w.drew b x y := h
theorem Pair.drewN {w : World} {b : Nat} {x y : Value} (h : Pair w b x y) (n : Nat) : Pair (w.drewN n) b x y := h
theorem Pair.below {B : Nat} {w w' : World} {b : Nat} {x y : Value} (h : Pair w b x y) (hB : Below B w w') (hb : b < B) : Pair w' b x y := (hB.block b hb).trans h
theorem Pair.set0 {w : World} {b : Nat} {x y : Value} (h : Pair w b x y) (u : Value) : Pair (w.setCell ⟨b, 0, none⟩ u) b u y := by
  have hlt := h.lt
  have h' : w.heap[b] = .cells #[x, y] 24 (0, 0) := by unfold Pair at h; simpa [Array.getElem?_eq_getElem hlt] using h
  show (w.heap.modify b _)[b]? = _
  rw [Array.getElem?_eq_getElem (by simpa using hlt), Array.getElem_modify_self, h']
  rfl
theorem Pair.set1 {w : World} {b : Nat} {x y : Value} (h : Pair w b x y) (u : Value) : Pair (w.setCell ⟨b, 1, none⟩ u) b x u := by
  have hlt := h.lt
  have h' : w.heap[b] = .cells #[x, y] 24 (0, 0) := by unfold Pair at h; simpa [Array.getElem?_eq_getElem hlt] using h
  show (w.heap.modify b _)[b]? = _
  rw [Array.getElem?_eq_getElem (by simpa using hlt), Array.getElem_modify_self, h']
  rfl

theorem Pair.set_other {w : World} {b : Nat} {x y : Value} (h : Pair w b x y) {a : Addr} (ha : a.block ≠ b) (u : Value) : Pair (w.setCell a u) b x y := (Below.heap_setCell w a u b (fun e => ha e.symm)).trans h

/-- In the world w the slice v holds just these labels. -/
def LabsAt (w : World) (v : Value) (l : List (Nat × Nat)) : Prop :=
  ∃ p cap, v = .slice p l.length cap ∧ l.length ≤ 70368744177664 ∧ (l ≠ [] → ∃ b off, p = some ⟨b, off, none⟩ ∧ b < w.heap.size ∧ ∀ i, (h : i < l.length) → w.cell? ⟨b, off + i * 2, none⟩ = some (.int .u16 l[i].1) ∧ w.cell? ⟨b, off + i * 2 + 1, none⟩ = some (.int .u16 l[i].2))
theorem LabsAt.nil (w : World) : LabsAt w (.slice none 0 0) [] := ⟨none, 0, rfl, by simp, fun h => absurd rfl h⟩

end Go.Proofs.YtoieodlpoglmfaaDoor
