/-
  Slices of slices of bytes in memory.
-/
import Derived.Test.YtbmcajhknohhdaaAppB
namespace Go.Proofs.Ytbmcajhknohhdaa
open Go.RowKit

/-- In the world w the slice v holds just these slices of bytes. -/
def RowsAt (w : World) (v : Value) (ls : List (List UInt8)) : Prop :=
  ∃ p cap, v = .slice p ls.length cap ∧ ls.length ≤ cap ∧ cap ≤ maxLen ∧ (ls ≠ [] → ∃ b off, p = some ⟨b, off, none⟩ ∧ b < w.heap.size ∧ ∀ i, (h : i < ls.length) → ∃ q n c, w.cell? ⟨b, off + i, none⟩ = some (.slice q n c) ∧ BsAt w q n c ls[i])
theorem RowsAt.below {B : Nat} {w w' : World} {v : Value} {ls : List (List UInt8)} (h : RowsAt w v ls) (hB : Below B w w') (hs : w.heap.size ≤ B) : RowsAt w' v ls := by
  obtain ⟨p, cap, h1, h2, h3, h4⟩ := h
  refine ⟨p, cap, h1, h2, h3, fun hne => ?_⟩
  obtain ⟨b, off, h5, h6, h7⟩ := h4 hne
  refine ⟨b, off, h5, Nat.lt_of_lt_of_le h6 hB.size, fun i hi => ?_⟩
  obtain ⟨q, n, c, h8, h9⟩ := h7 i hi
  exact ⟨q, n, c, (hB.cell (p := ⟨b, off + i, none⟩) (Nat.lt_of_lt_of_le h6 hs)).trans h8, h9.below hB hs⟩
/-- One row, in a new block. -/
theorem rows_one {w : World} {p : Option Addr} {n c : Nat} {l : List UInt8} (h : BsAt w p n c l) (t : TypeId) : RowsAt (w.alloc (.cells #[.slice p n c] t)) (.slice (some ⟨w.heap.size, 0, none⟩) 1 1) [l] :=
  ⟨_, 1, rfl, Nat.le_refl _, by decide, fun _ => ⟨w.heap.size, 0, rfl, by simp, fun i hi => by
    obtain rfl : i = 0 := by simp at hi; omega
    exact ⟨p, n, c, by rw [(Blk.new w _ t).cell]; rfl, h.below (belowNew w _) (Nat.le_refl _)⟩⟩⟩
theorem rows_two {w : World} {p q : Option Addr} {n c m d : Nat} {l k : List UInt8} (h : BsAt w p n c l) (g : BsAt w q m d k) (t : TypeId) : RowsAt (w.alloc (.cells #[.slice p n c, .slice q m d] t)) (.slice (some ⟨w.heap.size, 0, none⟩) 2 2) [l, k] :=
  ⟨_, 2, rfl, Nat.le_refl _, by decide, fun _ => ⟨w.heap.size, 0, rfl, by simp, fun i hi => by
    have hc : i = 0 ∨ i = 1 := by simp at hi; omega
    rcases hc with rfl | rfl
    · exact ⟨p, n, c, by rw [(Blk.new w _ t).cell]; rfl, h.below (belowNew w _) (Nat.le_refl _)⟩
    · exact ⟨q, m, d, by rw [(Blk.new w _ t).cell]; rfl, g.below (belowNew w _) (Nat.le_refl _)⟩⟩⟩
end Go.Proofs.Ytbmcajhknohhdaa
