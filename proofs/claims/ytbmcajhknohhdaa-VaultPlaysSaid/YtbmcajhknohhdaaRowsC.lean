/-
  Slices of slices of bytes: each row, the first ones; bytes as texts that are compared.
-/
import Derived.Test.YtbmcajhknohhdaaRowsB
import Derived.Test.YtbmcajhknohhdaaByteP
namespace Go.Proofs.Ytbmcajhknohhdaa
open Go.RowKit

/-- The rows of an argument, in any world that keeps what was there. -/
theorem RowsAt.each {w : World} {v : Value} {l : List (List UInt8)} (h : RowsAt w v l) : ∃ p cap, v = .slice p l.length cap ∧ l.length ≤ 9223372036854775807 ∧ ∃ b off, (l ≠ [] → p = some ⟨b, off, none⟩) ∧ ∀ k, (hk : k < l.length) → ∃ q c, ∀ V, Below w.heap.size w V → V.cell? ⟨b, off + k, none⟩ = some (.slice q l[k].length c) ∧ BsAt V q l[k].length c l[k] := by
  obtain ⟨p, cap, h1, h2, h3, h4⟩ := h
  refine ⟨p, cap, h1, by unfold maxLen at h3; omega, ?_⟩
  by_cases hne : l = []
  · exact ⟨0, 0, fun h => absurd hne h, fun k hk => by rw [hne] at hk; simp at hk⟩
  · obtain ⟨b, off, h5, h6, h7⟩ := h4 hne
    refine ⟨b, off, fun _ => h5, fun k hk => ?_⟩
    obtain ⟨q, n, c, h8, h9⟩ := h7 k hk
    have hn := h9.same
    subst hn
    exact ⟨q, c, fun V hV => ⟨(hV.cell (p := ⟨b, off + k, none⟩) h6).trans h8, h9.below hV (Nat.le_refl _)⟩⟩

theorem RowsAt.first {w : World} {p : Option Addr} {len cap : Nat} {l : List (List UInt8)} (h : RowsAt w (.slice p len cap) l) {n : Nat} (hn : n ≤ l.length) : RowsAt w (.slice p n cap) (l.take n) := by
  obtain ⟨q, c, h1, h2, h3, h4⟩ := h
  rw [Value.slice.injEq] at h1
  obtain ⟨rfl, rfl, rfl⟩ := h1
  have hl : (l.take n).length = n := by rw [List.length_take]; omega
  refine ⟨p, cap, by rw [hl], by rw [hl]; omega, h3, fun hne => ?_⟩
  obtain ⟨b, off, h5, h6, h7⟩ := h4 (by intro e; rw [e] at hne; simp at hne)
  refine ⟨b, off, h5, h6, fun i hi => ?_⟩
  rw [hl] at hi
  obtain ⟨x, m, c, h8, h9⟩ := h7 i (by omega)
  exact ⟨x, m, c, h8, by rw [List.getElem_take]; exact h9⟩
theorem lists_eq (a b : List UInt8) : ((⟨a.toArray⟩ : ByteArray).toList == (⟨b.toArray⟩ : ByteArray).toList) = decide (a = b) := by
  rw [← beq_toListBytes]
  show (a.toArray == b.toArray) = decide (a = b)
  by_cases h : a = b
  · subst h; simp
  · rw [show decide (a = b) = false by simpa using h]; simpa using h
end Go.Proofs.Ytbmcajhknohhdaa
