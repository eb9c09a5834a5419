/-
  Slices of pairs of bytes in memory.
-/
import Derived.Test.YtoieodlpoglmfaaDoorAppB
namespace Go.Proofs.YtoieodlpoglmfaaDoor
open Go.RowKit

def PbsAt (w : World) (v : Value) (l : List (UInt8 × UInt8)) : Prop :=
  ∃ p cap, v = .slice p l.length cap ∧ l.length ≤ 9223372036854775807 ∧ (l ≠ [] → ∃ b off, p = some ⟨b, off, none⟩ ∧ b < w.heap.size ∧ ∀ i, (h : i < l.length) → w.cell? ⟨b, off + i * 2, none⟩ = some (.int .u8 (l[i].1.toNat : Int)) ∧ w.cell? ⟨b, off + i * 2 + 1, none⟩ = some (.int .u8 (l[i].2.toNat : Int)))
end Go.Proofs.YtoieodlpoglmfaaDoor
