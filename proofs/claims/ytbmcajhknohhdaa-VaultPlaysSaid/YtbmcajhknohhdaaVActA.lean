/-
  Slices of forepeakref10.Act in memory.
-/
import Derived.Test.YtbmcajhknohhdaaAppB
namespace Go.Proofs.Ytbmcajhknohhdaa
open Go.RowKit

structure VActM where
  kd : Int
  gen : Int
  b : Int
  sz : Int
  n : Int
  kp : Int
def VActM.value (m : VActM) : Value := .agg #[.int .u8 m.kd, .int .i64 m.gen, .int .u8 m.b, .int .i64 m.sz, .int .i64 m.n, .int .i64 m.kp]
def VActM.cells (m : VActM) : Array Value := #[.int .u8 m.kd, .int .i64 m.gen, .int .u8 m.b, .int .i64 m.sz, .int .i64 m.n, .int .i64 m.kp]
def VActM.Ok (m : VActM) : Prop := (0 ≤ m.kd ∧ m.kd ≤ 255) ∧ (-9223372036854775808 ≤ m.gen ∧ m.gen ≤ 9223372036854775807) ∧ (0 ≤ m.b ∧ m.b ≤ 255) ∧ (-9223372036854775808 ≤ m.sz ∧ m.sz ≤ 9223372036854775807) ∧ (-9223372036854775808 ≤ m.n ∧ m.n ≤ 9223372036854775807) ∧ (-9223372036854775808 ≤ m.kp ∧ m.kp ≤ 9223372036854775807)
/-- In the world w the slice v holds just these. -/
def VActsAt (w : World) (v : Value) (l : List VActM) : Prop :=
  ∃ p cap, v = .slice p l.length cap ∧ l.length ≤ 9223372036854775807 ∧ (l ≠ [] → ∃ b off, p = some ⟨b, off, none⟩ ∧ b < w.heap.size ∧ ∀ i, (h : i < l.length) → l[i].Ok ∧
    w.cell? ⟨b, off + i * 6, none⟩ = some (.int .u8 l[i].kd) ∧ w.cell? ⟨b, off + i * 6 + 1, none⟩ = some (.int .i64 l[i].gen) ∧ w.cell? ⟨b, off + i * 6 + 2, none⟩ = some (.int .u8 l[i].b) ∧ w.cell? ⟨b, off + i * 6 + 3, none⟩ = some (.int .i64 l[i].sz) ∧ w.cell? ⟨b, off + i * 6 + 4, none⟩ = some (.int .i64 l[i].n) ∧ w.cell? ⟨b, off + i * 6 + 5, none⟩ = some (.int .i64 l[i].kp))
theorem VActsAt.below {B : Nat} {w w' : World} {v : Value} {l : List VActM} (h : VActsAt w v l) (hB : Below B w w') (hs : w.heap.size ≤ B) : VActsAt w' v l := by
  obtain ⟨p, cap, h1, h2, h3⟩ := h
  refine ⟨p, cap, h1, h2, fun hne => ?_⟩
  obtain ⟨b, off, h5, h6, h7⟩ := h3 hne
  refine ⟨b, off, h5, Nat.lt_of_lt_of_le h6 hB.size, fun i hi => ?_⟩
  obtain ⟨g, k0, k1, k2, k3, k4, k5⟩ := h7 i hi
  exact ⟨g, (hB.cell (p := ⟨b, off + i * 6, none⟩) (Nat.lt_of_lt_of_le h6 hs)).trans k0, (hB.cell (p := ⟨b, off + i * 6 + 1, none⟩) (Nat.lt_of_lt_of_le h6 hs)).trans k1, (hB.cell (p := ⟨b, off + i * 6 + 2, none⟩) (Nat.lt_of_lt_of_le h6 hs)).trans k2, (hB.cell (p := ⟨b, off + i * 6 + 3, none⟩) (Nat.lt_of_lt_of_le h6 hs)).trans k3, (hB.cell (p := ⟨b, off + i * 6 + 4, none⟩) (Nat.lt_of_lt_of_le h6 hs)).trans k4, (hB.cell (p := ⟨b, off + i * 6 + 5, none⟩) (Nat.lt_of_lt_of_le h6 hs)).trans k5⟩
end Go.Proofs.Ytbmcajhknohhdaa
