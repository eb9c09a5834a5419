/-
  Slices of forepeakref07.Act in memory.
-/
import Derived.Test.YtjoimgmnklfmeaaAppB
namespace Go.Proofs.Ytjoimgmnklfmeaa
open Go.RowKit

structure ActM where
  kd : Int
  i : Int
  kp : Int
  b : Int
  sz : Int
def ActM.value (m : ActM) : Value := .agg #[.int .u8 m.kd, .int .i64 m.i, .int .i64 m.kp, .int .u8 m.b, .int .i8 m.sz]
def ActM.cells (m : ActM) : Array Value := #[.int .u8 m.kd, .int .i64 m.i, .int .i64 m.kp, .int .u8 m.b, .int .i8 m.sz]
def ActM.Ok (m : ActM) : Prop := (0 ≤ m.kd ∧ m.kd ≤ 255) ∧ (-9223372036854775808 ≤ m.i ∧ m.i ≤ 9223372036854775807) ∧ (-9223372036854775808 ≤ m.kp ∧ m.kp ≤ 9223372036854775807) ∧ (0 ≤ m.b ∧ m.b ≤ 255) ∧ (-128 ≤ m.sz ∧ m.sz ≤ 127)
/-- In the world w the slice v holds just these. -/
def ActsAt (w : World) (v : Value) (l : List ActM) : Prop :=
  ∃ p cap, v = .slice p l.length cap ∧ l.length ≤ 9223372036854775807 ∧ (l ≠ [] → ∃ b off, p = some ⟨b, off, none⟩ ∧ b < w.heap.size ∧ ∀ i, (h : i < l.length) → l[i].Ok ∧
    w.cell? ⟨b, off + i * 5, none⟩ = some (.int .u8 l[i].kd) ∧ w.cell? ⟨b, off + i * 5 + 1, none⟩ = some (.int .i64 l[i].i) ∧ w.cell? ⟨b, off + i * 5 + 2, none⟩ = some (.int .i64 l[i].kp) ∧ w.cell? ⟨b, off + i * 5 + 3, none⟩ = some (.int .u8 l[i].b) ∧ w.cell? ⟨b, off + i * 5 + 4, none⟩ = some (.int .i8 l[i].sz))
theorem ActsAt.below {B : Nat} {w w' : World} {v : Value} {l : List ActM} (h : ActsAt w v l) (hB : Below B w w') (hs : w.heap.size ≤ B) : ActsAt w' v l := by
  obtain ⟨p, cap, h1, h2, h3⟩ := h
  refine ⟨p, cap, h1, h2, fun hne => ?_⟩
  obtain ⟨b, off, h5, h6, h7⟩ := h3 hne
  refine ⟨b, off, h5, Nat.lt_of_lt_of_le h6 hB.size, fun i hi => ?_⟩
  obtain ⟨g, k0, k1, k2, k3, k4⟩ := h7 i hi
  exact ⟨g, (hB.cell (p := ⟨b, off + i * 5, none⟩) (Nat.lt_of_lt_of_le h6 hs)).trans k0, (hB.cell (p := ⟨b, off + i * 5 + 1, none⟩) (Nat.lt_of_lt_of_le h6 hs)).trans k1, (hB.cell (p := ⟨b, off + i * 5 + 2, none⟩) (Nat.lt_of_lt_of_le h6 hs)).trans k2, (hB.cell (p := ⟨b, off + i * 5 + 3, none⟩) (Nat.lt_of_lt_of_le h6 hs)).trans k3, (hB.cell (p := ⟨b, off + i * 5 + 4, none⟩) (Nat.lt_of_lt_of_le h6 hs)).trans k4⟩
end Go.Proofs.Ytjoimgmnklfmeaa
