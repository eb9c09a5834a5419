/-
  Slices of slices of bytes as arguments of a row: opened.
-/
import Derived.Test.YtppmhnbgfnackaaByteArg
import Derived.Test.YtppmhnbgfnackaaRowsB
namespace Go.Proofs.Ytppmhnbgfnackaa
open Go.ChangeShapes Go.WideShapes Go.ChangeAt Go.RowKit Go.Deep

theorem cellsRowP : Try.prog.cellsOf 24 = 1 := by kernel_rfl
set_option maxRecDepth 100000 in
theorem rows_of_arg {H : Type} {enc : TypeId × Value → H} {W : World} {a0 : Option Addr} {len cap : Nat} {d : DataW H} {p : List MemPlace}
    (h : DataW.Trod enc Try.prog W 0 (fun _ => true) true 22 (.slice a0 len cap) d p) : ∃ ls : List (List UInt8), ls.length = len ∧ RowsAt W (.slice a0 ls.length cap) ls := by
  obtain ⟨fuel, hf⟩ := h
  rcases open_slice Try.underlying22 hf with ⟨hcs, hx⟩ | ⟨a, len', cap', m, n, D, Pl, hcs, hb, hl, hm, hmm, hx, hi⟩
  · simp [Value.cells] at hcs
    obtain ⟨rfl, rfl, rfl⟩ := hcs
    exact ⟨[], rfl, none, 0, rfl, by simp, by decide, fun h => absurd rfl h⟩
  · simp [Value.cells] at hcs
    obtain ⟨rfl, rfl, rfl⟩ := hcs
    simp only [if_true] at hmm
    have each : ∀ i, i < len → ∃ q : List UInt8, ∃ r n c, W.cell? (a.add i) = some (.slice r n c) ∧ BsAt W r n c q := by
      intro i hil
      obtain ⟨cs', h1, h2⟩ := hi i (by omega)
      rw [cellsRowP, Nat.mul_one] at h1
      obtain ⟨_, hlen, hcell⟩ := World.cells?_some h1
      have hc := hcell 0 (by omega)
      rw [add_add, Nat.add_zero] at hc
      obtain ⟨r, k, c, rfl⟩ : ∃ r k c, cs' = [.slice r k c] := by
        rcases open_slice Try.underlying24 h2 with ⟨h3, -⟩ | ⟨a2, l2, c2, m2, n2, D2, P2, h3, -⟩
        · exact ⟨_, _, _, h3⟩
        · exact ⟨_, _, _, h3⟩
      obtain ⟨q, hq⟩ := bytes_of_arg (a0 := r) (len := k) (cap := c) ⟨n, h2⟩
      exact ⟨q, r, k, c, by simpa using hc, hq⟩
    obtain ⟨q, hq⟩ := choose_parts ([] : List UInt8) each
    have htl : ((List.range len).map q).length = len := by simp
    refine ⟨(List.range len).map q, htl, ?_⟩
    by_cases hl0 : len = 0
    · subst hl0
      exact ⟨some a, cap, rfl, by simp, hm, fun h => absurd rfl h⟩
    · have hspot : a.spot = none := by
        obtain ⟨r, k, c, h1, -⟩ := hq 0 (by omega)
        simpa [Addr.add] using World.cell?_spot h1
      refine ⟨some a, cap, rfl, by rw [htl]; exact hl, hm, fun _ => ⟨a.block, a.off, ?_, ?_, fun i hi => ?_⟩⟩
      · obtain ⟨b, o, s⟩ := a
        simp only at hspot
        subst hspot; rfl
      · obtain ⟨r, k, c, h1, -⟩ := hq 0 (by omega)
        rw [plain_addr hspot] at h1
        exact World.block_lt_of_cell? W ⟨a.block, _, none⟩ h1
      · rw [htl] at hi
        obtain ⟨r, k, c, h1, h2⟩ := hq i hi
        rw [plain_addr hspot] at h1
        simp only [List.getElem_map, List.getElem_range]
        exact ⟨r, k, c, h1, h2⟩
end Go.Proofs.Ytppmhnbgfnackaa
