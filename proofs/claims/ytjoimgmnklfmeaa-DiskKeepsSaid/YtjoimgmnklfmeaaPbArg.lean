/-
  Slices of pairs of bytes as arguments of a row: opened.
-/
import Derived.Test.YtjoimgmnklfmeaaPbA
import Derived.Test.YtjoimgmnklfmeaaByteArg
namespace Go.Proofs.Ytjoimgmnklfmeaa
open Go.ChangeShapes Go.WideShapes Go.ChangeAt Go.RowKit Go.Deep

theorem cellsPb : Try.prog.cellsOf 53 = 2 := by kernel_rfl
theorem cellsPb1 : Try.prog.cellsOf 5 = 1 := by kernel_rfl
theorem byte_of {z : Int} (h : (Lit.int .u8 z).wf = true) : ∃ b : UInt8, z = (b.toNat : Int) := by
  have b1 : IntKind.u8.min = 0 := rfl
  have b2 : IntKind.u8.max = 255 := rfl
  simp only [Lit.wf, Bool.and_eq_true, decide_eq_true_eq] at h
  obtain ⟨k, rfl⟩ := Int.eq_ofNat_of_zero_le (show 0 ≤ z by omega)
  exact ⟨UInt8.ofNat k, by simp; omega⟩
set_option maxRecDepth 100000 in
theorem pbs_of_arg {H : Type} {enc : TypeId × Value → H} {W : World} {a0 : Option Addr} {len cap : Nat} {d : DataW H} {p : List MemPlace}
    (h : DataW.Trod enc Try.prog W 0 (fun _ => true) true 50 (.slice a0 len cap) d p) : ∃ l : List (UInt8 × UInt8), l.length = len ∧ PbsAt W (.slice a0 l.length cap) l := by
  obtain ⟨fuel, hf⟩ := h
  rcases open_slice Try.underlying50 hf with ⟨hcs, hx⟩ | ⟨a, len', cap', m, n, D, Pl, hcs, hb, hl, hm, hmm, hx, hi⟩
  · simp [Value.cells] at hcs
    obtain ⟨rfl, rfl, rfl⟩ := hcs
    exact ⟨[], rfl, none, 0, rfl, by simp, fun h => absurd rfl h⟩
  · simp [Value.cells] at hcs
    obtain ⟨rfl, rfl, rfl⟩ := hcs
    simp only [if_true] at hmm
    have each : ∀ i, i < len → ∃ q : UInt8 × UInt8, W.cell? (a.add (i * 2)) = some (.int .u8 (q.1.toNat : Int)) ∧ W.cell? (a.add (i * 2 + 1)) = some (.int .u8 (q.2.toNat : Int)) := by
      intro i hil
      obtain ⟨cs', h1, h2⟩ := hi i (by omega)
      rw [cellsPb] at h1
      obtain ⟨_, hlen, hcell⟩ := World.cells?_some h1
      obtain ⟨xs, k, _, _, _, hxl, hxx⟩ := DataW.trod_array Try.underlying53 h2
      match cs', hlen with
      | [v0, v1], _ =>
        have g0 := hxx 0 (by decide)
        have g1 := hxx 1 (by decide)
        rw [cellsPb1, List.getElem?_eq_getElem (by omega)] at g0 g1
        simp at g0 g1
        obtain ⟨x, e0, _, wx⟩ := DataW.trod_int Try.underlying5 g0
        obtain ⟨y, e1, _, wy⟩ := DataW.trod_int Try.underlying5 g1
        obtain ⟨bx, rfl⟩ := byte_of wx
        obtain ⟨by_, rfl⟩ := byte_of wy
        simp at e0 e1
        have c0 := hcell 0 (by omega)
        have c1 := hcell 1 (by omega)
        rw [add_add] at c0 c1
        exact ⟨(bx, by_), by rw [← e0]; simpa using c0, by rw [← e1]; simpa using c1⟩
    obtain ⟨q, hq⟩ := choose_parts ((0, 0) : UInt8 × UInt8) each
    have htl : ((List.range len).map q).length = len := by simp
    refine ⟨(List.range len).map q, htl, ?_⟩
    by_cases hl0 : len = 0
    · subst hl0
      exact ⟨some a, cap, rfl, by simp, fun h => absurd rfl h⟩
    · have hspot : a.spot = none := by simpa [Addr.add] using World.cell?_spot (hq 0 (by omega)).1
      refine ⟨some a, cap, rfl, by rw [htl]; unfold maxLen at hm; omega, fun _ => ⟨a.block, a.off, ?_, ?_, fun i hi => ?_⟩⟩
      · obtain ⟨b, o, s⟩ := a
        simp only at hspot
        subst hspot; rfl
      · have := (hq 0 (by omega)).1
        rw [plain_addr hspot] at this
        exact World.block_lt_of_cell? W ⟨a.block, _, none⟩ this
      · rw [htl] at hi
        have := hq i hi
        simp only [plain_addr hspot] at this
        simp only [List.getElem_map, List.getElem_range]
        simpa only [Nat.add_assoc] using this

end Go.Proofs.Ytjoimgmnklfmeaa
