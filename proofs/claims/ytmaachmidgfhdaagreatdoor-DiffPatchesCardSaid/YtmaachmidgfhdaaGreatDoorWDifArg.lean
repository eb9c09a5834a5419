/-
  A slice of strings as an argument of a row: opened.
-/
import Derived.Test.YtmaachmidgfhdaaGreatDoorWPolArg
import Derived.Test.YtmaachmidgfhdaaGreatDoorW3
import Derived.Test.YtmaachmidgfhdaaGreatDoorWDifA
/-! DifArg -/
namespace Go.Proofs.YtmaachmidgfhdaaGreatDoor
open Go.ChangeShapes Go.WideShapes Go.ChangeAt Go.RowKit Go.Deep

theorem cellsStrD : Tryz.prog.cellsOf 9 = 1 := by kernel_rfl
set_option maxRecDepth 100000 in
set_option maxHeartbeats 1600000 in
theorem strs_of_arg {H : Type} {enc : TypeId × Value → H} {W : World} {a0 : Option Addr} {len cap : Nat} {d : DataW H} {p : List MemPlace}
    (h : DataW.Trod enc Tryz.prog W 0 (fun _ => true) true 32 (.slice a0 len cap) d p) : ∃ l : List (List UInt8), l.length = len ∧ StrsAt W (.slice a0 l.length cap) l := by
  obtain ⟨fuel, hf⟩ := h
  rcases open_slice Tryz.underlying32 hf with ⟨hcs, hx⟩ | ⟨a, len', cap', m, n, D, Pl, hcs, hb, hl, hm, hmm, hx, hi⟩
  · simp [Value.cells] at hcs
    obtain ⟨rfl, rfl, rfl⟩ := hcs
    exact ⟨[], rfl, SlAt.nil W⟩
  · simp [Value.cells] at hcs
    obtain ⟨rfl, rfl, rfl⟩ := hcs
    simp only [if_true] at hmm
    have each : ∀ i, i < len → ∃ q : List UInt8, True ∧ ∀ j u, (strC q)[j]? = some u → W.cell? (a.add (i * 1 + j)) = some u := by
      intro i hil
      obtain ⟨cs', h1, h2⟩ := hi i (by omega)
      rw [cellsStrD] at h1
      obtain ⟨_, hlen, hcell⟩ := World.cells?_some h1
      obtain ⟨s, e0, _, _⟩ := DataW.trod_string Tryz.underlying9 h2
      refine ⟨s.data.toList, trivial, fun j u hu => ?_⟩
      have hj : j < 1 := (Array.getElem?_eq_some_iff.1 hu).1
      obtain rfl : j = 0 := by omega
      have c1 := hcell 0 (by omega)
      rw [add_add, e0] at c1
      rw [c1]
      have e : strC s.data.toList = #[.string s] := by unfold strC; rw [Array.toArray_toList]
      rw [e] at hu
      simpa using hu
    obtain ⟨q, hq⟩ := choose_parts ([] : List UInt8) each
    have htl : ((List.range len).map q).length = len := by simp
    refine ⟨(List.range len).map q, htl, ?_⟩
    by_cases hl0 : len = 0
    · subst hl0
      exact ⟨some a, cap, rfl, ⟨hl, by unfold maxLen at hm; omega⟩, fun h => absurd rfl h⟩
    · have h00 := (hq 0 (by omega)).2 0 _ rfl
      have hspot : a.spot = none := by simpa [Addr.add] using World.cell?_spot h00
      refine ⟨some a, cap, rfl, ⟨by rw [htl]; exact hl, by unfold maxLen at hm; omega⟩, fun _ => ⟨a.block, a.off, ?_, ?_, fun i hi => ?_⟩⟩
      · obtain ⟨b, o, s⟩ := a
        simp only at hspot
        subst hspot; rfl
      · rw [plain_addr hspot] at h00
        exact World.block_lt_of_cell? W ⟨a.block, _, none⟩ h00
      · rw [htl] at hi
        have := hq i hi
        simp only [plain_addr hspot] at this
        simp only [List.getElem_map, List.getElem_range]
        refine ⟨trivial, fun j u hu => ?_⟩
        rw [Nat.add_assoc]
        exact this.2 j u hu
end Go.Proofs.YtmaachmidgfhdaaGreatDoor
