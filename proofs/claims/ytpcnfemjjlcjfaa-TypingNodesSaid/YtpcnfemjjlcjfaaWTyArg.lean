/-
  Slices of integers as arguments of a row: opened.
-/
import Derived.Test.YtpcnfemjjlcjfaaWByteArg
import Derived.Test.YtpcnfemjjlcjfaaWTyB
/-! TyArg -/
namespace Go.Proofs.Ytpcnfemjjlcjfaa
open Go.ChangeShapes Go.WideShapes Go.ChangeAt Go.RowKit Go.Deep

theorem znCellsInt : Try.prog.cellsOf 3 = 1 := by kernel_rfl
set_option maxRecDepth 100000 in
set_option maxHeartbeats 1600000 in
theorem zns_of_arg {H : Type} {enc : TypeId × Value → H} {W : World} {a0 : Option Addr} {len cap : Nat} {d : DataW H} {p : List MemPlace}
    (h : DataW.Trod enc Try.prog W 0 (fun _ => true) true 22 (.slice a0 len cap) d p) : ∃ l : List Int, l.length = len ∧ ZnsAt W (.slice a0 l.length cap) l ∧ ∀ x ∈ l, -9223372036854775808 ≤ x ∧ x ≤ 9223372036854775807 := by
  obtain ⟨fuel, hf⟩ := h
  rcases open_slice Try.underlying22 hf with ⟨hcs, hx⟩ | ⟨a, len', cap', m, n, D, Pl, hcs, hb, hl, hm, hmm, hx, hi⟩
  · simp [Value.cells] at hcs
    obtain ⟨rfl, rfl, rfl⟩ := hcs
    exact ⟨[], rfl, SlAt.nil W, fun x hx => by cases hx⟩
  · simp [Value.cells] at hcs
    obtain ⟨rfl, rfl, rfl⟩ := hcs
    simp only [if_true] at hmm
    have each : ∀ i, i < len → ∃ q : Int, (-9223372036854775808 ≤ q ∧ q ≤ 9223372036854775807) ∧ ∀ j u, (znC q)[j]? = some u → W.cell? (a.add (i * 1 + j)) = some u := by
      intro i hil
      obtain ⟨cs', h1, h2⟩ := hi i (by omega)
      rw [znCellsInt] at h1
      obtain ⟨_, hlen, hcell⟩ := World.cells?_some h1
      obtain ⟨z, he, _, wz⟩ := DataW.trod_int Try.underlying3 h2
      refine ⟨z, i64_wf wz, fun j u hu => ?_⟩
      have hj : j < 1 := by have := (Array.getElem?_eq_some_iff.1 hu).1; rw [znC_size] at this; exact this
      have c1 := hcell j (by omega)
      rw [add_add] at c1
      rw [c1, he, ← hu]
      obtain rfl : j = 0 := by omega
      rfl
    obtain ⟨q, hq⟩ := choose_parts (0 : Int) each
    have htl : ((List.range len).map q).length = len := by simp
    refine ⟨(List.range len).map q, htl, ?_, fun x hx => ?_⟩
    · by_cases hl0 : len = 0
      · subst hl0
        exact ⟨some a, cap, rfl, ⟨hl, by unfold maxLen at hm; omega⟩, fun h => absurd rfl h⟩
      · have h00 := (hq 0 (by omega)).2 0 _ rfl
        have hspot : a.spot = none := by simpa [Addr.add] using World.cell?_spot h00
        refine ⟨some a, cap, rfl, ⟨by rw [htl]; exact hl, by unfold maxLen at hm; omega⟩, fun _ => ⟨a.block, a.off, ?_, ?_, fun i hi => ?_⟩⟩
        · obtain ⟨b, o, s⟩ := a
          simp only at hspot
          subst hspot; rfl
        · rw [plain_addr hspot] at h00
          exact World.block_lt_of_cell? W ⟨a.block, _, none⟩ h00
        · rw [htl] at hi
          have := hq i hi
          simp only [plain_addr hspot] at this
          simp only [List.getElem_map, List.getElem_range]
          refine ⟨trivial, fun j u hu => ?_⟩
          rw [Nat.add_assoc]
          exact this.2 j u hu
    · obtain ⟨i, hi, rfl⟩ := List.mem_map.1 hx
      exact (hq i (List.mem_range.1 hi)).1
end Go.Proofs.Ytpcnfemjjlcjfaa
