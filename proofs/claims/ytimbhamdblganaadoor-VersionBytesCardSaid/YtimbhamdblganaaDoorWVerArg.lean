/-
  Slices of sets, of integers, and of policies as arguments of a row: opened.
-/
import Derived.Test.YtimbhamdblganaaDoorWPolArg
import Derived.Test.YtimbhamdblganaaDoorWByteArg
import Derived.Test.YtimbhamdblganaaDoorWVerC
import Derived.Test.YtimbhamdblganaaDoorW1
/-! VerArg -/
namespace Go.Proofs.YtimbhamdblganaaDoor
open Go.ChangeShapes Go.WideShapes Go.ChangeAt Go.RowKit Go.Deep

theorem cellsIntV : Tryd.prog.cellsOf 3 = 1 := by kernel_rfl
theorem cellsPolV : Tryd.prog.cellsOf 46 = 66 := by kernel_rfl
set_option maxRecDepth 100000 in
set_option maxHeartbeats 1600000 in
theorem intsR_of_arg {H : Type} {enc : TypeId × Value → H} {W : World} {a0 : Option Addr} {len cap : Nat} {d : DataW H} {p : List MemPlace}
    (h : DataW.Trod enc Tryd.prog W 0 (fun _ => true) true 90 (.slice a0 len cap) d p) : ∃ l : List Int, l.length = len ∧ (∀ x ∈ l, -9223372036854775808 ≤ x ∧ x ≤ 9223372036854775807) ∧ IntsAt W (.slice a0 l.length cap) l := by
  obtain ⟨fuel, hf⟩ := h
  rcases open_slice Tryd.underlying90 hf with ⟨hcs, hx⟩ | ⟨a, len', cap', m, n, D, Pl, hcs, hb, hl, hm, hmm, hx, hi⟩
  · simp [Value.cells] at hcs
    obtain ⟨rfl, rfl, rfl⟩ := hcs
    exact ⟨[], rfl, (fun _ h => by cases h), none, 0, rfl, by simp, fun h => absurd rfl h⟩
  · simp [Value.cells] at hcs
    obtain ⟨rfl, rfl, rfl⟩ := hcs
    simp only [if_true] at hmm
    have each : ∀ i, i < len → ∃ q : Int, (-9223372036854775808 ≤ q ∧ q ≤ 9223372036854775807) ∧ W.cell? (a.add i) = some (.int .i64 q) := by
      intro i hil
      obtain ⟨cs', h1, h2⟩ := hi i (by omega)
      rw [cellsIntV, Nat.mul_one] at h1
      obtain ⟨_, hlen, hcell⟩ := World.cells?_some h1
      obtain ⟨z, e0, _, wz⟩ := DataW.trod_int Tryd.underlying3 h2
      have hc := hcell 0 (by omega)
      rw [add_add, e0, Nat.add_zero] at hc
      exact ⟨z, i64_wf wz, by rw [hc]; simp⟩
    obtain ⟨q, hq⟩ := choose_parts (0 : Int) each
    have htl : ((List.range len).map q).length = len := by simp
    refine ⟨(List.range len).map q, htl, fun x hx => ?_, ?_⟩
    · obtain ⟨i, hi2, rfl⟩ := List.mem_map.1 hx
      exact (hq i (List.mem_range.1 hi2)).1
    by_cases hl0 : len = 0
    · subst hl0
      exact ⟨some a, cap, rfl, by simp, fun h => absurd rfl h⟩
    · have h00 := (hq 0 (by omega)).2
      have hspot : a.spot = none := by simpa [Addr.add] using World.cell?_spot h00
      refine ⟨some a, cap, rfl, by rw [htl]; unfold maxLen at hm; omega, fun _ => ⟨a.block, a.off, ?_, fun i hi => ?_⟩⟩
      · obtain ⟨b, o, s⟩ := a
        simp only at hspot
        subst hspot; rfl
      · rw [htl] at hi
        have := (hq i hi).2
        simp only [plain_addr hspot] at this
        rw [this]
        simp [List.getD, hi]
set_option maxRecDepth 100000 in
set_option maxHeartbeats 1600000 in
theorem pols_of_arg {H : Type} {enc : TypeId × Value → H} {W : World} {a0 : Option Addr} {len cap : Nat} {d : DataW H} {p : List MemPlace}
    (h : DataW.Trod enc Tryd.prog W 0 (fun _ => true) true 22 (.slice a0 len cap) d p) : ∃ l : List Pol, l.length = len ∧ PolsAt W (.slice a0 l.length cap) l := by
  obtain ⟨fuel, hf⟩ := h
  rcases open_slice Tryd.underlying22 hf with ⟨hcs, hx⟩ | ⟨a, len', cap', m, n, D, Pl, hcs, hb, hl, hm, hmm, hx, hi⟩
  · simp [Value.cells] at hcs
    obtain ⟨rfl, rfl, rfl⟩ := hcs
    exact ⟨[], rfl, SlAt.nil W⟩
  · simp [Value.cells] at hcs
    obtain ⟨rfl, rfl, rfl⟩ := hcs
    simp only [if_true] at hmm
    have each : ∀ i, i < len → ∃ q : Pol, PolOk q ∧ ∀ j u, (polC q)[j]? = some u → W.cell? (a.add (i * 66 + j)) = some u := by
      intro i hil
      obtain ⟨cs', h1, h2⟩ := hi i (by omega)
      rw [cellsPolV] at h1
      obtain ⟨_, hlen, hcell⟩ := World.cells?_some h1
      obtain ⟨c, hc, he⟩ := pol_of_cells hlen h2
      refine ⟨c, hc, fun j u hu => ?_⟩
      have hj : j < 66 := by have := (Array.getElem?_eq_some_iff.1 hu).1; rw [polC_size] at this; exact this
      have c1 := hcell j (by omega)
      rw [add_add] at c1
      rw [c1, he j hj, ← hu, polC_get c hj]
    obtain ⟨q, hq⟩ := choose_parts zeroP each
    have htl : ((List.range len).map q).length = len := by simp
    refine ⟨(List.range len).map q, htl, ?_⟩
    by_cases hl0 : len = 0
    · subst hl0
      exact ⟨some a, cap, rfl, ⟨hl, by unfold maxLen at hm; omega⟩, fun h => absurd rfl h⟩
    · have h00 := (hq 0 (by omega)).2 0 _ rfl
      have hspot : a.spot = none := by simpa [Addr.add] using World.cell?_spot h00
      refine ⟨some a, cap, rfl, ⟨by rw [htl]; exact hl, by unfold maxLen at hm; omega⟩, fun _ => ⟨a.block, a.off, ?_, ?_, fun i hi => ?_⟩⟩
      · obtain ⟨b, o, s⟩ := a
        simp only at hspot
        subst hspot; rfl
      · rw [plain_addr hspot] at h00
        exact World.block_lt_of_cell? W ⟨a.block, _, none⟩ h00
      · rw [htl] at hi
        have := hq i hi
        simp only [plain_addr hspot] at this
        simp only [List.getElem_map, List.getElem_range]
        refine ⟨this.1, fun j u hu => ?_⟩
        rw [Nat.add_assoc]
        exact this.2 j u hu
end Go.Proofs.YtimbhamdblganaaDoor
