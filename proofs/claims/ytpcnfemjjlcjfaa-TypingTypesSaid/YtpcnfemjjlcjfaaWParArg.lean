/-
  Slices of nodes as arguments of a row: opened.
-/
import Derived.Test.YtpcnfemjjlcjfaaWByteArg
import Derived.Test.YtpcnfemjjlcjfaaWParC
/-! ParArg -/
namespace Go.Proofs.Ytpcnfemjjlcjfaa
open Go.ChangeShapes Go.WideShapes Go.ChangeAt Go.RowKit Go.Deep

theorem ndCellsInt : Try.prog.cellsOf 3 = 1 := by kernel_rfl
theorem ndCellsNod : Try.prog.cellsOf 36 = 2 := by kernel_rfl
theorem nd_int_cell {H : Type} {enc : TypeId × Value → H} {W : World} {fuel : Nat} {L : List Value} {y : DataW H × List MemPlace} {j : Nat} (hj : j < L.length) (h : DataW.trod enc Try.prog W 0 (fun _ => true) true fuel 3 ((L.drop j).take (Try.prog.cellsOf 3)) = some y) : ∃ n : Int, (-9223372036854775808 ≤ n ∧ n ≤ 9223372036854775807) ∧ L[j]? = some (.int .i64 n) := by
  rw [ndCellsInt, show (L.drop j).take 1 = [L[j]] by rw [List.drop_eq_getElem_cons hj]; rfl] at h
  obtain ⟨z, e, _, wz⟩ := DataW.trod_int Try.underlying3 h
  refine ⟨z, i64_wf wz, ?_⟩
  rw [List.getElem?_eq_getElem hj]
  simpa using e
set_option maxRecDepth 100000 in
set_option maxHeartbeats 1600000 in
theorem nod_of_cells {H : Type} {enc : TypeId × Value → H} {W : World} {fuel : Nat} {L : List Value} {y : DataW H × List MemPlace} (hL : L.length = 2)
    (h : DataW.trod enc Try.prog W 0 (fun _ => true) true fuel 36 L = some y) : ∃ c, IntQ c ∧ L = (nodC c).toList := by
  obtain ⟨xs, k, _, _, _, hxl, hxx⟩ := DataW.trod_struct Try.underlying36 h
  match L, hL with
  | [v0, v1], _ =>
    match xs, hxl with
    | [y0, y1], _ =>
      have g0 : DataW.trod enc Try.prog W 0 (fun _ => true) true k 3 ((([v0, v1] : List Value).drop 0).take (Try.prog.cellsOf 3)) = some y0 := hxx 0 _ rfl
      have g1 : DataW.trod enc Try.prog W 0 (fun _ => true) true k 3 ((([v0, v1] : List Value).drop 1).take (Try.prog.cellsOf 3)) = some y1 := hxx 1 _ rfl
      obtain ⟨kd, k1, ek⟩ := nd_int_cell (by show 0 < 2; decide) g0
      obtain ⟨n, n1, en⟩ := nd_int_cell (by show 1 < 2; decide) g1
      simp at ek en
      refine ⟨⟨kd, n⟩, ⟨k1, n1⟩, ?_⟩
      rw [ek, en]
      rfl
set_option maxRecDepth 100000 in
set_option maxHeartbeats 1600000 in
theorem nods_of_arg {H : Type} {enc : TypeId × Value → H} {W : World} {a0 : Option Addr} {len cap : Nat} {d : DataW H} {p : List MemPlace}
    (h : DataW.Trod enc Try.prog W 0 (fun _ => true) true 28 (.slice a0 len cap) d p) : ∃ l : List Qn, l.length = len ∧ NodesAt W (.slice a0 l.length cap) l ∧ ∀ x ∈ l, IntQ x := by
  obtain ⟨fuel, hf⟩ := h
  rcases open_slice Try.underlying28 hf with ⟨hcs, hx⟩ | ⟨a, len', cap', m, n, D, Pl, hcs, hb, hl, hm, hmm, hx, hi⟩
  · simp [Value.cells] at hcs
    obtain ⟨rfl, rfl, rfl⟩ := hcs
    exact ⟨[], rfl, SlAt.nil W, fun x hx => by cases hx⟩
  · simp [Value.cells] at hcs
    obtain ⟨rfl, rfl, rfl⟩ := hcs
    simp only [if_true] at hmm
    have each : ∀ i, i < len → ∃ q : Qn, IntQ q ∧ ∀ j u, (nodC q)[j]? = some u → W.cell? (a.add (i * 2 + j)) = some u := by
      intro i hil
      obtain ⟨cs', h1, h2⟩ := hi i (by omega)
      rw [ndCellsNod] at h1
      obtain ⟨_, hlen, hcell⟩ := World.cells?_some h1
      obtain ⟨c, hc, he⟩ := nod_of_cells hlen h2
      refine ⟨c, hc, fun j u hu => ?_⟩
      have hj : j < 2 := by have := (Array.getElem?_eq_some_iff.1 hu).1; rw [nodC_size] at this; exact this
      have c1 := hcell j (by omega)
      rw [add_add] at c1
      rw [c1, he, ← hu, Array.getElem?_toList]
    obtain ⟨q, hq⟩ := choose_parts ⟨0, 0⟩ each
    have htl : ((List.range len).map q).length = len := by simp
    refine ⟨(List.range len).map q, htl, ?_, fun x hx => ?_⟩
    · by_cases hl0 : len = 0
      · subst hl0
        exact ⟨some a, cap, rfl, ⟨hl, by unfold maxLen at hm; omega⟩, fun h => absurd rfl h⟩
      · have h00 := (hq 0 (by omega)).2 0 _ rfl
        have hspot : a.spot = none := by simpa [Addr.add] using World.cell?_spot h00
        refine ⟨some a, cap, rfl, ⟨by rw [htl]; exact hl, by unfold maxLen at hm; omega⟩, fun _ => ⟨a.block, a.off, ?_, ?_, fun i hi => ?_⟩⟩
        · obtain ⟨b, o, s⟩ := a
          simp only at hspot
          subst hspot; rfl
        · rw [plain_addr hspot] at h00
          exact World.block_lt_of_cell? W ⟨a.block, _, none⟩ h00
        · rw [htl] at hi
          have := hq i hi
          simp only [plain_addr hspot] at this
          simp only [List.getElem_map, List.getElem_range]
          refine ⟨trivial, fun j u hu => ?_⟩
          rw [Nat.add_assoc]
          exact this.2 j u hu
    · obtain ⟨i, hi, rfl⟩ := List.mem_map.1 hx
      exact (hq i (List.mem_range.1 hi)).1
end Go.Proofs.Ytpcnfemjjlcjfaa
