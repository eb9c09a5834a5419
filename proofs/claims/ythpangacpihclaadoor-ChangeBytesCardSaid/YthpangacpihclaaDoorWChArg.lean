/-
  A change, and slices of changes, as arguments of a row: opened.
-/
import Derived.Test.YthpangacpihclaaDoorW3
import Derived.Test.YthpangacpihclaaDoorWChA
/-! ChArg -/
namespace Go.Proofs.YthpangacpihclaaDoor
open Go.ChangeShapes Go.WideShapes Go.ChangeAt Go.RowKit Go.Deep

theorem cellsChg : Tryd.prog.cellsOf 31 = 5 := by kernel_rfl
set_option maxRecDepth 100000 in
set_option maxHeartbeats 1600000 in
theorem chg_of_cells {H : Type} {enc : TypeId × Value → H} {W : World} {fuel : Nat} {L : List Value} {y : DataW H × List MemPlace} (hL : L.length = 5)
    (h : DataW.trod enc Tryd.prog W 0 (fun _ => true) true fuel 31 L = some y) : ∃ c, CgOk c ∧ L = (chgC c).toList := by
  obtain ⟨xs, k, _, _, _, hxl, hxx⟩ := DataW.trod_struct Tryd.underlying31 h
  match L, hL with
  | [v0, v1, v2, v3, v4], _ =>
    match xs, hxl with
    | [y0, y1, y2, y3], _ =>
      have g0 : DataW.trod enc Tryd.prog W 0 (fun _ => true) true k 3 ((([v0, v1, v2, v3, v4] : List Value).drop 0).take (Tryd.prog.cellsOf 3)) = some y0 := hxx 0 _ rfl
      have g1 : DataW.trod enc Tryd.prog W 0 (fun _ => true) true k 3 ((([v0, v1, v2, v3, v4] : List Value).drop 1).take (Tryd.prog.cellsOf 3)) = some y1 := hxx 1 _ rfl
      have g2 : DataW.trod enc Tryd.prog W 0 (fun _ => true) true k 3 ((([v0, v1, v2, v3, v4] : List Value).drop 2).take (Tryd.prog.cellsOf 3)) = some y2 := hxx 2 _ rfl
      have g3 : DataW.trod enc Tryd.prog W 0 (fun _ => true) true k 24 ((([v0, v1, v2, v3, v4] : List Value).drop 3).take (Tryd.prog.cellsOf 24)) = some y3 := hxx 3 _ rfl
      obtain ⟨kd, k1, k2, ek⟩ := int_of_cell (by show 0 < 5; decide) g0
      obtain ⟨a, a1, a2, ea⟩ := int_of_cell (by show 1 < 5; decide) g1
      obtain ⟨b, b1, b2, eb⟩ := int_of_cell (by show 2 < 5; decide) g2
      rw [pCellsLab] at g3
      obtain ⟨s, i, hs, hi, es, ei⟩ := lab_of_cells (by rfl) g3
      simp at ek ea eb es ei
      refine ⟨⟨kd, a, b, s, i⟩, ⟨⟨k1, k2⟩, ⟨a1, a2⟩, ⟨b1, b2⟩, hs, hi⟩, ?_⟩
      rw [ek, ea, eb, es, ei]
      rfl
set_option maxRecDepth 100000 in
set_option maxHeartbeats 1600000 in
theorem chg_of_arg {H : Type} {enc : TypeId × Value → H} {W : World} {r : Reach} {b0 : Nat} {v : Value} {d : DataW H} {p : List MemPlace}
    (hv : Value.okWide Tryd.prog W r b0 31 v) (h : DataW.Trod enc Tryd.prog W 0 (fun _ => true) true 31 v d p) : ∃ c, CgOk c ∧ v = .agg (chgC c) := by
  obtain ⟨cs, rfl, hsz⟩ := okWide_struct Tryd.underlying31 hv
  rw [cellsChg] at hsz
  obtain ⟨fuel, hf⟩ := h
  obtain ⟨c, hc, he⟩ := chg_of_cells (L := (Value.agg cs).cells.toList) (by show cs.toList.length = 5; simpa using hsz) hf
  refine ⟨c, hc, ?_⟩
  congr 1
  exact Array.toList_inj.1 he
set_option maxRecDepth 100000 in
set_option maxHeartbeats 1600000 in
theorem chs_of_arg {H : Type} {enc : TypeId × Value → H} {W : World} {a0 : Option Addr} {len cap : Nat} {d : DataW H} {p : List MemPlace}
    (h : DataW.Trod enc Tryd.prog W 0 (fun _ => true) true 39 (.slice a0 len cap) d p) : ∃ l : List Cg, l.length = len ∧ ChsAt W (.slice a0 l.length cap) l := by
  obtain ⟨fuel, hf⟩ := h
  rcases open_slice Tryd.underlying39 hf with ⟨hcs, hx⟩ | ⟨a, len', cap', m, n, D, Pl, hcs, hb, hl, hm, hmm, hx, hi⟩
  · simp [Value.cells] at hcs
    obtain ⟨rfl, rfl, rfl⟩ := hcs
    exact ⟨[], rfl, none, 0, rfl, by simp, fun h => absurd rfl h⟩
  · simp [Value.cells] at hcs
    obtain ⟨rfl, rfl, rfl⟩ := hcs
    simp only [if_true] at hmm
    have each : ∀ i, i < len → ∃ q : Cg, CgOk q ∧ ∀ j u, (chgC q)[j]? = some u → W.cell? (a.add (i * 5 + j)) = some u := by
      intro i hil
      obtain ⟨cs', h1, h2⟩ := hi i (by omega)
      rw [cellsChg] at h1
      obtain ⟨_, hlen, hcell⟩ := World.cells?_some h1
      obtain ⟨c, hc, rfl⟩ := chg_of_cells hlen h2
      refine ⟨c, hc, fun j u hu => ?_⟩
      have hj : j < 5 := (Array.getElem?_eq_some_iff.1 hu).1
      have c1 := hcell j (by omega)
      rw [add_add] at c1
      rw [c1, ← hu]
      simp [Array.getElem?_toList]
    obtain ⟨q, hq⟩ := choose_parts (⟨0, 0, 0, 0, 0⟩ : Cg) each
    have htl : ((List.range len).map q).length = len := by simp
    refine ⟨(List.range len).map q, htl, ?_⟩
    by_cases hl0 : len = 0
    · subst hl0
      exact ⟨some a, cap, rfl, by simp, fun h => absurd rfl h⟩
    · have h00 := (hq 0 (by omega)).2 0 _ rfl
      have hspot : a.spot = none := by simpa [Addr.add] using World.cell?_spot h00
      refine ⟨some a, cap, rfl, by rw [htl]; unfold maxLen at hm; omega, fun _ => ⟨a.block, a.off, ?_, ?_, fun i hi => ?_⟩⟩
      · obtain ⟨b, o, s⟩ := a
        simp only at hspot
        subst hspot; rfl
      · rw [plain_addr hspot] at h00
        exact World.block_lt_of_cell? W ⟨a.block, _, none⟩ h00
      · rw [htl] at hi
        have := hq i hi
        simp only [plain_addr hspot] at this
        simp only [List.getElem_map, List.getElem_range]
        simpa only [Nat.add_assoc] using this
end Go.Proofs.YthpangacpihclaaDoor
