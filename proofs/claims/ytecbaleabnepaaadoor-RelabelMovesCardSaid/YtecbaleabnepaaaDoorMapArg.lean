/-
  Maps and slices of pairs as arguments of a row: opened.
-/
import Derived.Test.YtecbaleabnepaaaDoorRelG
import Derived.ProofKit
import Derived.OpenShut
import Derived.Deep.DeepHandedRow
import Derived.LaidMore
import Derived.Stop.Joined
import Derived.Deep.Slices
namespace Go.Proofs.YtecbaleabnepaaaDoor
open Go.ChangeShapes Go.WideShapes Go.ChangeAt Go.RowKit Go.Deep

theorem aCellsMap : Tryd.prog.cellsOf 23 = 16 := by kernel_rfl
theorem aCellsU8 : Tryd.prog.cellsOf 5 = 1 := by kernel_rfl
theorem aCellsPair : Tryd.prog.cellsOf 40 = 2 := by kernel_rfl
theorem aCellsInt : Tryd.prog.cellsOf 3 = 1 := by kernel_rfl

set_option maxRecDepth 100000 in
theorem map_of_arg {H : Type} {enc : TypeId × Value → H} {W : World} {r : Reach} {b0 : Nat} {v : Value} {d : DataW H} {p : List MemPlace}
    (hv : Value.okWide Tryd.prog W r b0 23 v) (h : DataW.Trod enc Tryd.prog W 0 (fun _ => true) true 23 v d p) : ∃ f, MapOk f ∧ v = .agg (mapC f) := by
  unfold Value.okWide at hv
  rw [Tryd.underlying23] at hv
  obtain ⟨cs, rfl, hs, -⟩ := hv
  rw [aCellsMap] at hs
  obtain ⟨fuel, hf⟩ := h
  obtain ⟨xs, m, -, -, -, hxl, hx⟩ := DataW.trod_array Tryd.underlying23 hf
  have each : ∀ i, i < 16 → ∃ q : Nat, q < 256 ∧ cs[i]? = some (.int .u8 (q : Nat)) := by
    intro i hi
    have h1 := hx i hi
    rw [aCellsU8, Nat.mul_one, List.getElem?_eq_getElem (by omega)] at h1
    have h2 : (((Value.agg cs).cells.toList.drop i).take 1) = [cs[i]'(by omega)] := by
      have hl : i < cs.toList.length := by simp; omega
      show (cs.toList.drop i).take 1 = _
      rw [List.drop_eq_getElem_cons hl]
      simp
    rw [h2] at h1
    obtain ⟨z, e0, _, wz⟩ := DataW.trod_int Tryd.underlying5 h1
    have bz := bounds_u8 wz
    obtain ⟨n, rfl⟩ := Int.eq_ofNat_of_zero_le bz.1
    refine ⟨n, by omega, ?_⟩
    rw [Array.getElem?_eq_getElem (by omega)]
    simpa using e0
  obtain ⟨q, hq⟩ := choose_lt each
  exact ⟨q, fun t ht => (hq t ht).1, by rw [mapC_of hs fun t ht => (hq t ht).2]⟩

set_option maxRecDepth 100000 in
theorem pairs_of_arg {H : Type} {enc : TypeId × Value → H} {W : World} {a0 : Option Addr} {len cap : Nat} {d : DataW H} {p : List MemPlace}
    (h : DataW.Trod enc Tryd.prog W 0 (fun _ => true) true 24 (.slice a0 len cap) d p) : ∃ l : List (Int × Int), l.length = len ∧ (l.length ≤ 40 → PairsAt W (.slice a0 l.length cap) l) := by
  obtain ⟨fuel, hf⟩ := h
  rcases open_slice Tryd.underlying24 hf with ⟨hcs, hx⟩ | ⟨a, len', cap', m, n, D, Pl, hcs, hb, hl, hm, hmm, hx, hi⟩
  · simp [Value.cells] at hcs
    obtain ⟨rfl, rfl, rfl⟩ := hcs
    exact ⟨[], rfl, fun _ => ⟨none, 0, rfl, by simp, by simp, fun h => absurd rfl h⟩⟩
  · simp [Value.cells] at hcs
    obtain ⟨rfl, rfl, rfl⟩ := hcs
    simp only [if_true] at hmm
    have each : ∀ i, i < len → ∃ q : Int × Int, W.cell? (a.add (i * 2)) = some (.int .i64 q.1) ∧ W.cell? (a.add (i * 2 + 1)) = some (.int .i64 q.2) := by
      intro i hil
      obtain ⟨cs', h1, h2⟩ := hi i (by omega)
      rw [aCellsPair] at h1
      obtain ⟨_, hlen, hcell⟩ := World.cells?_some h1
      obtain ⟨xs, k, _, _, _, hxl, hxx⟩ := DataW.trod_array Tryd.underlying40 h2
      match cs', hlen with
      | [v0, v1], _ =>
        have g0 := hxx 0 (by decide)
        have g1 := hxx 1 (by decide)
        rw [aCellsInt, List.getElem?_eq_getElem (by omega)] at g0 g1
        simp at g0 g1
        obtain ⟨x, e0, _, _⟩ := DataW.trod_int Tryd.underlying3 g0
        obtain ⟨y, e1, _, _⟩ := DataW.trod_int Tryd.underlying3 g1
        simp at e0 e1
        have c0 := hcell 0 (by omega)
        have c1 := hcell 1 (by omega)
        rw [add_add] at c0 c1
        exact ⟨(x, y), by rw [← e0]; simpa using c0, by rw [← e1]; simpa using c1⟩
    obtain ⟨q, hq⟩ := choose_lt each
    have htl : ((List.range len).map fun i => ((q i).1, (q i).2)).length = len := by simp
    refine ⟨(List.range len).map fun i => ((q i).1, (q i).2), htl, fun h40 => ?_⟩
    rw [htl] at h40
    by_cases hl0 : len = 0
    · subst hl0
      exact ⟨some a, cap, rfl, by simp, by simp, fun h => absurd rfl h⟩
    · obtain ⟨b, off, spot⟩ := a
      have hspot : spot = none := by simpa [Addr.add] using World.cell?_spot (hq 0 (by omega)).1
      subst hspot
      refine ⟨_, cap, rfl, by rw [htl]; omega, by rw [htl]; exact hl, fun _ => ⟨b, off, rfl, ?_, fun i hi => ?_⟩⟩
      · have := (hq 0 (by omega)).1
        rw [add_plain] at this
        exact block_lt_of_cell this
      · rw [htl] at hi
        obtain ⟨h0, h1⟩ := hq i hi
        rw [add_plain] at h0 h1
        simp only [List.getElem_map, List.getElem_range]
        exact ⟨h0, h1⟩

end Go.Proofs.YtecbaleabnepaaaDoor
