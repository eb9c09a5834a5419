/-
  Labels and slices of labels as arguments of a row: opened and shut.
-/
import Derived.Test.YtecbaleabnepaaaDoorPair
import Derived.ProofKit
import Derived.OpenShut
import Derived.Deep.DeepHandedRow
import Derived.LaidMore
import Derived.Stop.Joined
import Derived.Lib.SmallJoins
import Derived.Deep.SlicePairs
namespace Go.Proofs.YtecbaleabnepaaaDoor
open Go.ChangeShapes Go.WideShapes Go.ChangeAt Go.RowKit Go.Joins Go.Deep

theorem laidOutL : laidOutB Tryd.prog = true := by kernel_rfl
theorem cellsLab : Tryd.prog.cellsOf 27 = 2 := by kernel_rfl
theorem cellsU16 : Tryd.prog.cellsOf 25 = 1 := by kernel_rfl

set_option maxRecDepth 100000 in
theorem lab_of_arg {H : Type} {enc : TypeId × Value → H} {W : World} {r : Reach} {b0 : Nat} {v : Value} {d : DataW H} {p : List MemPlace}
    (hv : Value.okWide Tryd.prog W r b0 27 v) (h : DataW.Trod enc Tryd.prog W 0 (fun _ => true) true 27 v d p) :
    ∃ a b : Nat, a < 65536 ∧ b < 65536 ∧ v = .agg #[.int .u16 a, .int .u16 b] ∧ d = .agg [.lit (.int .u16 a), .lit (.int .u16 b)] ∧ p = [] := by
  obtain ⟨c0, c1, y0, y1, m, rfl, rfl, rfl, hy0, hy1⟩ := open_agg2 Tryd.underlying27 (by kernel_rfl) cellsLab hv h
  obtain ⟨a, e0, rfl, wa⟩ := DataW.trod_int Tryd.underlying25 hy0
  obtain ⟨b, e1, rfl, wb⟩ := DataW.trod_int Tryd.underlying25 hy1
  simp at e0 e1
  subst e0 e1
  have ba := bounds_u16 wa
  have bb := bounds_u16 wb
  obtain ⟨n, rfl⟩ := Int.eq_ofNat_of_zero_le ba.1
  obtain ⟨k, rfl⟩ := Int.eq_ofNat_of_zero_le bb.1
  exact ⟨n, k, by omega, by omega, rfl, rfl, rfl⟩

theorem u16_wf {a : Nat} (h : a < 65536) : (Lit.int .u16 (a : Int)).wf = true := WalkArith.wf_u16 (by omega)

set_option maxRecDepth 100000 in
theorem lab_shut {H : Type} {enc : TypeId × Value → H} {W : World} {sp : Nat → Bool} {a b : Nat} (ha : a < 65536) (hb : b < 65536) :
    DataW.Trod enc Tryd.prog W 0 sp true 27 (.agg #[.int .u16 a, .int .u16 b]) (.agg [.lit (.int .u16 a), .lit (.int .u16 b)]) [] :=
  shut_agg2 (y0 := (.lit (.int .u16 a), [])) (y1 := (.lit (.int .u16 b), [])) Tryd.underlying27 (by kernel_rfl) cellsLab ⟨1, by simp [DataW.trod, Tryd.underlying25, u16_wf ha]⟩ ⟨1, by simp [DataW.trod, Tryd.underlying25, u16_wf hb]⟩

theorem small_ofFn {n : Nat} {f g : Nat → Nat} (h : ∀ i, i < n → f i < 65536 ∧ g i < 65536) : SmallL ((List.range n).map fun i => (f i, g i)) := by
  intro x hx
  obtain ⟨i, hi, rfl⟩ := List.mem_map.1 hx
  exact h i (List.mem_range.1 hi)

set_option maxRecDepth 100000 in
/-- An argument of type []api.Label, nil or not, holds some labels. -/
theorem labs_of_arg {H : Type} {enc : TypeId × Value → H} {W : World} {a0 : Option Addr} {len cap : Nat} {d : DataW H} {p : List MemPlace}
    (h : DataW.Trod enc Tryd.prog W 0 (fun _ => true) true 57 (.slice a0 len cap) d p) : ∃ l, SmallL l ∧ l.length = len ∧ (l.length ≤ 40 → LabsAt W (.slice a0 l.length cap) l) := by
  obtain ⟨fuel, hf⟩ := h
  rcases open_slice_pairs Tryd.underlying57 Tryd.underlying27 cellsLab rfl rfl cellsU16 cellsU16 hf with ⟨hcs, hx⟩ | ⟨a, len', cap', m, n, V0, V1, D0, D1, P0, P1, hcs, hb, hl, hm, hmm, hx, hi⟩
  · simp [Value.cells] at hcs
    obtain ⟨rfl, rfl, rfl⟩ := hcs
    exact ⟨[], (fun _ h => by cases h), rfl, fun _ => LabsAt.nil W⟩
  · simp [Value.cells] at hcs
    obtain ⟨rfl, rfl, rfl⟩ := hcs
    simp only [if_true] at hmm
    have each : ∀ i, i < len → ∃ q : Nat × Nat, q.1 < 65536 ∧ q.2 < 65536 ∧ W.cell? (a.add (i * 2)) = some (.int .u16 q.1) ∧ W.cell? (a.add (i * 2 + 1)) = some (.int .u16 q.2) := by
      intro i hil
      obtain ⟨h0, h1, t0, t1⟩ := hi i (by omega)
      obtain ⟨x, e0, _, wx⟩ := DataW.trod_int Tryd.underlying25 t0
      obtain ⟨y, e1, _, wy⟩ := DataW.trod_int Tryd.underlying25 t1
      have bx := bounds_u16 wx
      have by' := bounds_u16 wy
      obtain ⟨n, rfl⟩ := Int.eq_ofNat_of_zero_le bx.1
      obtain ⟨k, rfl⟩ := Int.eq_ofNat_of_zero_le by'.1
      simp at e0 e1
      exact ⟨(n, k), by simp; omega, by simp; omega, by rw [h0, e0], by rw [h1, e1]⟩
    obtain ⟨q, hq⟩ := choose_lt each
    have htl : ((List.range len).map fun i => ((q i).1, (q i).2)).length = len := by simp
    refine ⟨(List.range len).map fun i => ((q i).1, (q i).2), small_ofFn fun i hi => ⟨(hq i hi).1, (hq i hi).2.1⟩, htl, fun h40 => ?_⟩
    rw [htl] at h40
    by_cases hl0 : len = 0
    · subst hl0
      exact ⟨some a, cap, rfl, by simp, fun h => absurd rfl h⟩
    · obtain ⟨b, off, spot⟩ := a
      have hspot : spot = none := by simpa [Addr.add] using World.cell?_spot (hq 0 (by omega)).2.2.1
      subst hspot
      refine ⟨_, cap, rfl, by rw [htl]; omega, fun _ => ⟨b, off, rfl, ?_, fun i hi => ?_⟩⟩
      · have := (hq 0 (by omega)).2.2.1
        rw [add_plain] at this
        exact block_lt_of_cell this
      · rw [htl] at hi
        obtain ⟨_, _, h0, h1⟩ := hq i hi
        rw [add_plain] at h0 h1
        simp only [List.getElem_map, List.getElem_range]
        exact ⟨h0, h1⟩

end Go.Proofs.YtecbaleabnepaaaDoor
