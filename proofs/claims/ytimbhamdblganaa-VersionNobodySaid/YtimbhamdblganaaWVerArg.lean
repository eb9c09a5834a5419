/-
  Slices of sets, of integers, and of policies as arguments of a row: opened.
-/
import Derived.OwnWalk
import Derived.Laws.AppendOwnNone
import Derived.ProofKit
import Derived.OpenShut
import Derived.Deep.DeepHandedRow
import Derived.LaidMore
import Derived.Stop.Joined
import Derived.Deep.Slices
import Derived.RangeFuncNested
import Derived.RangeFuncBound
import Derived.RangeFuncCalls
import Derived.RangeFuncLeaves
import Derived.RangeFuncBox
import Derived.RangeFuncWrites
import Derived.Shelf.Abstract
import Derived.Shelf.RegionOpen
import Derived.WalkKit
import Derived.OwnWalkIn
import Derived.TacticsInMore
import Derived.LoopNIn
import Derived.LoopIn
import Derived.Maps.AppendAt
import Derived.Deep.WholeRow
import Derived.ChangeKeysEq
import Derived.Laws.Rows
import Derived.Outline
import Derived.Lib.ItoaNum
import Derived.Lib.Join
import Derived.Lib.AtoiAll
import Derived.Lib.Bytealg
import Derived.OneCell
import Derived.Deep.DeepCutAuto
import Derived.Lib.QuietBelow
import Derived.Test.YtimbhamdblganaaWPlainArg
import Derived.Test.YtimbhamdblganaaWByteArg
import Derived.Test.YtimbhamdblganaaWBlk
import Derived.Test.YtimbhamdblganaaWRelA
import Derived.Test.YtimbhamdblganaaWLabA
import Derived.Test.YtimbhamdblganaaWTagL
import Derived.Test.YtimbhamdblganaaWFactsT
import Derived.Test.YtimbhamdblganaaWBitsM
import Derived.Test.YtimbhamdblganaaWInvM
import Derived.Test.YtimbhamdblganaaWPolC
import Derived.Test.YtimbhamdblganaaWPolD
import Derived.Test.YtimbhamdblganaaWMid
import Derived.Test.YtimbhamdblganaaWPolU
import Derived.Test.YtimbhamdblganaaWPolT
import Derived.Test.YtimbhamdblganaaWArr
import Derived.Test.YtimbhamdblganaaWTagA
import Derived.Test.YtimbhamdblganaaWStage
import Derived.Test.YtimbhamdblganaaWPolS
import Derived.Test.YtimbhamdblganaaWVerC
/-! VerArg -/
namespace Go.Proofs.Ytimbhamdblganaa
open Go.ChangeShapes Go.WideShapes Go.ChangeAt Go.RowKit Go.Deep

theorem u16V_of_wf {z : Int} (h : (Lit.int .u16 z).wf = true) : ∃ n : Nat, z = (n : Int) ∧ n < 65536 := by
  have b1 : IntKind.u16.min = 0 := rfl
  have b2 : IntKind.u16.max = 65535 := rfl
  simp only [Lit.wf, Bool.and_eq_true, decide_eq_true_eq] at h
  exact ⟨z.toNat, by omega, by omega⟩
theorem cellsU16V : Try.prog.cellsOf 27 = 1 := by kernel_rfl
theorem cellsIntV : Try.prog.cellsOf 3 = 1 := by kernel_rfl
set_option maxRecDepth 100000 in
set_option maxHeartbeats 1600000 in
theorem u16s_of_arg {H : Type} {enc : TypeId × Value → H} {W : World} {a0 : Option Addr} {len cap : Nat} {d : DataW H} {p : List MemPlace}
    (h : DataW.Trod enc Try.prog W 0 (fun _ => true) true 22 (.slice a0 len cap) d p) : ∃ l : List Nat, l.length = len ∧ (∀ x ∈ l, x < 65536) ∧ U16sV W (.slice a0 l.length cap) l := by
  obtain ⟨fuel, hf⟩ := h
  rcases open_slice Try.underlying22 hf with ⟨hcs, hx⟩ | ⟨a, len', cap', m, n, D, Pl, hcs, hb, hl, hm, hmm, hx, hi⟩
  · simp [Value.cells] at hcs
    obtain ⟨rfl, rfl, rfl⟩ := hcs
    exact ⟨[], rfl, (fun _ h => by cases h), none, 0, rfl, by simp, fun h => absurd rfl h⟩
  · simp [Value.cells] at hcs
    obtain ⟨rfl, rfl, rfl⟩ := hcs
    simp only [if_true] at hmm
    have each : ∀ i, i < len → ∃ q : Nat, q < 65536 ∧ W.cell? (a.add i) = some (.int .u16 (q : Int)) := by
      intro i hil
      obtain ⟨cs', h1, h2⟩ := hi i (by omega)
      rw [cellsU16V, Nat.mul_one] at h1
      obtain ⟨_, hlen, hcell⟩ := World.cells?_some h1
      obtain ⟨z, e0, _, wz⟩ := DataW.trod_int Try.underlying27 h2
      obtain ⟨k, rfl, hk⟩ := u16V_of_wf wz
      have hc := hcell 0 (by omega)
      rw [add_add, e0, Nat.add_zero] at hc
      exact ⟨k, hk, by rw [hc]; simp⟩
    obtain ⟨q, hq⟩ := choose_parts (0 : Nat) each
    have htl : ((List.range len).map q).length = len := by simp
    refine ⟨(List.range len).map q, htl, fun x hx => ?_, ?_⟩
    · obtain ⟨i, hi2, rfl⟩ := List.mem_map.1 hx
      exact (hq i (List.mem_range.1 hi2)).1
    by_cases hl0 : len = 0
    · subst hl0
      exact ⟨some a, cap, rfl, by simp, fun h => absurd rfl h⟩
    · have h00 := (hq 0 (by omega)).2
      have hspot : a.spot = none := by simpa [Addr.add] using World.cell?_spot h00
      refine ⟨some a, cap, rfl, by rw [htl]; unfold maxLen at hm; omega, fun _ => ⟨a.block, a.off, ?_, ?_, fun i hi => ?_⟩⟩
      · obtain ⟨b, o, s⟩ := a
        simp only at hspot
        subst hspot; rfl
      · rw [plain_addr hspot] at h00
        exact World.block_lt_of_cell? W ⟨a.block, _, none⟩ h00
      · rw [htl] at hi
        have := (hq i hi).2
        simp only [plain_addr hspot] at this
        simp only [List.getElem_map, List.getElem_range]
        exact this
set_option maxRecDepth 100000 in
set_option maxHeartbeats 1600000 in
theorem intsR_of_arg {H : Type} {enc : TypeId × Value → H} {W : World} {a0 : Option Addr} {len cap : Nat} {d : DataW H} {p : List MemPlace}
    (h : DataW.Trod enc Try.prog W 0 (fun _ => true) true 23 (.slice a0 len cap) d p) : ∃ l : List Int, l.length = len ∧ (∀ x ∈ l, -9223372036854775808 ≤ x ∧ x ≤ 9223372036854775807) ∧ IntsAt W (.slice a0 l.length cap) l := by
  obtain ⟨fuel, hf⟩ := h
  rcases open_slice Try.underlying23 hf with ⟨hcs, hx⟩ | ⟨a, len', cap', m, n, D, Pl, hcs, hb, hl, hm, hmm, hx, hi⟩
  · simp [Value.cells] at hcs
    obtain ⟨rfl, rfl, rfl⟩ := hcs
    exact ⟨[], rfl, (fun _ h => by cases h), none, 0, rfl, by simp, fun h => absurd rfl h⟩
  · simp [Value.cells] at hcs
    obtain ⟨rfl, rfl, rfl⟩ := hcs
    simp only [if_true] at hmm
    have each : ∀ i, i < len → ∃ q : Int, (-9223372036854775808 ≤ q ∧ q ≤ 9223372036854775807) ∧ W.cell? (a.add i) = some (.int .i64 q) := by
      intro i hil
      obtain ⟨cs', h1, h2⟩ := hi i (by omega)
      rw [cellsIntV, Nat.mul_one] at h1
      obtain ⟨_, hlen, hcell⟩ := World.cells?_some h1
      obtain ⟨z, e0, _, wz⟩ := DataW.trod_int Try.underlying3 h2
      have hc := hcell 0 (by omega)
      rw [add_add, e0, Nat.add_zero] at hc
      exact ⟨z, i64_wf wz, by rw [hc]; simp⟩
    obtain ⟨q, hq⟩ := choose_parts (0 : Int) each
    have htl : ((List.range len).map q).length = len := by simp
    refine ⟨(List.range len).map q, htl, fun x hx => ?_, ?_⟩
    · obtain ⟨i, hi2, rfl⟩ := List.mem_map.1 hx
      exact (hq i (List.mem_range.1 hi2)).1
    by_cases hl0 : len = 0
    · subst hl0
      exact ⟨some a, cap, rfl, by simp, fun h => absurd rfl h⟩
    · have h00 := (hq 0 (by omega)).2
      have hspot : a.spot = none := by simpa [Addr.add] using World.cell?_spot h00
      refine ⟨some a, cap, rfl, by rw [htl]; unfold maxLen at hm; omega, fun _ => ⟨a.block, a.off, ?_, fun i hi => ?_⟩⟩
      · obtain ⟨b, o, s⟩ := a
        simp only at hspot
        subst hspot; rfl
      · rw [htl] at hi
        have := (hq i hi).2
        simp only [plain_addr hspot] at this
        rw [this]
        simp [List.getD, hi]
end Go.Proofs.Ytimbhamdblganaa
