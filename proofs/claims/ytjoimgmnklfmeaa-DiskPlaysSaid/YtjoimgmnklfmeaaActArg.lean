/-
  Slices of forepeakref07.Act as arguments of a row: opened.
-/
import Derived.Test.YtjoimgmnklfmeaaActA
import Derived.Test.YtjoimgmnklfmeaaByteArg
namespace Go.Proofs.Ytjoimgmnklfmeaa
open Go.ChangeShapes Go.WideShapes Go.ChangeAt Go.RowKit Go.Deep

theorem cellsAct : Try.prog.cellsOf 35 = 5 := by kernel_rfl
theorem cellsAct_0 : Try.prog.cellsOf 5 = 1 := by kernel_rfl
theorem cellsAct_1 : Try.prog.cellsOf 3 = 1 := by kernel_rfl
theorem cellsAct_2 : Try.prog.cellsOf 33 = 1 := by kernel_rfl
set_option maxRecDepth 100000 in
set_option maxHeartbeats 1600000 in
theorem acts_of_arg {H : Type} {enc : TypeId × Value → H} {W : World} {a0 : Option Addr} {len cap : Nat} {d : DataW H} {p : List MemPlace}
    (h : DataW.Trod enc Try.prog W 0 (fun _ => true) true 22 (.slice a0 len cap) d p) : ∃ l : List ActM, l.length = len ∧ ActsAt W (.slice a0 l.length cap) l := by
  obtain ⟨fuel, hf⟩ := h
  rcases open_slice Try.underlying22 hf with ⟨hcs, hx⟩ | ⟨a, len', cap', m, n, D, Pl, hcs, hb, hl, hm, hmm, hx, hi⟩
  · simp [Value.cells] at hcs
    obtain ⟨rfl, rfl, rfl⟩ := hcs
    exact ⟨[], rfl, none, 0, rfl, by simp, fun h => absurd rfl h⟩
  · simp [Value.cells] at hcs
    obtain ⟨rfl, rfl, rfl⟩ := hcs
    simp only [if_true] at hmm
    have each : ∀ i, i < len → ∃ q : ActM, q.Ok ∧ W.cell? (a.add (i * 5)) = some (.int .u8 q.kd) ∧ W.cell? (a.add (i * 5 + 1)) = some (.int .i64 q.i) ∧ W.cell? (a.add (i * 5 + 2)) = some (.int .i64 q.kp) ∧ W.cell? (a.add (i * 5 + 3)) = some (.int .u8 q.b) ∧ W.cell? (a.add (i * 5 + 4)) = some (.int .i8 q.sz) := by
      intro i hil
      obtain ⟨cs', h1, h2⟩ := hi i (by omega)
      rw [cellsAct] at h1
      obtain ⟨_, hlen, hcell⟩ := World.cells?_some h1
      obtain ⟨xs, k, _, _, _, hxl, hxx⟩ := DataW.trod_struct Try.underlying35 h2
      match cs', hlen with
      | [v0, v1, v2, v3, v4], _ =>
        match xs, hxl with
        | [y0, y1, y2, y3, y4], _ =>
          have g0 : DataW.trod enc Try.prog W 0 (fun _ => true) true k 5 ((([v0, v1, v2, v3, v4] : List Value).drop 0).take (Try.prog.cellsOf 5)) = some y0 := hxx 0 _ rfl
          rw [cellsAct_0] at g0
          have g1 : DataW.trod enc Try.prog W 0 (fun _ => true) true k 3 ((([v0, v1, v2, v3, v4] : List Value).drop 1).take (Try.prog.cellsOf 3)) = some y1 := hxx 1 _ rfl
          rw [cellsAct_1] at g1
          have g2 : DataW.trod enc Try.prog W 0 (fun _ => true) true k 3 ((([v0, v1, v2, v3, v4] : List Value).drop 2).take (Try.prog.cellsOf 3)) = some y2 := hxx 2 _ rfl
          rw [cellsAct_1] at g2
          have g3 : DataW.trod enc Try.prog W 0 (fun _ => true) true k 5 ((([v0, v1, v2, v3, v4] : List Value).drop 3).take (Try.prog.cellsOf 5)) = some y3 := hxx 3 _ rfl
          rw [cellsAct_0] at g3
          have g4 : DataW.trod enc Try.prog W 0 (fun _ => true) true k 33 ((([v0, v1, v2, v3, v4] : List Value).drop 4).take (Try.prog.cellsOf 33)) = some y4 := hxx 4 _ rfl
          rw [cellsAct_2] at g4
          simp at g0 g1 g2 g3 g4
          obtain ⟨x0, e0, _, wx0⟩ := DataW.trod_int Try.underlying5 g0
          obtain ⟨x1, e1, _, wx1⟩ := DataW.trod_int Try.underlying3 g1
          obtain ⟨x2, e2, _, wx2⟩ := DataW.trod_int Try.underlying3 g2
          obtain ⟨x3, e3, _, wx3⟩ := DataW.trod_int Try.underlying5 g3
          obtain ⟨x4, e4, _, wx4⟩ := DataW.trod_int Try.underlying33 g4
          simp at e0 e1 e2 e3 e4
          have c0 := hcell 0 (by omega)
          have c1 := hcell 1 (by omega)
          have c2 := hcell 2 (by omega)
          have c3 := hcell 3 (by omega)
          have c4 := hcell 4 (by omega)
          rw [add_add] at c0 c1 c2 c3 c4
          have w0 : 0 ≤ x0 ∧ x0 ≤ 255 := by
            have b1 : IntKind.u8.min = 0 := rfl
            have b2 : IntKind.u8.max = 255 := rfl
            simp only [Lit.wf, Bool.and_eq_true, decide_eq_true_eq] at wx0
            omega
          have w1 : -9223372036854775808 ≤ x1 ∧ x1 ≤ 9223372036854775807 := by
            have b1 : IntKind.i64.min = -9223372036854775808 := rfl
            have b2 : IntKind.i64.max = 9223372036854775807 := rfl
            simp only [Lit.wf, Bool.and_eq_true, decide_eq_true_eq] at wx1
            omega
          have w2 : -9223372036854775808 ≤ x2 ∧ x2 ≤ 9223372036854775807 := by
            have b1 : IntKind.i64.min = -9223372036854775808 := rfl
            have b2 : IntKind.i64.max = 9223372036854775807 := rfl
            simp only [Lit.wf, Bool.and_eq_true, decide_eq_true_eq] at wx2
            omega
          have w3 : 0 ≤ x3 ∧ x3 ≤ 255 := by
            have b1 : IntKind.u8.min = 0 := rfl
            have b2 : IntKind.u8.max = 255 := rfl
            simp only [Lit.wf, Bool.and_eq_true, decide_eq_true_eq] at wx3
            omega
          have w4 : -128 ≤ x4 ∧ x4 ≤ 127 := by
            have b1 : IntKind.i8.min = -128 := rfl
            have b2 : IntKind.i8.max = 127 := rfl
            simp only [Lit.wf, Bool.and_eq_true, decide_eq_true_eq] at wx4
            omega
          exact ⟨⟨x0, x1, x2, x3, x4⟩, ⟨w0, w1, w2, w3, w4⟩, by rw [← e0]; simpa using c0, by rw [← e1]; simpa using c1, by rw [← e2]; simpa using c2, by rw [← e3]; simpa using c3, by rw [← e4]; simpa using c4⟩
    obtain ⟨q, hq⟩ := choose_parts (⟨0, 0, 0, 0, 0⟩ : ActM) each
    have htl : ((List.range len).map q).length = len := by simp
    refine ⟨(List.range len).map q, htl, ?_⟩
    by_cases hl0 : len = 0
    · subst hl0
      exact ⟨some a, cap, rfl, by simp, fun h => absurd rfl h⟩
    · have hspot : a.spot = none := by simpa [Addr.add] using World.cell?_spot (hq 0 (by omega)).2.1
      refine ⟨some a, cap, rfl, by rw [htl]; unfold maxLen at hm; omega, fun _ => ⟨a.block, a.off, ?_, ?_, fun i hi => ?_⟩⟩
      · obtain ⟨b, o, s⟩ := a
        simp only at hspot
        subst hspot; rfl
      · have := (hq 0 (by omega)).2.1
        rw [plain_addr hspot] at this
        exact World.block_lt_of_cell? W ⟨a.block, _, none⟩ this
      · rw [htl] at hi
        have := hq i hi
        simp only [plain_addr hspot] at this
        simp only [List.getElem_map, List.getElem_range]
        simpa only [Nat.add_assoc] using this

end Go.Proofs.Ytjoimgmnklfmeaa
