/-
  forepeakref07.Act as an argument of a row: opened.
-/
import Derived.Test.YtjoimgmnklfmeaaActArg
namespace Go.Proofs.Ytjoimgmnklfmeaa
open Go.ChangeShapes Go.WideShapes Go.ChangeAt Go.RowKit Go.Deep

set_option maxRecDepth 100000 in
set_option maxHeartbeats 1600000 in
theorem act_of_arg {H : Type} {enc : TypeId × Value → H} {W : World} {r : Reach} {b0 : Nat} {v : Value} {d : DataW H} {p : List MemPlace}
    (hv : Value.okWide Try.prog W r b0 35 v) (h : DataW.Trod enc Try.prog W 0 (fun _ => true) true 35 v d p) : ∃ m : ActM, m.Ok ∧ v = m.value := by
  obtain ⟨cs, rfl, hsz⟩ := okWide_struct Try.underlying35 hv
  rw [cellsAct] at hsz
  obtain ⟨fuel, hf⟩ := h
  obtain ⟨xs, k, _, _, _, hxl, hxx⟩ := DataW.trod_struct Try.underlying35 hf
  obtain ⟨cs⟩ := cs
  match cs, hsz with
  | [v0, v1, v2, v3, v4], _ =>
    match xs, hxl with
    | [y0, y1, y2, y3, y4], _ =>
      have g0 : DataW.trod enc Try.prog W 0 (fun _ => true) true k 5 ((([v0, v1, v2, v3, v4] : List Value).drop 0).take (Try.prog.cellsOf 5)) = some y0 := hxx 0 _ rfl
      rw [cellsAct_0] at g0
      have g1 : DataW.trod enc Try.prog W 0 (fun _ => true) true k 3 ((([v0, v1, v2, v3, v4] : List Value).drop 1).take (Try.prog.cellsOf 3)) = some y1 := hxx 1 _ rfl
      rw [cellsAct_1] at g1
      have g2 : DataW.trod enc Try.prog W 0 (fun _ => true) true k 3 ((([v0, v1, v2, v3, v4] : List Value).drop 2).take (Try.prog.cellsOf 3)) = some y2 := hxx 2 _ rfl
      rw [cellsAct_1] at g2
      have g3 : DataW.trod enc Try.prog W 0 (fun _ => true) true k 5 ((([v0, v1, v2, v3, v4] : List Value).drop 3).take (Try.prog.cellsOf 5)) = some y3 := hxx 3 _ rfl
      rw [cellsAct_0] at g3
      have g4 : DataW.trod enc Try.prog W 0 (fun _ => true) true k 33 ((([v0, v1, v2, v3, v4] : List Value).drop 4).take (Try.prog.cellsOf 33)) = some y4 := hxx 4 _ rfl
      rw [cellsAct_2] at g4
      simp at g0 g1 g2 g3 g4
      obtain ⟨x0, e0, _, wx0⟩ := DataW.trod_int Try.underlying5 g0
      obtain ⟨x1, e1, _, wx1⟩ := DataW.trod_int Try.underlying3 g1
      obtain ⟨x2, e2, _, wx2⟩ := DataW.trod_int Try.underlying3 g2
      obtain ⟨x3, e3, _, wx3⟩ := DataW.trod_int Try.underlying5 g3
      obtain ⟨x4, e4, _, wx4⟩ := DataW.trod_int Try.underlying33 g4
      simp at e0 e1 e2 e3 e4
      have w0 : 0 ≤ x0 ∧ x0 ≤ 255 := by
        have b1 : IntKind.u8.min = 0 := rfl
        have b2 : IntKind.u8.max = 255 := rfl
        simp only [Lit.wf, Bool.and_eq_true, decide_eq_true_eq] at wx0
        omega
      have w1 : -9223372036854775808 ≤ x1 ∧ x1 ≤ 9223372036854775807 := by
        have b1 : IntKind.i64.min = -9223372036854775808 := rfl
        have b2 : IntKind.i64.max = 9223372036854775807 := rfl
        simp only [Lit.wf, Bool.and_eq_true, decide_eq_true_eq] at wx1
        omega
      have w2 : -9223372036854775808 ≤ x2 ∧ x2 ≤ 9223372036854775807 := by
        have b1 : IntKind.i64.min = -9223372036854775808 := rfl
        have b2 : IntKind.i64.max = 9223372036854775807 := rfl
        simp only [Lit.wf, Bool.and_eq_true, decide_eq_true_eq] at wx2
        omega
      have w3 : 0 ≤ x3 ∧ x3 ≤ 255 := by
        have b1 : IntKind.u8.min = 0 := rfl
        have b2 : IntKind.u8.max = 255 := rfl
        simp only [Lit.wf, Bool.and_eq_true, decide_eq_true_eq] at wx3
        omega
      have w4 : -128 ≤ x4 ∧ x4 ≤ 127 := by
        have b1 : IntKind.i8.min = -128 := rfl
        have b2 : IntKind.i8.max = 127 := rfl
        simp only [Lit.wf, Bool.and_eq_true, decide_eq_true_eq] at wx4
        omega
      exact ⟨⟨x0, x1, x2, x3, x4⟩, ⟨w0, w1, w2, w3, w4⟩, by rw [e0, e1, e2, e3, e4]; rfl⟩

end Go.Proofs.Ytjoimgmnklfmeaa
