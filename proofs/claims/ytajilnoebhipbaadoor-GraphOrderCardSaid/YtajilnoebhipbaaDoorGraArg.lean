/-
  Graphs, and two graphs with three sets, as arguments of a row: opened.
-/
import Derived.Test.YtajilnoebhipbaaDoorPlainArg
import Derived.Test.YtajilnoebhipbaaDoorFrmArg
import Derived.Test.YtajilnoebhipbaaDoorLawGLess
namespace Go.Proofs.YtajilnoebhipbaaDoor
open Go.ChangeShapes Go.WideShapes Go.ChangeAt Go.RowKit Go.Deep

theorem aCellsGr : Tryd.prog.cellsOf 23 = 16 := by kernel_rfl
theorem aCellsSet : Tryd.prog.cellsOf 22 = 1 := by kernel_rfl
theorem aCellsTwo : Tryd.prog.cellsOf 32 = 35 := by kernel_rfl
theorem pick_lt {P : Nat → Nat → Prop} : ∀ {n : Nat}, (∀ i, i < n → ∃ q, P i q) → ∃ f : Nat → Nat, ∀ i, i < n → P i (f i)
  | 0, _ => ⟨fun _ => 0, fun i hi => by omega⟩
  | n + 1, h => by
    obtain ⟨f, hf⟩ := pick_lt (n := n) fun i hi => h i (by omega)
    obtain ⟨q, hq⟩ := h n (by omega)
    refine ⟨fun i => if i = n then q else f i, fun i hi => ?_⟩
    by_cases e : i = n
    · subst e; simpa using hq
    · simp only [if_neg e]; exact hf i (by omega)
/-- Sixteen cells that are read as sets. -/
theorem gr_of_cells {H : Type} {enc : TypeId × Value → H} {W : World} {fuel : Nat} {L : List Value} {y : DataW H × List MemPlace} (hL : L.length = 16)
    (h : DataW.trod enc Tryd.prog W 0 (fun _ => true) true fuel 23 L = some y) : ∃ f : Nat → Nat, ∀ i, i < 16 → f i < 65536 ∧ L[i]? = some (.int .u16 (f i : Nat)) := by
  obtain ⟨xs, m, -, -, -, hxl, hx⟩ := DataW.trod_array Tryd.underlying23 h
  refine pick_lt (P := fun i q => q < 65536 ∧ L[i]? = some (.int .u16 (q : Nat))) fun i hi => ?_
  have h1 := hx i hi
  rw [aCellsSet, Nat.mul_one, List.getElem?_eq_getElem (by omega)] at h1
  have hl : i < L.length := by omega
  have h2 : ((L.drop i).take 1) = [L[i]] := by
    rw [List.drop_eq_getElem_cons hl]; rfl
  rw [h2] at h1
  obtain ⟨z, e0, _, wz⟩ := DataW.trod_int Tryd.underlying22 h1
  obtain ⟨n, rfl, hn⟩ := u16_of_wf wz
  refine ⟨n, hn, ?_⟩
  rw [List.getElem?_eq_getElem hl]
  simpa using e0
theorem grC_of {cs : Array Value} (hs : cs.size = 16) {f : Nat → Nat} (h : ∀ i, i < 16 → cs[i]? = some (.int .u16 (f i : Nat))) : cs = grC f := by
  apply Array.ext_getElem?
  intro i
  by_cases hi : i < 16
  · rw [h i hi, grC_get f hi]
  · rw [Array.getElem?_eq_none (by omega), Array.getElem?_eq_none (by rw [grC_size]; omega)]
set_option maxRecDepth 100000 in
theorem gr_of_arg {H : Type} {enc : TypeId × Value → H} {W : World} {r : Reach} {b0 : Nat} {v : Value} {d : DataW H} {p : List MemPlace}
    (hv : Value.okWide Tryd.prog W r b0 23 v) (h : DataW.Trod enc Tryd.prog W 0 (fun _ => true) true 23 v d p) : ∃ f, GrOk f ∧ v = .agg (grC f) := by
  unfold Value.okWide at hv
  rw [Tryd.underlying23] at hv
  obtain ⟨cs, rfl, hs, -⟩ := hv
  rw [aCellsGr] at hs
  obtain ⟨fuel, hf⟩ := h
  obtain ⟨f, hf⟩ := gr_of_cells (L := (Value.agg cs).cells.toList) (by show cs.toList.length = 16; simpa using hs) hf
  have e : cs = grC f := grC_of hs fun i hi => by rw [← Array.getElem?_toList]; exact (hf i hi).2
  exact ⟨f, fun t ht => (hf t ht).1, by rw [e]⟩
set_option maxRecDepth 100000 in
set_option maxHeartbeats 1600000 in
theorem two_of_arg {H : Type} {enc : TypeId × Value → H} {W : World} {r : Reach} {b0 : Nat} {v : Value} {d : DataW H} {p : List MemPlace}
    (hv : Value.okWide Tryd.prog W r b0 32 v) (h : DataW.Trod enc Tryd.prog W 0 (fun _ => true) true 32 v d p) :
    ∃ f g s X L, GrOk f ∧ GrOk g ∧ s < 65536 ∧ X < 65536 ∧ L < 65536 ∧ v = .agg (twoC f g s X L) := by
  obtain ⟨cs, rfl, hsz⟩ := okWide_struct Tryd.underlying32 hv
  rw [aCellsTwo] at hsz
  obtain ⟨fuel, hf⟩ := h
  obtain ⟨xs, k, _, _, _, hxl, hxx⟩ := DataW.trod_struct Tryd.underlying32 hf
  have hl : (Value.agg cs).cells.toList.length = 35 := by show cs.toList.length = 35; simpa using hsz
  generalize hL : (Value.agg cs).cells.toList = L at *
  match xs, hxl with
  | [y0, y1, y2, y3, y4], _ =>
    have g0 : DataW.trod enc Tryd.prog W 0 (fun _ => true) true k 23 ((L.drop 0).take (Tryd.prog.cellsOf 23)) = some y0 := hxx 0 _ rfl
    have g1 : DataW.trod enc Tryd.prog W 0 (fun _ => true) true k 23 ((L.drop 16).take (Tryd.prog.cellsOf 23)) = some y1 := hxx 1 _ rfl
    have g2 : DataW.trod enc Tryd.prog W 0 (fun _ => true) true k 22 ((L.drop 32).take (Tryd.prog.cellsOf 22)) = some y2 := hxx 2 _ rfl
    have g3 : DataW.trod enc Tryd.prog W 0 (fun _ => true) true k 22 ((L.drop 33).take (Tryd.prog.cellsOf 22)) = some y3 := hxx 3 _ rfl
    have g4 : DataW.trod enc Tryd.prog W 0 (fun _ => true) true k 22 ((L.drop 34).take (Tryd.prog.cellsOf 22)) = some y4 := hxx 4 _ rfl
    rw [aCellsGr] at g0 g1
    rw [aCellsSet] at g2 g3 g4
    obtain ⟨f, hf0⟩ := gr_of_cells (by rw [List.length_take, List.length_drop]; omega) g0
    obtain ⟨g, hg0⟩ := gr_of_cells (by rw [List.length_take, List.length_drop]; omega) g1
    have one : ∀ j (hj : j < 35), (L.drop j).take 1 = [L[j]] := fun j hj => by
      rw [List.drop_eq_getElem_cons (show j < L.length by omega)]; rfl
    rw [one 32 (by omega)] at g2
    rw [one 33 (by omega)] at g3
    rw [one 34 (by omega)] at g4
    obtain ⟨z2, e2, _, w2⟩ := DataW.trod_int Tryd.underlying22 g2
    obtain ⟨z3, e3, _, w3⟩ := DataW.trod_int Tryd.underlying22 g3
    obtain ⟨z4, e4, _, w4⟩ := DataW.trod_int Tryd.underlying22 g4
    obtain ⟨s, rfl, hs⟩ := u16_of_wf w2
    obtain ⟨X, rfl, hX⟩ := u16_of_wf w3
    obtain ⟨M, rfl, hM⟩ := u16_of_wf w4
    simp only [List.cons.injEq, and_true] at e2 e3 e4
    refine ⟨f, g, s, X, M, fun t ht => (hf0 t ht).1, fun t ht => (hg0 t ht).1, hs, hX, hM, ?_⟩
    congr 1
    apply Array.ext_getElem?
    intro i
    have hLi : cs[i]? = L[i]? := by rw [← hL]; exact (Array.getElem?_toList).symm
    rw [hLi]
    by_cases h0 : i < 16
    · have h1 := (hf0 i h0).2
      rw [List.getElem?_take, if_pos h0, List.getElem?_drop, Nat.zero_add] at h1
      rw [h1]
      have := two_f f g s X M h0
      rw [Nat.zero_add] at this
      exact this.symm
    · by_cases h1 : i < 32
      · obtain ⟨j, rfl⟩ : ∃ j, i = 16 + j := ⟨i - 16, by omega⟩
        have h2 := (hg0 j (by omega)).2
        rw [List.getElem?_take, if_pos (by omega), List.getElem?_drop] at h2
        rw [h2]
        exact (two_h f g s X M (by omega)).symm
      · obtain ⟨t2, t3, t4⟩ := two_s f g s X M
        by_cases h3 : i < 35
        · have hc : i = 32 ∨ i = 33 ∨ i = 34 := by omega
          rcases hc with rfl | rfl | rfl
          · rw [t2, List.getElem?_eq_getElem (by omega), e2]
          · rw [t3, List.getElem?_eq_getElem (by omega), e3]
          · rw [t4, List.getElem?_eq_getElem (by omega), e4]
        · rw [List.getElem?_eq_none (by omega), Array.getElem?_eq_none (by unfold twoC; simp [grC_size]; omega)]
end Go.Proofs.YtajilnoebhipbaaDoor
