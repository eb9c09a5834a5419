/-
  A policy, and a policy with two roles, a label and some roles, as arguments of a row: opened.
-/
import Derived.Test.YtmaachmidgfhdaaGreatDoorRows
import Derived.ProofKit
import Derived.OpenShut
import Derived.Deep.DeepHandedRow
import Derived.LaidMore
import Derived.Stop.Joined
import Derived.Deep.Slices
import Derived.Deep.Fields
import Derived.ChangeSame
import Derived.JoinedOf
import Derived.JoinedAt
import Derived.ChangeMaps
import Derived.DataElems
import Derived.Test.YtmaachmidgfhdaaGreatDoorW1
import Derived.Test.YtmaachmidgfhdaaGreatDoorWFrmArg
import Derived.Test.YtmaachmidgfhdaaGreatDoorW2
import Derived.Test.YtmaachmidgfhdaaGreatDoorW3
/-! PolArg -/
namespace Go.Proofs.YtmaachmidgfhdaaGreatDoor
open Go.ChangeShapes Go.WideShapes Go.ChangeAt Go.RowKit Go.Deep

theorem pCellsActs : Tryz.prog.cellsOf 26 = 16 := by kernel_rfl
theorem pCellsSet : Tryz.prog.cellsOf 22 = 1 := by kernel_rfl
theorem pCellsByte : Tryz.prog.cellsOf 5 = 1 := by kernel_rfl
theorem pCellsOwn : Tryz.prog.cellsOf 27 = 16 := by kernel_rfl
theorem pCellsLab : Tryz.prog.cellsOf 24 = 2 := by kernel_rfl
theorem pCellsLabs : Tryz.prog.cellsOf 25 = 32 := by kernel_rfl
theorem pCellsPol : Tryz.prog.cellsOf 29 = 66 := by kernel_rfl
theorem pick16 {P : Nat → Nat → Prop} : ∀ {n : Nat}, (∀ i, i < n → ∃ q, P i q) → ∃ f : Nat → Nat, ∀ i, i < n → P i (f i)
  | 0, _ => ⟨fun _ => 0, fun i hi => by omega⟩
  | n + 1, h => by
    obtain ⟨f, hf⟩ := pick16 (n := n) fun i hi => h i (by omega)
    obtain ⟨q, hq⟩ := h n (by omega)
    refine ⟨fun i => if i = n then q else f i, fun i hi => ?_⟩
    by_cases e : i = n
    · subst e; simpa using hq
    · simp only [if_neg e]; exact hf i (by omega)
theorem one_cell {L : List Value} {j : Nat} (hj : j < L.length) : (L.drop j).take 1 = [L[j]] := by
  rw [List.drop_eq_getElem_cons hj]; rfl
section
variable {H : Type} {enc : TypeId × Value → H} {W : World} {fuel : Nat} {L : List Value} {y : DataW H × List MemPlace}
theorem set_of_cell {j : Nat} (hj : j < L.length) (h : DataW.trod enc Tryz.prog W 0 (fun _ => true) true fuel 22 ((L.drop j).take (Tryz.prog.cellsOf 22)) = some y) : ∃ n : Nat, n < 65536 ∧ L[j]? = some (.int .u16 (n : Nat)) := by
  rw [pCellsSet, one_cell hj] at h
  obtain ⟨z, e, _, wz⟩ := DataW.trod_int Tryz.underlying22 h
  obtain ⟨n, rfl, hn⟩ := u16_of_wf wz
  refine ⟨n, hn, ?_⟩
  rw [List.getElem?_eq_getElem hj]
  simpa using e
theorem acts_of_cells (hL : L.length = 16) (h : DataW.trod enc Tryz.prog W 0 (fun _ => true) true fuel 26 L = some y) : ∃ f : Nat → Nat, ∀ i, i < 16 → f i < 65536 ∧ L[i]? = some (.int .u16 (f i : Nat)) := by
  obtain ⟨xs, m, -, -, -, hxl, hx⟩ := DataW.trod_array Tryz.underlying26 h
  refine pick16 (P := fun i q => q < 65536 ∧ L[i]? = some (.int .u16 (q : Nat))) fun i hi => ?_
  have h1 := hx i hi
  rw [pCellsSet, Nat.mul_one, ← pCellsSet, List.getElem?_eq_getElem (by omega)] at h1
  exact set_of_cell (by omega) h1
theorem owns_of_cells (hL : L.length = 16) (h : DataW.trod enc Tryz.prog W 0 (fun _ => true) true fuel 27 L = some y) : ∃ f : Nat → Nat, ∀ i, i < 16 → f i < 256 ∧ L[i]? = some (.int .u8 (f i : Nat)) := by
  obtain ⟨xs, m, -, -, -, hxl, hx⟩ := DataW.trod_array Tryz.underlying27 h
  refine pick16 (P := fun i q => q < 256 ∧ L[i]? = some (.int .u8 (q : Nat))) fun i hi => ?_
  have h1 := hx i hi
  rw [pCellsByte, Nat.mul_one, List.getElem?_eq_getElem (by omega)] at h1
  rw [one_cell (by omega)] at h1
  obtain ⟨z, e, _, wz⟩ := DataW.trod_int Tryz.underlying5 h1
  have bz := bounds_u8 wz
  obtain ⟨n, rfl⟩ := Int.eq_ofNat_of_zero_le bz.1
  refine ⟨n, by omega, ?_⟩
  rw [List.getElem?_eq_getElem (by omega)]
  simpa using e
theorem lab_of_cells (hL : L.length = 2) (h : DataW.trod enc Tryz.prog W 0 (fun _ => true) true fuel 24 L = some y) : ∃ a b : Nat, a < 65536 ∧ b < 65536 ∧ L[0]? = some (.int .u16 (a : Nat)) ∧ L[1]? = some (.int .u16 (b : Nat)) := by
  obtain ⟨xs, k, _, _, _, hxl, hxx⟩ := DataW.trod_struct Tryz.underlying24 h
  match xs, hxl with
  | [y0, y1], _ =>
    have g0 : DataW.trod enc Tryz.prog W 0 (fun _ => true) true k 22 ((L.drop 0).take (Tryz.prog.cellsOf 22)) = some y0 := hxx 0 _ rfl
    have g1 : DataW.trod enc Tryz.prog W 0 (fun _ => true) true k 22 ((L.drop 1).take (Tryz.prog.cellsOf 22)) = some y1 := hxx 1 _ rfl
    obtain ⟨a, ha, ea⟩ := set_of_cell (by omega) g0
    obtain ⟨b, hb, eb⟩ := set_of_cell (by omega) g1
    exact ⟨a, b, ha, hb, ea, eb⟩
theorem labs_of_cells (hL : L.length = 32) (h : DataW.trod enc Tryz.prog W 0 (fun _ => true) true fuel 25 L = some y) : ∃ f g : Nat → Nat, ∀ i, i < 16 → f i < 65536 ∧ g i < 65536 ∧ L[i * 2]? = some (.int .u16 (f i : Nat)) ∧ L[i * 2 + 1]? = some (.int .u16 (g i : Nat)) := by
  obtain ⟨xs, m, -, -, -, hxl, hx⟩ := DataW.trod_array Tryz.underlying25 h
  have each : ∀ i, i < 16 → ∃ a b : Nat, a < 65536 ∧ b < 65536 ∧ L[i * 2]? = some (.int .u16 (a : Nat)) ∧ L[i * 2 + 1]? = some (.int .u16 (b : Nat)) := fun i hi => by
    have h1 := hx i hi
    rw [pCellsLab, List.getElem?_eq_getElem (by omega)] at h1
    obtain ⟨a, b, ha, hb, ea, eb⟩ := lab_of_cells (by rw [List.length_take, List.length_drop]; omega) h1
    rw [List.getElem?_take, if_pos (by decide), List.getElem?_drop] at ea eb
    exact ⟨a, b, ha, hb, ea, eb⟩
  obtain ⟨f, hf⟩ := pick16 (P := fun i a => ∃ b : Nat, a < 65536 ∧ b < 65536 ∧ L[i * 2]? = some (.int .u16 (a : Nat)) ∧ L[i * 2 + 1]? = some (.int .u16 (b : Nat))) each
  obtain ⟨g, hg⟩ := pick16 (P := fun i b => f i < 65536 ∧ b < 65536 ∧ L[i * 2]? = some (.int .u16 (f i : Nat)) ∧ L[i * 2 + 1]? = some (.int .u16 (b : Nat))) hf
  exact ⟨f, g, hg⟩
theorem pol_of_cells (hL : L.length = 66) (h : DataW.trod enc Tryz.prog W 0 (fun _ => true) true fuel 29 L = some y) : ∃ p, PolOk p ∧ ∀ k, k < 66 → L[k]? = some (polAt p k) := by
  obtain ⟨xs, k, _, _, _, hxl, hxx⟩ := DataW.trod_struct Tryz.underlying29 h
  match xs, hxl with
  | [y0, y1, y2, y3, y4], _ =>
    have g0 : DataW.trod enc Tryz.prog W 0 (fun _ => true) true k 22 ((L.drop 0).take (Tryz.prog.cellsOf 22)) = some y0 := hxx 0 _ rfl
    have g1 : DataW.trod enc Tryz.prog W 0 (fun _ => true) true k 25 ((L.drop 1).take (Tryz.prog.cellsOf 25)) = some y1 := hxx 1 _ rfl
    have g2 : DataW.trod enc Tryz.prog W 0 (fun _ => true) true k 26 ((L.drop 33).take (Tryz.prog.cellsOf 26)) = some y2 := hxx 2 _ rfl
    have g3 : DataW.trod enc Tryz.prog W 0 (fun _ => true) true k 27 ((L.drop 49).take (Tryz.prog.cellsOf 27)) = some y3 := hxx 3 _ rfl
    have g4 : DataW.trod enc Tryz.prog W 0 (fun _ => true) true k 22 ((L.drop 65).take (Tryz.prog.cellsOf 22)) = some y4 := hxx 4 _ rfl
    rw [pCellsLabs] at g1
    rw [pCellsActs] at g2
    rw [pCellsOwn] at g3
    obtain ⟨l0, hl0, e0⟩ := set_of_cell (by omega) g0
    obtain ⟨s, i, e1⟩ := labs_of_cells (by rw [List.length_take, List.length_drop]; omega) g1
    obtain ⟨a, e2⟩ := acts_of_cells (by rw [List.length_take, List.length_drop]; omega) g2
    obtain ⟨o, e3⟩ := owns_of_cells (by rw [List.length_take, List.length_drop]; omega) g3
    obtain ⟨l4, hl4, e4⟩ := set_of_cell (by omega) g4
    refine ⟨⟨l0, s, i, a, o, l4⟩, ⟨hl0, hl4, fun r hr => (e1 r hr).1, fun r hr => (e1 r hr).2.1, fun r hr => (e2 r hr).1, fun r hr => (e3 r hr).1⟩, fun j hj => ?_⟩
    unfold polAt
    by_cases c0 : j = 0
    · subst c0; rw [if_pos rfl]; exact e0
    · rw [if_neg c0]
      by_cases c1 : j < 33
      · rw [if_pos c1]
        have hr : (j - 1) / 2 < 16 := by omega
        obtain ⟨-, -, h1, h2⟩ := e1 _ hr
        rw [List.getElem?_take, if_pos (by omega), List.getElem?_drop] at h1 h2
        by_cases c2 : j % 2 = 1
        · rw [if_pos c2, ← show 1 + (j - 1) / 2 * 2 = j by omega, h1]
          show _ = some (Value.int .u16 (s ((1 + (j - 1) / 2 * 2) / 2) : Nat))
          rw [show (1 + (j - 1) / 2 * 2) / 2 = (j - 1) / 2 by omega]
        · rw [if_neg c2, ← show 1 + ((j - 1) / 2 * 2 + 1) = j by omega, h2]
          show _ = some (Value.int .u16 (i ((1 + ((j - 1) / 2 * 2 + 1)) / 2 - 1) : Nat))
          rw [show (1 + ((j - 1) / 2 * 2 + 1)) / 2 - 1 = (j - 1) / 2 by omega]
      · rw [if_neg c1]
        by_cases c2 : j < 49
        · rw [if_pos c2]
          have h2 := (e2 (j - 33) (by omega)).2
          rw [List.getElem?_take, if_pos (by omega), List.getElem?_drop, show 33 + (j - 33) = j by omega] at h2
          exact h2
        · rw [if_neg c2]
          by_cases c3 : j < 65
          · rw [if_pos c3]
            have h3 := (e3 (j - 49) (by omega)).2
            rw [List.getElem?_take, if_pos (by omega), List.getElem?_drop, show 49 + (j - 49) = j by omega] at h3
            exact h3
          · rw [if_neg c3]
            obtain rfl : j = 65 := by omega
            exact e4
end
set_option maxRecDepth 100000 in
theorem pol_of_arg {H : Type} {enc : TypeId × Value → H} {W : World} {r : Reach} {b0 : Nat} {v : Value} {d : DataW H} {p : List MemPlace}
    (hv : Value.okWide Tryz.prog W r b0 29 v) (h : DataW.Trod enc Tryz.prog W 0 (fun _ => true) true 29 v d p) : ∃ q, PolOk q ∧ v = .agg (polC q) := by
  obtain ⟨cs, rfl, hsz⟩ := okWide_struct Tryz.underlying29 hv
  rw [pCellsPol] at hsz
  obtain ⟨fuel, hf⟩ := h
  obtain ⟨q, hq, hc⟩ := pol_of_cells (L := (Value.agg cs).cells.toList) (by show cs.toList.length = 66; simpa using hsz) hf
  refine ⟨q, hq, ?_⟩
  congr 1
  apply Array.ext_getElem?
  intro i
  by_cases hi : i < 66
  · rw [polC_get q hi, ← hc i hi]; exact (Array.getElem?_toList).symm
  · rw [Array.getElem?_eq_none (by omega), Array.getElem?_eq_none (by rw [polC_size]; omega)]
end Go.Proofs.YtmaachmidgfhdaaGreatDoor
