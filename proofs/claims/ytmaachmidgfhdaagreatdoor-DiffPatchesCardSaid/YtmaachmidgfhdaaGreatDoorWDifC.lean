/-
  What is asked of the program's differences; two lists of the same strings.
-/
import Derived.LoopTactic
import Derived.BigQuiet
import Derived.OwnWalk
import Derived.Laws.AppendOwnNone
import Derived.Test.YtmaachmidgfhdaaGreatDoorWDifN
import Derived.Test.YtmaachmidgfhdaaGreatDoorWDifA
import Derived.Test.YtmaachmidgfhdaaGreatDoorW2
import Derived.Test.YtmaachmidgfhdaaGreatDoorW1
/-! DifC -/
namespace Go.Proofs.YtmaachmidgfhdaaGreatDoor
open Go.RowKit

/-- What the calls need of memory (the library's tables and errors), however more is made. -/
structure GoodC (G : World → Prop) : Prop where
  keep : ∀ {w w' : World}, G w → Below w.heap.size w w' → G w'
def DLinesC (G : World → Prop) : Prop := ∀ (p q : Pol) (w : World), G w → PolOk p → PolOk q → fineP p = true → fineP q = true → Calls Tryz.prog 8 #[.agg (polC p), .agg (polC q)] w fun e w' => ∃ u, e = .returned u ∧ StrsRow w' w.heap.size u (linesL p q) ∧ Below w.heap.size w w'
def DPatchC (G : World → Prop) : Prop := ∀ (p : Pol) (v : Value) (ls : List (List UInt8)) (w : World), G w → PolOk p → fineP p = true → StrsAt w v ls → ls.length ≤ 2100 → (∀ l ∈ ls, l.length ≤ 200) → Calls Tryz.prog 11 #[.agg (polC p), v] w fun e w' => e = .returned (.tuple #[.agg (polC (patP p ls)), .int .i64 (patE p ls)]) ∧ Below w.heap.size w w'
def DAliveC (G : World → Prop) : Prop := ∀ (w : World), G w → Calls Tryz.prog 10 #[] w fun e w' => e = .returned (.bool true) ∧ Below w.heap.size w w'
theorem linesL_few (p q : Pol) : (linesL p q).length ≤ 2048 := by
  have many : ∀ (s k n : Nat), ((tagsN s).map (fun m => (⟨k, n, m, 0, 0⟩ : Ln))).length ≤ 16 := fun s k n => by
    rw [List.length_map]; exact tagsTo_length_le s 16
  have one : ∀ (c : Prop) [Decidable c] (a : Ln), (if c then [a] else []).length ≤ 16 := fun c _ a => by split <;> simp
  have some16 : ∀ k n, (someD p q k n).length ≤ 16 := fun k n => by
    unfold someD
    split
    · exact one _ _
    split
    · exact one _ _
    split
    · exact one _ _
    split
    · exact one _ _
    split
    · exact many _ _ _
    split
    · exact many _ _ _
    split
    · exact one _ _
    · exact one _ _
  have row : ∀ k n, ((List.range n).flatMap (someD p q k)).length ≤ 16 * n := fun k n => by
    induction n with
    | zero => simp
    | succ n ih =>
      rw [List.range_succ, List.flatMap_append, List.length_append, List.flatMap_cons, List.flatMap_nil, List.append_nil]
      have := some16 k n
      omega
  have rows : ∀ k, ((List.range k).flatMap (rowDf p q)).length ≤ 256 * k := fun k => by
    induction k with
    | zero => simp
    | succ k ih =>
      rw [List.range_succ, List.flatMap_append, List.length_append, List.flatMap_cons, List.flatMap_nil, List.append_nil]
      have : (rowDf p q k).length ≤ 16 * 16 := row k 16
      omega
  have := rows 8
  unfold linesL diffL
  rw [List.length_map]
  omega
theorem linesL_short {p q : Pol} (hp : PolOk p) (hq : PolOk q) (hf : fineP q = true) : ∀ l ∈ linesL p q, l.length ≤ 200 := by
  intro l hl
  obtain ⟨x, hx, rfl⟩ := List.mem_map.1 hl
  have := (lineT_len (diff_is hp hq hf hx).1).2
  omega
set_option maxRecDepth 100000 in
set_option maxHeartbeats 1600000 in
theorem sameS_any (v1 v2 : Value) (ls : List (List UInt8)) (w : World) (h1 : StrsAt w v1 ls) (h2 : StrsAt w v2 ls) : Calls Tryz.prog 7 #[v1, v2] w fun x w' => x = .returned (.bool true) ∧ Below w.heap.size w w' := by
  have H1 := Lib.hid h1
  have H2 := Lib.hid h2
  obtain ⟨p1, cap, rfl, ⟨ha, hb⟩, -⟩ := h1
  obtain ⟨p2, cap2, rfl, -, -⟩ := h2
  have HL := Lib.hid (show ls.length ≤ 9223372036854775807 by omega)
  clear ha hb
  go_enter Tryz.func7, Tryz.ntmps7
  go_wp2_with fail
  go_loopw [5] (fun i wr => ∃ k : Nat, k ≤ ls.length ∧ i = .int .i64 (k : Int) ∧ Below w.heap.size w wr) (fun i _ => ls.length - (intOf i).toNat)
  case atStart => exact ⟨0, by omega, rfl, Below.refl _ _⟩
  case round =>
    obtain ⟨k, hk, rfl, hg⟩ := hrel
    have HG := Lib.hid hg
    clear hg
    by_cases hlt : k < ls.length
    · obtain ⟨g1, off1, cp1, e1, -, -, hl1⟩ := H1.out.shape (fun e => by rw [e] at hlt; cases hlt)
      obtain ⟨g2, off2, cp2, e2, -, -, hl2⟩ := H2.out.shape (fun e => by rw [e] at hlt; cases hlt)
      cases e1
      cases e2
      have c1 := (H1.out.elem hlt).2 0 (.string ⟨ls[k].toArray⟩) rfl
      have c2 := (H2.out.elem hlt).2 0 (.string ⟨ls[k].toArray⟩) rfl
      rw [Nat.add_zero, Nat.mul_one] at c1 c2
      have d1 := (HG.out.cell (p := ⟨g1, off1 + k, none⟩) hl1).trans c1
      have d2 := (HG.out.cell (p := ⟨g2, off2 + k, none⟩) hl2).trans c2
      generalize ls[k] = l at *
      have dk : decide ((k : Int) < (ls.length : Int)) = true := by simp; omega
      have dk2 : decide (k < ls.length) = true := by simpa using hlt
      have hwk : IntKind.i64.wrap ((k : Int) + 1) = (k : Int) + 1 := by have := HL.out; rw [IntKind.wrap_i64]; omega
      have h0 : (0 : Int) ≤ (k : Int) := by omega
      have h3 : (k : Int) < (ls.length : Int) := by omega
      have HKl := Lib.hid hlt
      clear c1 c2 hlt hk hl1 hl2
      go_upto_region 6 with fail
      go_quiet (fail)
      go_wp2_with fail
      go_roundw
      case rel => exact ⟨k + 1, by have := HKl.out; omega, by go_num, below_drewN HG.out _⟩
      case measure => have := HKl.out; simp [intOf]; omega
    · have dk : decide ((k : Int) < (ls.length : Int)) = false := by simp; omega
      have dk2 : decide (k < ls.length) = false := by simpa using hlt
      go_wp2_with fail
      go_ret
      exact ⟨rfl, HG.out⟩
end Go.Proofs.YtmaachmidgfhdaaGreatDoor
