/-
  Slices of changes in memory; some changes done in turn.
-/
import Derived.Test.YthpangacpihclaaDoorWChO
import Derived.Test.YthpangacpihclaaDoorWChB
/-! ChA -/
namespace Go.Proofs.YthpangacpihclaaDoor
open Go.RowKit

/-- In the world w the slice v holds just these. -/
def ChsAt (w : World) (v : Value) (l : List Cg) : Prop :=
  ∃ p cap, v = .slice p l.length cap ∧ l.length ≤ 9223372036854775807 ∧ (l ≠ [] → ∃ b off, p = some ⟨b, off, none⟩ ∧ b < w.heap.size ∧ ∀ i, (h : i < l.length) → CgOk l[i] ∧ ∀ j u, (chgC l[i])[j]? = some u → w.cell? ⟨b, off + i * 5 + j, none⟩ = some u)
theorem ChsAt.below {B : Nat} {w w' : World} {v : Value} {l : List Cg} (h : ChsAt w v l) (hB : Below B w w') (hs : w.heap.size ≤ B) : ChsAt w' v l := by
  obtain ⟨p, cap, h1, h2, h3⟩ := h
  refine ⟨p, cap, h1, h2, fun hne => ?_⟩
  obtain ⟨b, off, h5, h6, h7⟩ := h3 hne
  refine ⟨b, off, h5, Nat.lt_of_lt_of_le h6 hB.size, fun i hi => ?_⟩
  obtain ⟨g, k⟩ := h7 i hi
  exact ⟨g, fun j u hu => (hB.cell (p := ⟨b, off + i * 5 + j, none⟩) (Nat.lt_of_lt_of_le h6 hs)).trans (k j u hu)⟩
/-- A change lies in memory from here on. -/
def ChCells (w : World) (b off : Nat) (c : Cg) : Prop := ∀ j u, (chgC c)[j]? = some u → w.cell? ⟨b, off + j, none⟩ = some u
theorem ChCells.below {B b off : Nat} {w w' : World} {c : Cg} (h : ChCells w b off c) (hB : Below B w w') (hb : b < B) : ChCells w' b off c := fun j u hu => (hB.cell (p := ⟨b, off + j, none⟩) hb).trans (h j u hu)
theorem exec_load_chgAt {o : Oper} {a : Act} {w : World} {x : Operand} {b off : Nat} {c : Cg} (ho : o.op = .load 31 x) (hx : a.eval x = .pointer (some ⟨b, off, none⟩)) (h : ChCells w b off c) :
    (execOp a.eval o).run Tryd.prog w = .ok (.value (.agg (chgC c))) w := by
  have hl : (loadCells ⟨b, off, none⟩ (chgC c).toList.length).run Tryd.prog w = .ok (chgC c).toList.toArray w :=
    run_loadCells_list (P := Tryd.prog) w ⟨b, off, none⟩ _ (fun j v hv => by
      have hadd : (⟨b, off, none⟩ : Addr).add j = ⟨b, off + j, none⟩ := by unfold Addr.add; split <;> simp_all
      rw [Array.getElem?_toList] at hv
      rw [hadd]; exact h j v hv)
  rw [Array.length_toList] at hl
  have hi := infoChg c
  unfold execOp
  simp only [ho, hx, Instr.loadAt, Instr.sureAddr, Sem.run_bind, Sem.run_pure, Result.andThen_ok]
  cases hq : Tryd.prog.info? 31 with
  | none => simp [hq] at hi
  | some i =>
    have hs : i.size = (chgC c).size := by simpa [hq] using hi
    have hagg : (isAgg 31).run Tryd.prog w = .ok true w := by
      unfold isAgg
      rw [Sem.run_bind, run_underlying Tryd.underlying31 w]
      rfl
    simp [loadVar, Sem.run_bind, hagg, sizeOf, typeInfo, hq, hs, hl]

/-- Changes done in turn: the policy, how many were done, why it stopped. -/
def allL (p : Pol) (n : Nat) : List Cg → Pol × Nat × Int
  | [] => (p, n, 0)
  | c :: l => if oneE p c = 0 then allL (oneP p c) (n + 1) l else (zeroP, n, oneE p c)
def allR (p : Pol) (l : List Cg) : Pol × Nat × Int := if l.length = 0 then (zeroP, 0, 1) else if 6 < l.length then (zeroP, 0, 5) else allL p 0 l
theorem allL_yes {p : Pol} {n : Nat} {c : Cg} {l : List Cg} (h : oneE p c = 0) : allL p n (c :: l) = allL (oneP p c) (n + 1) l := if_pos h
theorem allL_no {p : Pol} {n : Nat} {c : Cg} {l : List Cg} (h : oneE p c ≠ 0) : allL p n (c :: l) = (zeroP, n, oneE p c) := if_neg h
theorem allL_ok : ∀ (l : List Cg) (p : Pol) (n : Nat), PolOk p → fineP p = true → (∀ c ∈ l, CgOk c) → PolOk (allL p n l).1 ∧ ((allL p n l).2.2 = 0 → fineP (allL p n l).1 = true)
  | [], _, _, hp, hf, _ => ⟨hp, fun _ => hf⟩
  | c :: l, p, n, hp, hf, hc => by
    by_cases h : oneE p c = 0
    · rw [allL_yes h]
      exact allL_ok l _ _ (oneP_ok hp (hc c (by simp))) (one_fine hp hf h) (fun d hd => hc d (by simp [hd]))
    · rw [allL_no h]
      refine ⟨?_, fun h0 => absurd h0 h⟩
      have e := oneP_no h
      rw [← e]
      exact oneP_ok hp (hc c (by simp))
theorem allR_ok {p : Pol} {l : List Cg} (hp : PolOk p) (hf : fineP p = true) (hc : ∀ c ∈ l, CgOk c) : PolOk (allR p l).1 ∧ ((allR p l).2.2 = 0 → fineP (allR p l).1 = true) := by
  unfold allR
  split
  · exact ⟨zeroP_ok, fun h => by cases h⟩
  · split
    · exact ⟨zeroP_ok, fun h => by cases h⟩
    · exact allL_ok l p 0 hp hf hc
end Go.Proofs.YthpangacpihclaaDoor
