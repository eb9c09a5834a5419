/-
  make of a slice of bytes: an owned row, empty with room, or of zeros.
-/
import Derived.Test.YtoieodlpoglmfaaDoorAppB
import Derived.Laws.MakeOwn
import Derived.Laws.OwnMore
namespace Go.Proofs.YtoieodlpoglmfaaDoor
open Go.RowKit

section
variable {P : Program} {w : World}
/-- make([]byte, 0, c) -/
theorem wpList_make_bytes {ops : Array Oper} {rest : List Oper} {o : Oper} {a : Act} {Q : Exit → Act → World → Prop} (hgd : o.guard = none) (x y : Operand) (t : TypeId) (ho : o.op = .makeSlice t x y)
    (base e : Nat) (ht : P.underlying t = some (.slice e)) (hi : (P.info? e).map (fun i => (i.zero, i.size, i.bytes)) = some (some (.int .u8 0), 1, 1))
    {kl kc : IntKind} {ci : Int} (c : Nat) (hx : a.eval x = .int kl 0) (hy : a.eval y = .int kc ci) (hc : ci = (c : Int)) (hsm : c ≤ 140737488355328) (hbase : base ≤ w.heap.size)
    (h : ∀ w', w'.ownsRow base e 1 (.slice (some ⟨w.heap.size, 0, none⟩) 0 c) ([] : List UInt8).length (bvs []) → w.grownBy w' none → wpList P ops Q rest (a.put o.dst (.slice (some ⟨w.heap.size, 0, none⟩) 0 c)) w') : wpList P ops Q (o :: rest) a w := by
  refine wpList_plain hgd fun K hK => ?_
  obtain ⟨i, hi', hz0, hz1, hz2⟩ := info_parts hi
  subst hc
  obtain ⟨w', hr, h2, h3⟩ := run_make_own (P := P) w base t e i (.int .u8 0) 1 ht hi' hz0 hz1 kl kc c (by rw [hz2]; omega) (by unfold maxLen; omega) hbase
  unfold Oper.wp execOp
  simp only [ho, Sem.run_bind, Sem.run_pure, Result.andThen_ok, hx, hy, hr]
  exact hK _ _ (h w' h2 h3)
def zerosB (n : Nat) : List UInt8 := List.replicate n 0
theorem zerosB_length (n : Nat) : (zerosB n).length = n := by simp [zerosB]
/-- make([]byte, n) -/
theorem wpList_make_zeros {ops : Array Oper} {rest : List Oper} {o : Oper} {a : Act} {Q : Exit → Act → World → Prop} (hgd : o.guard = none) (x y : Operand) (t : TypeId) (ho : o.op = .makeSlice t x y)
    (base e : Nat) (ht : P.underlying t = some (.slice e)) (hi : (P.info? e).map (fun i => (i.zero, i.size, i.bytes)) = some (some (.int .u8 0), 1, 1))
    {kl kc : IntKind} {ci di : Int} (c : Nat) (hx : a.eval x = .int kl ci) (hy : a.eval y = .int kc di) (hc : ci = (c : Int)) (hd : di = (c : Int)) (hsm : c ≤ 140737488355328) (hbase : base ≤ w.heap.size)
    (h : ∀ w', w'.ownsRow base e 1 (.slice (some ⟨w.heap.size, 0, none⟩) c c) (zerosB c).length (bvs (zerosB c)) → w.grownBy w' none → wpList P ops Q rest (a.put o.dst (.slice (some ⟨w.heap.size, 0, none⟩) c c)) w') : wpList P ops Q (o :: rest) a w := by
  refine wpList_plain hgd fun K hK => ?_
  obtain ⟨i, hi', hz0, hz1, hz2⟩ := info_parts hi
  subst hc; subst hd
  obtain ⟨w', hr, h2, h3⟩ := run_make_full (P := P) w base t e i (.int .u8 0) 1 ht hi' hz0 hz1 kl kc c (by rw [hz2]; omega) (by unfold maxLen; omega) hbase
  unfold Oper.wp execOp
  simp only [ho, Sem.run_bind, Sem.run_pure, Result.andThen_ok, hx, hy, hr]
  refine hK _ _ (h w' ?_ h3)
  have e1 : (madeCells (Value.int .u8 0).cells (c * 1)).toList = bvs (zerosB c) := by
    apply List.ext_getElem?
    intro k
    simp only [madeCells, bvs, zerosB, Value.cells, List.map_replicate, Nat.mul_one]
    by_cases hk : k < c
    · simp [hk, Nat.mod_one]
    · simp [hk]
  rw [e1] at h2
  rw [zerosB_length]
  exact h2
end
/-- An owned row stays where something else changes. -/
theorem own_chg {S : Nat → Prop} {w w' : World} {base e n : Nat} {v : Value} {xs : List Value} (h : w.ownsRow base e 1 v n xs) (hc : Chg S w w') (hv : ∀ k, v.ownBlock = some k → ¬ S k) : w'.ownsRow base e 1 v n xs := by
  obtain ⟨h1, h2⟩ := h
  refine ⟨h1, ?_⟩
  rcases h2 with h2 | ⟨g, cap, cur, rfl, hg, hgg, rest⟩
  · exact .inl h2
  · refine .inr ⟨g, cap, cur, rfl, hg, ?_, rest⟩
    rw [hc.block g (Array.getElem?_eq_some_iff.1 hgg).1 (hv g rfl)]; exact hgg
theorem own_below {B : Nat} {w w' : World} {base e n : Nat} {v : Value} {xs : List Value} (h : w.ownsRow base e 1 v n xs) (hB : Below B w w') (hs : w.heap.size ≤ B) : w'.ownsRow base e 1 v n xs :=
  own_chg (S := fun _ => False) h ⟨hB.os, hB.tape, hB.output, hB.size, fun k hk _ => hB.block k (by omega)⟩ (fun _ _ h => h)
end Go.Proofs.YtoieodlpoglmfaaDoor
