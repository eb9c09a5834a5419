/-
  Whole arrays and structs in the middle of a block of cells: loads and stores, for any program and any type.
-/
import Derived.Test.YtimbhamdblganaaWArr
/-! Mid -/
namespace Go.Proofs.Ytimbhamdblganaa
open Go.RowKit

/-- The cells, with others from a place on. -/
def midC (cs : Array Value) (off : Nat) (new : Array Value) : Array Value := (cs.toList.take off ++ new.toList ++ cs.toList.drop (off + new.size)).toArray
theorem midC_get {cs new : Array Value} {off : Nat} (h : off + new.size ≤ cs.size) (j : Nat) : (midC cs off new)[j]? = if off ≤ j ∧ j < off + new.size then new[j - off]? else cs[j]? := by
  unfold midC
  rw [List.getElem?_toArray]
  have hl : (cs.toList.take off).length = off := by rw [List.length_take, Array.length_toList]; omega
  by_cases h1 : j < off
  · rw [if_neg (by omega), List.append_assoc, List.getElem?_append_left (by rw [hl]; exact h1), List.getElem?_take, if_pos h1, Array.getElem?_toList]
  · by_cases h2 : j < off + new.size
    · rw [if_pos ⟨by omega, h2⟩, List.append_assoc, List.getElem?_append_right (by rw [hl]; omega), hl, List.getElem?_append_left (by rw [Array.length_toList]; omega), Array.getElem?_toList]
    · rw [if_neg (by omega), List.getElem?_append_right (by rw [List.length_append, hl, Array.length_toList]; omega), List.length_append, hl, Array.length_toList, List.getElem?_drop, Array.getElem?_toList]
      congr 1; omega
section
variable {P : Program} {w : World}
theorem run_store_mid {g off : Nat} {cs new : Array Value} {t ty : TypeId} (h : Blk w g cs t) (hn : off + new.size ≤ cs.size) (h1 : new.all (·.oneCell') = true) (hi : (P.info? ty).map (·.size) = some new.size) :
    (storeVar ty ⟨g, off, none⟩ (.agg new)).run P w = .ok () (w.setRow g (midC cs off new)) := by
  have hst := run_storeCells_at P g off t new.toList 0 cs w h (by rw [Array.length_toList]; omega) (fun v hv => (Array.all_eq_true_iff_forall_mem.1 h1) v (by simpa using hv))
  rw [Nat.add_zero, Array.length_toList] at hst
  cases hq : P.info? ty with
  | none => simp [hq] at hi
  | some i =>
    have hs : i.size = new.size := by simpa [hq] using hi
    simp only [storeVar, sizeOf, typeInfo, Sem.run_bind, Sem.run_pure]
    simp [hst, Value.cells, hs, hq, midC]
theorem wpList_store_mid {ops : Array Oper} {rest : List Oper} {o : Oper} {a : Act} {Q : Exit → Act → World → Prop} (hgd : o.guard = none) (hd : o.dst = none) (ty : TypeId) (x y : Operand) (ho : o.op = .store ty x y)
    {g off : Nat} {cs new : Array Value} {t : TypeId} (hx : a.eval x = .pointer (some ⟨g, off, none⟩)) (hy : a.eval y = .agg new) (h : Blk w g cs t) (hn : off + new.size ≤ cs.size) (h1 : new.all (·.oneCell') = true) (hi : (P.info? ty).map (·.size) = some new.size)
    (hK : ∀ w', Put w w' g (midC cs off new) t → wpList P ops Q rest a w') : wpList P ops Q (o :: rest) a w :=
  wpList_plain hgd fun K hK' => by
    unfold Oper.wp execOp
    simp only [ho, hx, hy, Instr.storeAt, Instr.sureAddr, Sem.run_bind, Sem.run_pure, Result.andThen_ok, run_store_mid (P := P) h hn h1 hi]
    have e : a.put o.dst undef = a := by rw [hd]; rfl
    exact hK' _ _ (by rw [e]; exact hK _ ⟨⟨rfl, rfl, rfl, by simp, fun k _ hk => setRow_other w g k _ hk⟩, setRow_heap w g _ _ _ _ h⟩)
end
end Go.Proofs.Ytimbhamdblganaa
