/-
  Whole arrays and structs in the middle of a block of cells: loads and stores, for any program and any type.
-/
import Derived.Test.YtcbphjdhafnkmaaDoorArr
namespace Go.Proofs.YtcbphjdhafnkmaaDoor
open Go.RowKit

/-- The cells, with others from a place on. -/
def midC (cs : Array Value) (off : Nat) (new : Array Value) : Array Value := (cs.toList.take off ++ new.toList ++ cs.toList.drop (off + new.size)).toArray
theorem midC_size {cs new : Array Value} {off : Nat} (h : off + new.size ≤ cs.size) : (midC cs off new).size = cs.size := by
  unfold midC
  simp only [List.size_toArray, List.length_append, List.length_take, List.length_drop, Array.length_toList]
  omega
theorem midC_get {cs new : Array Value} {off : Nat} (h : off + new.size ≤ cs.size) (j : Nat) : (midC cs off new)[j]? = if off ≤ j ∧ j < off + new.size then new[j - off]? else cs[j]? := by
  unfold midC
  rw [List.getElem?_toArray]
  have hl : (cs.toList.take off).length = off := by rw [List.length_take, Array.length_toList]; omega
  by_cases h1 : j < off
  · rw [if_neg (by omega), List.append_assoc, List.getElem?_append_left (by rw [hl]; exact h1), List.getElem?_take, if_pos h1, Array.getElem?_toList]
  · by_cases h2 : j < off + new.size
    · rw [if_pos ⟨by omega, h2⟩, List.append_assoc, List.getElem?_append_right (by rw [hl]; omega), hl, List.getElem?_append_left (by rw [Array.length_toList]; omega), Array.getElem?_toList]
    · rw [if_neg (by omega), List.getElem?_append_right (by rw [List.length_append, hl, Array.length_toList]; omega), List.length_append, hl, Array.length_toList, List.getElem?_drop, Array.getElem?_toList]
      congr 1; omega
section
variable {P : Program} {w : World}
theorem run_store_mid {g off : Nat} {cs new : Array Value} {t ty : TypeId} (h : Blk w g cs t) (hn : off + new.size ≤ cs.size) (h1 : new.all (·.oneCell') = true) (hi : (P.info? ty).map (·.size) = some new.size) :
    (storeVar ty ⟨g, off, none⟩ (.agg new)).run P w = .ok () (w.setRow g (midC cs off new)) := by
  have hst := run_storeCells_at P g off t new.toList 0 cs w h (by rw [Array.length_toList]; omega) (fun v hv => (Array.all_eq_true_iff_forall_mem.1 h1) v (by simpa using hv))
  rw [Nat.add_zero, Array.length_toList] at hst
  cases hq : P.info? ty with
  | none => simp [hq] at hi
  | some i =>
    have hs : i.size = new.size := by simpa [hq] using hi
    simp only [storeVar, sizeOf, typeInfo, Sem.run_bind, Sem.run_pure]
    simp [hst, Value.cells, hs, hq, midC]
theorem wpList_store_mid {ops : Array Oper} {rest : List Oper} {o : Oper} {a : Act} {Q : Exit → Act → World → Prop} (hgd : o.guard = none) (hd : o.dst = none) (ty : TypeId) (x y : Operand) (ho : o.op = .store ty x y)
    {g off : Nat} {cs new : Array Value} {t : TypeId} (hx : a.eval x = .pointer (some ⟨g, off, none⟩)) (hy : a.eval y = .agg new) (h : Blk w g cs t) (hn : off + new.size ≤ cs.size) (h1 : new.all (·.oneCell') = true) (hi : (P.info? ty).map (·.size) = some new.size)
    (hK : ∀ w', Put w w' g (midC cs off new) t → wpList P ops Q rest a w') : wpList P ops Q (o :: rest) a w :=
  wpList_plain hgd fun K hK' => by
    unfold Oper.wp execOp
    simp only [ho, hx, hy, Instr.storeAt, Instr.sureAddr, Sem.run_bind, Sem.run_pure, Result.andThen_ok, run_store_mid (P := P) h hn h1 hi]
    have e : a.put o.dst undef = a := by rw [hd]; rfl
    exact hK' _ _ (by rw [e]; exact hK _ ⟨⟨rfl, rfl, rfl, by simp, fun k _ hk => setRow_other w g k _ hk⟩, setRow_heap w g _ _ _ _ h⟩)
theorem run_load_part2 {g off : Nat} {cs new : Array Value} {t ty : TypeId} {d : TypeDesc} (h : Blk w g cs t) (hc : ∀ i, i < new.size → cs[off + i]? = new[i]?) (hu : P.underlying ty = some d) (hw : rowD d = true) (hi : (P.info? ty).map (·.size) = some new.size) :
    (loadVar ty ⟨g, off, none⟩).run P w = .ok (.agg new) w := by
  have hl : (loadCells ⟨g, off, none⟩ new.toList.length).run P w = .ok new.toList.toArray w :=
    run_loadCells_list (P := P) w ⟨g, off, none⟩ _ (fun j v hv => by
      have hj : j < new.size := by
        have := (List.getElem?_eq_some_iff.1 hv).1
        rwa [Array.length_toList] at this
      have hadd : (⟨g, off, none⟩ : Addr).add j = ⟨g, off + j, none⟩ := by unfold Addr.add; split <;> simp_all
      rw [Array.getElem?_toList] at hv
      rw [hadd, h.cell, hc j hj, hv])
  rw [Array.length_toList] at hl
  cases hq : P.info? ty with
  | none => simp [hq] at hi
  | some i =>
    have hs : i.size = new.size := by simpa [hq] using hi
    have hagg : (isAgg ty).run P w = .ok true w := by
      unfold isAgg
      rw [Sem.run_bind, run_underlying hu w]
      cases d <;> first | rfl | cases hw
    simp [loadVar, Sem.run_bind, hagg, sizeOf, typeInfo, hq, hs, hl]
theorem wpList_load_mid {ops : Array Oper} {rest : List Oper} {o : Oper} {a : Act} {Q : Exit → Act → World → Prop} (hgd : Region.wanted o (yielded ops a.tmps) = true) (ty : TypeId) (x : Operand) (ho : o.op = .load ty x)
    {g off : Nat} {cs new : Array Value} {t : TypeId} {d : TypeDesc} (hx : a.eval x = .pointer (some ⟨g, off, none⟩)) (h : Blk w g cs t) (hc : ∀ i, i < new.size → cs[off + i]? = new[i]?) (hu : P.underlying ty = some d) (hw : rowD d = true) (hi : (P.info? ty).map (·.size) = some new.size)
    (hK : wpList P ops Q rest (a.put o.dst (.agg new)) w) : wpList P ops Q (o :: rest) a w :=
  wpList_step fun _ hK' => by
    rw [if_pos hgd]
    unfold Oper.wp execOp
    simp only [ho, hx, Instr.loadAt, Instr.sureAddr, Sem.run_bind, Sem.run_pure, Result.andThen_ok, run_load_part2 (P := P) h hc hu hw hi]
    exact hK' _ _ hK
theorem exec_load_mid2 {o : Oper} {a : Act} {ty : TypeId} {x : Operand} {g off : Nat} {cs new : Array Value} {t : TypeId} {d : TypeDesc} (ho : o.op = .load ty x) (hx : a.eval x = .pointer (some ⟨g, off, none⟩)) (h : Blk w g cs t) (hc : ∀ i, i < new.size → cs[off + i]? = new[i]?) (hu : P.underlying ty = some d) (hw : rowD d = true) (hi : (P.info? ty).map (·.size) = some new.size) :
    (execOp a.eval o).run P w = .ok (.value (.agg new)) w := by
  unfold execOp
  simp only [ho, hx, Instr.loadAt, Instr.sureAddr, Sem.run_bind, Sem.run_pure, Result.andThen_ok, run_load_part2 (P := P) h hc hu hw hi]
end
end Go.Proofs.YtcbphjdhafnkmaaDoor
