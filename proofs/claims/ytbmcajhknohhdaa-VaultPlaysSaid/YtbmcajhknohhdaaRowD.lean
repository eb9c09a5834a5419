/-
  Rows of arrays of bytes: one array laid, a make of many, a copy of a row by append.
-/
import Derived.Test.YtbmcajhknohhdaaRowB
import Derived.Test.YtbmcajhknohhdaaMkB
import Derived.Laws.Append
import Derived.Laws.OwnMore
namespace Go.Proofs.Ytbmcajhknohhdaa
open Go.RowKit

theorem zeros_at (n k : Nat) (h : k < n) : (bvA (zerosB n))[k]? = some (.int .u8 0) := by
  rw [bvA_get _ _ (by rw [zerosB_length]; exact h)]
  simp [zerosB]
theorem zeroCells_bytes (sz n : Nat) : Builtin.zeroCells (bvA (zerosB sz)) n = bvA (zerosB (n * sz)) := by
  apply Array.ext_getElem?
  intro k
  have h0 : (bvA (zerosB sz)).size = sz := by rw [bvA_size, zerosB_length]
  unfold Builtin.zeroCells
  rw [h0]
  by_cases hk : k < n * sz
  · rw [zeros_at _ _ hk]
    have hs : 0 < sz := by
      rcases Nat.eq_zero_or_pos sz with e | e
      · subst e; simp at hk
      · exact e
    have hm : k % sz < sz := Nat.mod_lt _ hs
    have h2 := zeros_at sz (k % sz) hm
    simp only [Array.getElem?_map, Array.getElem?_range, hk, if_true, Option.map_some]
    congr 1
    rw [getElem!_def, h2]
  · rw [Array.getElem?_eq_none (by simp; omega), Array.getElem?_eq_none (by rw [bvA_size, zerosB_length]; omega)]
theorem madeCells_bytes (sz n : Nat) : madeCells (bvA (zerosB sz)) (n * sz) = bvA (zerosB (n * sz)) := by
  apply Array.ext_getElem?
  intro k
  have h0 : (bvA (zerosB sz)).size = sz := by rw [bvA_size, zerosB_length]
  by_cases hk : k < n * sz
  · rw [zeros_at _ _ hk]
    have hs : 0 < sz := by
      rcases Nat.eq_zero_or_pos sz with e | e
      · subst e; simp at hk
      · exact e
    have hm : k % sz < sz := Nat.mod_lt _ hs
    have h2 := zeros_at sz (k % sz) hm
    simp only [madeCells, h0]
    simp [hk]
    rw [getElem!_def, h2]
  · rw [Array.getElem?_eq_none (by rw [size_madeCells]; omega), Array.getElem?_eq_none (by rw [bvA_size, zerosB_length]; omega)]
section
variable {P : Program} {w : World}
/-- var x [n]byte, in memory. -/
theorem wpList_alloc_bytes {ops : Array Oper} {rest : List Oper} {o : Oper} {a : Act} {Q : Exit → Act → World → Prop} (hgd : o.guard = none) (t : TypeId) (ho : o.op = .alloc t) {n : Nat}
    (hi : (P.info? t).map (·.zero) = some (some (.agg (bvA (zerosB n)))))
    (h : wpList P ops Q rest (a.put o.dst (.pointer (some ⟨w.heap.size, 0, none⟩))) (w.alloc (.cells (bvA (zerosB n)) t))) : wpList P ops Q (o :: rest) a w := by
  refine wpList_plain hgd fun K hK => ?_
  unfold Oper.wp execOp
  cases hq : P.info? t with
  | none => simp [hq] at hi
  | some i =>
    have hz : i.zero = some (.agg (bvA (zerosB n))) := by simpa [hq] using hi
    have hr : (Instr.alloc t true (.tuple #[])).run P w = .ok (.pointer (some ⟨w.heap.size, 0, none⟩)) (w.alloc (.cells (bvA (zerosB n)) t)) := by
      simp [Instr.alloc, zeroValue, typeInfo, hq, hz, newVar, newRow, Value.cells]
    simp only [ho, Sem.run_bind, Sem.run_pure, Result.andThen_ok, hr]
    exact hK _ _ h
/-- make([][n]byte, c) -/
theorem wpList_make_blocks {ops : Array Oper} {rest : List Oper} {o : Oper} {a : Act} {Q : Exit → Act → World → Prop} (hgd : o.guard = none) (x y : Operand) (t : TypeId) (ho : o.op = .makeSlice t x y)
    (e : Nat) (ht : P.underlying t = some (.slice e)) {sz bytes : Nat} (hi : (P.info? e).map (fun i => (i.zero, i.size, i.bytes)) = some (some (.agg (bvA (zerosB sz))), sz, bytes))
    {kl kc : IntKind} {ci di : Int} (c : Nat) (hx : a.eval x = .int kl ci) (hy : a.eval y = .int kc di) (hc : ci = (c : Int)) (hd : di = (c : Int)) (hsm : bytes * c ≤ 281474976710656) (hm : c ≤ maxLen)
    (h : ∀ w', Blk w' w.heap.size (bvA (zerosB (c * sz))) e → Below w.heap.size w w' → w'.heap.size = w.heap.size + 1 → wpList P ops Q rest (a.put o.dst (.slice (some ⟨w.heap.size, 0, none⟩) c c)) w') : wpList P ops Q (o :: rest) a w := by
  refine wpList_plain hgd fun K hK => ?_
  cases hq : P.info? e with
  | none => simp [hq] at hi
  | some i =>
    obtain ⟨hz0, hz1, hz2⟩ : i.zero = some (.agg (bvA (zerosB sz))) ∧ i.size = sz ∧ i.bytes = bytes := by simpa [hq] using hi
    subst hc; subst hd
    have hb' : (i.bytes : Int) * (c : Int) ≤ 281474976710656 := by
      rw [hz2]
      have h : ((bytes * c : Nat) : Int) ≤ 281474976710656 := by omega
      rwa [Int.natCast_mul] at h
    have hr := run_make (P := P) w t e i (.agg (bvA (zerosB sz))) ht hq hz0 kl kc c c (by omega) (Int.le_refl _) hb' (by unfold maxLen at hm; omega)
    simp only [Int.toNat_natCast] at hr
    unfold Oper.wp execOp
    simp only [ho, Sem.run_bind, Sem.run_pure, Result.andThen_ok, hx, hy, hr]
    refine hK _ _ (h _ ?_ (belowNew w _) (by simp))
    have e1 : madeCells (Value.agg (bvA (zerosB sz))).cells (c * i.size) = bvA (zerosB (c * sz)) := by
      rw [hz1]; exact madeCells_bytes sz c
    rw [e1]
    exact Blk.new w _ _
/-- append([][n]byte{}, s...) of a row that is not empty: a new row, with room for more behind it. -/
theorem wpList_append_blocks {ops : Array Oper} {rest : List Oper} {o : Oper} {a : Act} {Q : Exit → Act → World → Prop} (hgd : o.guard = none) (s x : Operand) (t : TypeId) (ho : o.op = .call { callee := .builtin .append, args := #[s, x], argTypes := #[t, t] })
    (e : Nat) (ht : P.underlying t = some (.slice e)) {sz bytes : Nat} (hi : (P.info? e).map (fun i => (i.zero, i.size, i.bytes)) = some (some (.agg (bvA (zerosB sz))), sz, bytes))
    {d g c m : Nat} {all ext : List UInt8} {u : TypeId} (hs : a.eval s = .slice (some ⟨d, 0, none⟩) 0 0) (hx : a.eval x = .slice (some ⟨g, 0, none⟩) m c) (hB : Blk w g (bvA (all ++ ext)) u) (hl : all.length = m * sz)
    (hm : 0 < m) (hm1 : m ≤ maxLen) (hbytes : m * bytes ≤ 140737488355328)
    (h : ∀ w' cp, Blk w' w.heap.size (bvA (all ++ zerosB ((cp - m) * sz))) e → Below w.heap.size w w' → m ≤ cp → cp ≤ maxLen → wpList P ops Q rest (a.put o.dst (.slice (some ⟨w.heap.size, 0, none⟩) m cp)) w') : wpList P ops Q (o :: rest) a w := by
  refine wpList_plain hgd fun K hK => ?_
  cases hq : P.info? e with
  | none => simp [hq] at hi
  | some i =>
    obtain ⟨hz0, hz1, hz2⟩ : i.zero = some (.agg (bvA (zerosB sz))) ∧ i.size = sz ∧ i.bytes = bytes := by simpa [hq] using hi
    have hr := run_append_grow (P := P) w t o.type e i (.agg (bvA (zerosB sz))) ht hq hz0 ⟨d, 0, none⟩ 0 0 [] (by simp) (fun j u hu => by simp at hu) ⟨g, 0, none⟩ m c (bvs all) (by rw [bvs_length, hz1, hl]) (fun j v hv => by
      have hj : j < all.length := by
        have := (List.getElem?_eq_some_iff.1 hv).1
        rwa [bvs_length] at this
      have hadd : (⟨g, 0, none⟩ : Addr).add j = ⟨g, j, none⟩ := by unfold Addr.add; split <;> simp_all
      rw [hadd, hB.cell, bvA_get _ _ (by simp; omega), ← hv, bvs_get _ j hj]
      simp [List.getElem_append_left hj]) (by omega) (by unfold maxLen at hm1; omega) (growslice_fits (by omega) (by rw [hz2]; simpa using hbytes))
    have hcap := grownCap_ge w m 0 e
    have hcm := grownCap_le_maxLen w m 0 e hm1
    have e2 : (([] : List Value).toArray ++ (bvs all).toArray ++ Builtin.zeroCells (Value.agg (bvA (zerosB sz))).cells (grownCap w m 0 e - m)) = bvA (all ++ zerosB ((grownCap w m 0 e - m) * sz)) := by
      show ([] : List Value).toArray ++ (bvs all).toArray ++ Builtin.zeroCells (bvA (zerosB sz)) (grownCap w m 0 e - m) = _
      rw [zeroCells_bytes]
      simp [bvA, bvs_append]
    simp only [Nat.zero_add] at hr
    rw [e2] at hr
    unfold Oper.wp execOp
    simp only [ho, resolve, invoke, builtin, Sem.run_bind, Sem.run_pure, Result.andThen_ok, List.map_toArray, List.map_cons, List.map_nil, hs, hx, hr]
    exact hK _ _ (h _ _ (Blk.new w.drew _ _) ⟨rfl, rfl, rfl, by simp, fun k hk => heap_alloc_old w.drew _ hk⟩ hcap hcm)
end
end Go.Proofs.Ytbmcajhknohhdaa
