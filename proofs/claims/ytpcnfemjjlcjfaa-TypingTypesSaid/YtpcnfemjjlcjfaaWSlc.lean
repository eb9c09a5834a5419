/-
  Slices of structs (or arrays) in memory, of any type: so many cells an element; loaded, made, appended to, copied.
-/
import Derived.Laws.Append
import Derived.Laws.MakeOwn
import Derived.Laws.OwnMore
import Derived.Maps.AppendAt
import Derived.Great.BuildSlice
import Derived.Test.YtpcnfemjjlcjfaaWArr
/-! Slc -/
namespace Go.Proofs.Ytpcnfemjjlcjfaa
open Go.RowKit

/-- These cells lie in memory from here on. -/
def CellsAt (w : World) (b off : Nat) (cs : Array Value) : Prop := ∀ j u, cs[j]? = some u → w.cell? ⟨b, off + j, none⟩ = some u
theorem CellsAt.below {B b off : Nat} {w w' : World} {cs : Array Value} (h : CellsAt w b off cs) (hB : Below B w w') (hb : b < B) : CellsAt w' b off cs := fun j u hu => (hB.cell (p := ⟨b, off + j, none⟩) hb).trans (h j u hu)
theorem run_load_cells {P : Program} {w : World} {b off : Nat} {new : Array Value} {ty : TypeId} {d : TypeDesc} (h : CellsAt w b off new) (hu : P.underlying ty = some d) (hw : rowD d = true) (hi : (P.info? ty).map (·.size) = some new.size) :
    (loadVar ty ⟨b, off, none⟩).run P w = .ok (.agg new) w := by
  have hl : (loadCells ⟨b, off, none⟩ new.toList.length).run P w = .ok new.toList.toArray w :=
    run_loadCells_list (P := P) w ⟨b, off, none⟩ _ (fun j v hv => by
      have hadd : (⟨b, off, none⟩ : Addr).add j = ⟨b, off + j, none⟩ := by unfold Addr.add; split <;> simp_all
      rw [Array.getElem?_toList] at hv
      rw [hadd]; exact h j v hv)
  rw [Array.length_toList] at hl
  cases hq : P.info? ty with
  | none => simp [hq] at hi
  | some i =>
    have hs : i.size = new.size := by simpa [hq] using hi
    have hagg : (isAgg ty).run P w = .ok true w := by
      unfold isAgg
      rw [Sem.run_bind, run_underlying hu w]
      cases d <;> first | rfl | cases hw
    simp [loadVar, Sem.run_bind, hagg, sizeOf, typeInfo, hq, hs, hl]
theorem exec_load_cells {P : Program} {w : World} {o : Oper} {a : Act} {ty : TypeId} {x : Operand} {b off : Nat} {new : Array Value} {d : TypeDesc} (ho : o.op = .load ty x) (hx : a.eval x = .pointer (some ⟨b, off, none⟩)) (h : CellsAt w b off new) (hu : P.underlying ty = some d) (hw : rowD d = true) (hi : (P.info? ty).map (·.size) = some new.size) :
    (execOp a.eval o).run P w = .ok (.value (.agg new)) w := by
  unfold execOp
  simp only [ho, hx, Instr.loadAt, Instr.sureAddr, Sem.run_bind, Sem.run_pure, Result.andThen_ok, run_load_cells (P := P) h hu hw hi]
theorem wpList_load_cells {P : Program} {w : World} {ops : Array Oper} {rest : List Oper} {o : Oper} {a : Act} {Q : Exit → Act → World → Prop} (hgd : Region.wanted o (yielded ops a.tmps) = true) (ty : TypeId) (x : Operand) (ho : o.op = .load ty x)
    {b off : Nat} {new : Array Value} {d : TypeDesc} (hx : a.eval x = .pointer (some ⟨b, off, none⟩)) (h : CellsAt w b off new) (hu : P.underlying ty = some d) (hw : rowD d = true) (hi : (P.info? ty).map (·.size) = some new.size)
    (hK : wpList P ops Q rest (a.put o.dst (.agg new)) w) : wpList P ops Q (o :: rest) a w :=
  wpList_step fun _ hK' => by
    rw [if_pos hgd]
    unfold Oper.wp
    rw [exec_load_cells ho hx h hu hw hi]
    exact hK' _ _ hK

section
variable {α : Type} {C : α → Array Value} {k : Nat} {ok : α → Prop}
/-- The cells of a row of such. -/
def flatC (C : α → Array Value) (l : List α) : List Value := l.flatMap fun c => (C c).toList
theorem flatC_app (l m : List α) : flatC C (l ++ m) = flatC C l ++ flatC C m := by simp [flatC]
theorem flatC_length (hk : ∀ c, (C c).size = k) : ∀ l : List α, (flatC C l).length = l.length * k
  | [] => by simp [flatC]
  | c :: l => by
    show ((C c).toList ++ flatC C l).length = _
    rw [List.length_append, flatC_length hk l, Array.length_toList, hk, List.length_cons, Nat.succ_mul, Nat.add_comm]
theorem flatC_get (hk : ∀ c, (C c).size = k) : ∀ (l : List α) (i : Nat) (h : i < l.length) (j : Nat) (u : Value), (C l[i])[j]? = some u → (flatC C l)[i * k + j]? = some u
  | c :: l, 0, _, j, u, hu => by
    have hj : j < (C c).size := (Array.getElem?_eq_some_iff.1 hu).1
    show ((C c).toList ++ flatC C l)[0 * k + j]? = some u
    rw [Nat.zero_mul, Nat.zero_add, List.getElem?_append_left (by rw [Array.length_toList]; exact hj), Array.getElem?_toList]
    exact hu
  | c :: l, i + 1, h, j, u, hu => by
    show ((C c).toList ++ flatC C l)[(i + 1) * k + j]? = some u
    rw [List.getElem?_append_right (by rw [Array.length_toList, hk, Nat.succ_mul]; omega), Array.length_toList, hk, show (i + 1) * k + j - k = i * k + j by rw [Nat.succ_mul]; omega]
    exact flatC_get hk l i (by simpa using h) j u hu
theorem flatC_cells (h1 : ∀ c, (C c).all (·.oneCell') = true) (l : List α) : ∀ u ∈ flatC C l, u.oneCell' = true := by
  intro u hu
  obtain ⟨c, -, h⟩ := List.mem_flatMap.1 hu
  have h2 := h1 c
  rw [Array.all_eq_true'] at h2
  exact h2 u (Array.mem_toList_iff.1 h)
/-- In the world w the slice v holds just these. -/
def SlAt (C : α → Array Value) (k : Nat) (ok : α → Prop) (w : World) (v : Value) (l : List α) : Prop :=
  ∃ p cap, v = .slice p l.length cap ∧ (l.length ≤ cap ∧ cap ≤ 9223372036854775807) ∧ (l ≠ [] → ∃ b off, p = some ⟨b, off, none⟩ ∧ b < w.heap.size ∧ ∀ i, (h : i < l.length) → ok l[i] ∧ CellsAt w b (off + i * k) (C l[i]))
theorem SlAt.below {B : Nat} {w w' : World} {v : Value} {l : List α} (h : SlAt C k ok w v l) (hB : Below B w w') (hs : w.heap.size ≤ B) : SlAt C k ok w' v l := by
  obtain ⟨p, cap, h1, h2, h3⟩ := h
  refine ⟨p, cap, h1, h2, fun hne => ?_⟩
  obtain ⟨b, off, h5, h6, h7⟩ := h3 hne
  exact ⟨b, off, h5, Nat.lt_of_lt_of_le h6 hB.size, fun i hi => ⟨(h7 i hi).1, (h7 i hi).2.below hB (Nat.lt_of_lt_of_le h6 hs)⟩⟩
theorem SlAt.nil (w : World) : SlAt C k ok w (.slice none 0 0) [] := ⟨none, 0, rfl, ⟨Nat.le_refl _, by decide⟩, fun h => absurd rfl h⟩
/-- A row that is owned is such a slice. -/
theorem SlAt.ofRow (hk : ∀ c, (C c).size = k) {w : World} {base e : Nat} {v : Value} {l : List α} (h : w.ownsRow base e k v l.length (flatC C l)) (hc : ∀ c ∈ l, ok c) : SlAt C k ok w v l := by
  obtain ⟨-, ⟨rfl, h0⟩ | ⟨g, cap, cur, rfl, hb, hg, hcp, hm, hs, ht⟩⟩ := h
  · have e0 : l = [] := List.eq_nil_of_length_eq_zero h0
    subst e0
    exact SlAt.nil w
  · refine ⟨_, cap, rfl, ⟨hcp, by unfold maxLen at hm; exact hm⟩, fun _ => ⟨g, 0, rfl, lt_of_block hg, fun i hi => ⟨hc _ (List.getElem_mem hi), fun j u hu => ?_⟩⟩⟩
    have hcell : ∀ k, w.cell? ⟨g, k, none⟩ = cur[k]? := fun k => Blk.cell (w := w) (t := e) hg k
    have hkk : ∀ k u, (flatC C l)[k]? = some u → cur[k]? = some u := fun k u hu => by
      rw [← ht, List.getElem?_take] at hu
      split at hu
      · rw [← hu, Array.getElem?_toList]
      · cases hu
    rw [Nat.zero_add, hcell]
    exact hkk _ _ (flatC_get hk l i hi j u hu)
/-- A block of just these. -/
theorem SlAt.ofBlk (hk : ∀ c, (C c).size = k) {w : World} {g : Nat} {t : TypeId} {l : List α} (h : Blk w g (flatC C l).toArray t) (hl : l.length ≤ 9223372036854775807) (hc : ∀ c ∈ l, ok c) : SlAt C k ok w (.slice (some ⟨g, 0, none⟩) l.length l.length) l :=
  ⟨_, l.length, rfl, ⟨Nat.le_refl _, hl⟩, fun _ => ⟨g, 0, rfl, h.lt, fun i hi => ⟨hc _ (List.getElem_mem hi), fun j u hu => by
    rw [Nat.zero_add, Blk.cell h, List.getElem?_toArray]
    exact flatC_get hk l i hi j u hu⟩⟩⟩
/-- .. and it is a row that is owned. -/
theorem own_ofBlk (hk : ∀ c, (C c).size = k) {w : World} {base g : Nat} {t : TypeId} {l : List α} (h : Blk w g (flatC C l).toArray t) (hl : l.length ≤ maxLen) (hb : base ≤ g) : w.ownsRow base t k (.slice (some ⟨g, 0, none⟩) l.length l.length) l.length (flatC C l) :=
  ⟨flatC_length hk l, .inr ⟨g, l.length, _, rfl, hb, h, Nat.le_refl _, hl, by simp [flatC_length hk], by
    rw [List.toList_toArray]; exact List.take_of_length_le (by rw [flatC_length hk]; exact Nat.le_refl _)⟩⟩
theorem own_belowC {w w' : World} {base e n z : Nat} {v : Value} {xs : List Value} (h : w.ownsRow base e z v n xs) (hB : Below w.heap.size w w') : w'.ownsRow base e z v n xs := by
  obtain ⟨h1, h2⟩ := h
  refine ⟨h1, ?_⟩
  rcases h2 with h2 | ⟨g, cap, cur, rfl, hg, hgg, rest⟩
  · exact .inl h2
  · exact .inr ⟨g, cap, cur, rfl, hg, (hB.block g (Array.getElem?_eq_some_iff.1 hgg).1).trans hgg, rest⟩
/-- What a slice's cells are, in a row. -/
theorem SlAt.news (hk : ∀ c, (C c).size = k) (hk0 : 0 < k) {w : World} {b off n c : Nat} {l : List α} (h : SlAt C k ok w (.slice (some ⟨b, off, none⟩) n c) l) : ∀ j u, (flatC C l)[j]? = some u → w.cell? ((⟨b, off, none⟩ : Addr).add j) = some u := by
  intro j u hu
  have hj : j < l.length * k := by rw [← flatC_length hk l]; exact (List.getElem?_eq_some_iff.1 hu).1
  obtain ⟨p, cap, he, -, h3⟩ := h
  obtain ⟨b2, off2, h5, -, h7⟩ := h3 (fun e => by rw [e] at hj; simp at hj)
  cases he; cases h5
  have hd : j / k < l.length := (Nat.div_lt_iff_lt_mul hk0).2 hj
  have hm : j % k < k := Nat.mod_lt _ hk0
  obtain ⟨x, hx⟩ : ∃ x, (C l[j / k])[j % k]? = some x := ⟨(C l[j / k])[j % k]'(by rw [hk]; exact hm), Array.getElem?_eq_getElem _⟩
  have h2 := flatC_get hk l (j / k) hd (j % k) x hx
  rw [show j / k * k + j % k = j from Nat.div_add_mod' j k, hu] at h2
  cases h2
  have h8 := (h7 (j / k) hd).2 (j % k) u hx
  have hadd : (⟨b, off, none⟩ : Addr).add j = ⟨b, off + j, none⟩ := by unfold Addr.add; split <;> simp_all
  rw [hadd, ← h8, Nat.add_assoc, show j / k * k + j % k = j from Nat.div_add_mod' j k]
theorem SlAt.shape {w : World} {v : Value} {l : List α} (h : SlAt C k ok w v l) (hne : l ≠ []) : ∃ b off cap, v = .slice (some ⟨b, off, none⟩) l.length cap ∧ l.length ≤ cap ∧ cap ≤ 9223372036854775807 ∧ b < w.heap.size := by
  obtain ⟨p, cap, rfl, ⟨h1, h2⟩, h3⟩ := h
  obtain ⟨b, off, rfl, h6, -⟩ := h3 hne
  exact ⟨b, off, cap, rfl, h1, h2, h6⟩
theorem SlAt.elem {w : World} {b off n c : Nat} {l : List α} (h : SlAt C k ok w (.slice (some ⟨b, off, none⟩) n c) l) {i : Nat} (hi : i < l.length) : ok l[i] ∧ CellsAt w b (off + i * k) (C l[i]) := by
  obtain ⟨p, cap, he, -, h3⟩ := h
  obtain ⟨b2, off2, h5, -, h7⟩ := h3 (fun e => by rw [e] at hi; cases hi)
  cases he; cases h5
  exact h7 i hi
theorem SlAt.drop {w : World} {b off n c d : Nat} {l : List α} (h : SlAt C k ok w (.slice (some ⟨b, off, none⟩) n c) l) : SlAt C k ok w (.slice (some ⟨b, off + d * k, none⟩) (n - d) (c - d)) (l.drop d) := by
  obtain ⟨p, cap, he, ⟨h1, h2⟩, h3⟩ := h
  cases he
  refine ⟨_, c - d, by rw [List.length_drop], ⟨by rw [List.length_drop]; omega, by omega⟩, fun hne => ?_⟩
  obtain ⟨b2, off2, h5, h6, h7⟩ := h3 (fun e => by rw [e] at hne; simp at hne)
  cases h5
  refine ⟨b, off + d * k, rfl, h6, fun i hi => ?_⟩
  have hi2 : d + i < l.length := by rw [List.length_drop] at hi; omega
  have h8 := h7 (d + i) hi2
  rw [List.getElem_drop, show off + d * k + i * k = off + (d + i) * k by rw [Nat.add_mul]; omega]
  exact h8
/-- []T{x, ..}: a slice literal of such. -/
theorem wpList_build_flat {P : Program} (hk : ∀ c, (C c).size = k) (hk0 : 0 < k) {w : World} {ops : Array Oper} {rest : List Oper} {o : Oper} {a : Act} {Q : Exit → Act → World → Prop} (hgd : o.guard = none) (t e : TypeId) (n : Nat) (parts : Array (Nat × Operand)) (ho : o.op = .buildSlice t n parts)
    (hu : P.underlying t = some (.slice e)) {z : α} {bytes : Nat} (hi : (P.info? e).map (fun i => (i.zero, i.size, i.bytes)) = some (some (.agg (C z)), k, bytes)) (l : List α) (hl : l ≠ []) (hn : n = l.length) (hsm : l.length * k ≤ 2 ^ 24)
    (hp : (parts.toList.map fun x => (x.1, a.eval x.2)) = ((l.map fun c => Value.agg (C c)).zipIdx 0).map fun x => (x.2, x.1))
    (h : wpList P ops Q rest (a.put o.dst (.slice (some ⟨w.heap.size, 0, none⟩) n n)) (w.alloc (.cells (flatC C l).toArray e))) : wpList P ops Q (o :: rest) a w := by
  obtain ⟨i, hi2, hx2⟩ := Option.map_eq_some_iff.1 hi
  simp only [Prod.mk.injEq] at hx2
  obtain ⟨hz0, hz1, -⟩ := hx2
  have hlen : 0 < l.length := List.length_pos_iff.2 hl
  have hpos : 0 < l.length * k := Nat.mul_pos hlen hk0
  subst hn
  refine wpList_buildSlice hgd t e l.length parts ho _ i _ hu hi2 hz0 (by rw [hz1]; omega) (by rw [hz1]; omega) ?_ h
  rw [Array.toList_map, show (parts.toList.map fun (x : Nat × Operand) => (x.1, a.eval x.2)) = _ from hp, hz1]
  have hw := Great.fill_whole hk0 (l.map fun c => Value.agg (C c)) ((Array.range (l.length * k)).map ((Value.agg (C z)).cells[· % (Value.agg (C z)).cells.size]!)) (fun v hv => by
    obtain ⟨c, -, rfl⟩ := List.mem_map.1 hv
    exact hk c) (by simp)
  rw [hw]
  congr 2
  unfold flatC
  rw [List.flatMap_map]
  rfl
end
end Go.Proofs.Ytpcnfemjjlcjfaa
