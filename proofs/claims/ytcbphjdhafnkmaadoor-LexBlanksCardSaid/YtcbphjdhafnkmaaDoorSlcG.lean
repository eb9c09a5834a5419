/-
  Slices of structs (or arrays), of any type: append to one that has no room left makes new memory; a slice whose capacity is cut.
-/
import Derived.Test.YtcbphjdhafnkmaaDoorSlc
import Derived.Test.YtcbphjdhafnkmaaDoorFactsT
namespace Go.Proofs.YtcbphjdhafnkmaaDoor
open Go.RowKit

theorem own_base {w : World} {base base' e n k : Nat} {v : Value} {xs : List Value} (h : w.ownsRow base' e k v n xs) (hb : base ≤ base') : w.ownsRow base e k v n xs := by
  obtain ⟨h1, h2 | ⟨g, cap, cur, e, hg, rest⟩⟩ := h
  · exact ⟨h1, .inl h2⟩
  · exact ⟨h1, .inr ⟨g, cap, cur, e, Nat.le_trans hb hg, rest⟩⟩
section
variable {P : Program} {α : Type} {C : α → Array Value} {k : Nat} {ok : α → Prop}
theorem SlAt.cut {w : World} {p : Option Addr} {n c : Nat} {l : List α} (h : SlAt C k ok w (.slice p n c) l) : SlAt C k ok w (.slice p n n) l := by
  obtain ⟨q, cap, e, ⟨h1, h2⟩, h3⟩ := h
  cases e
  exact ⟨_, l.length, rfl, ⟨Nat.le_refl _, by omega⟩, h3⟩
/-- append to a full slice: what runs. -/
theorem run_append_full (hk : ∀ c, (C c).size = k) (hk0 : 0 < k) {w : World} {t ty e : TypeId} (ht : P.underlying t = some (.slice e)) {z : α} {bytes : Nat} (hi : (P.info? e).map (fun i => (i.zero, i.size, i.bytes)) = some (some (.agg (C z)), k, bytes))
    {b off g o2 c : Nat} {l m : List α} (hl : SlAt C k ok w (.slice (some ⟨b, off, none⟩) l.length l.length) l) (hm : SlAt C k ok w (.slice (some ⟨g, o2, none⟩) m.length c) m) (hne : m ≠ []) (hb : (l.length + m.length) * bytes ≤ 140737488355328) (h63 : l.length + m.length ≤ maxLen) :
    ∃ cap w', (Builtin.append_ #[t, t] ty #[.slice (some ⟨b, off, none⟩) l.length l.length, .slice (some ⟨g, o2, none⟩) m.length c]).run P w = .ok (.slice (some ⟨w.heap.size, 0, none⟩) (l ++ m).length cap) w' ∧
      w'.ownsRow w.heap.size e k (.slice (some ⟨w.heap.size, 0, none⟩) (l ++ m).length cap) (l ++ m).length (flatC C (l ++ m)) ∧ (l ++ m).length ≤ cap ∧ cap ≤ maxLen ∧ Below w.heap.size w w' := by
  obtain ⟨i, hi2, hx⟩ := Option.map_eq_some_iff.1 hi
  simp only [Prod.mk.injEq] at hx
  obtain ⟨hz0, hz1, hz2⟩ := hx
  have hpos : 0 < m.length := List.length_pos_iff.2 hne
  have hr := run_append_grow (P := P) w t ty e i _ ht hi2 hz0 ⟨b, off, none⟩ l.length l.length (flatC C l) (by rw [flatC_length hk, hz1]) (hl.news hk hk0) ⟨g, o2, none⟩ m.length c (flatC C m) (by rw [flatC_length hk, hz1]) (hm.news hk hk0) (by omega) (by unfold maxLen at h63; omega) (growslice_fits (by omega) (by rw [hz2]; exact hb))
  have hge := grownCap_ge w (l.length + m.length) l.length e
  have hcm := grownCap_le_maxLen w (l.length + m.length) l.length e h63
  generalize grownCap w (l.length + m.length) l.length e = cap at *
  have hzs : ((Value.agg (C z)).cells).size = k := hk z
  have hlen : (flatC C l ++ flatC C m).length = (l.length + m.length) * k := by rw [List.length_append, flatC_length hk, flatC_length hk, Nat.add_mul]
  refine ⟨cap, _, by rw [hr, List.length_append], ⟨by rw [flatC_length hk], .inr ⟨w.heap.size, cap, _, rfl, Nat.le_refl _, heap_alloc_new w.drew _, by rw [List.length_append]; exact hge, hcm, ?_, ?_⟩⟩, by rw [List.length_append]; exact hge, hcm, ⟨rfl, rfl, rfl, by simp, fun j hj => heap_alloc_old w.drew _ hj⟩⟩
  · simp only [Array.size_append, List.size_toArray, size_zeroCells, hzs, flatC_length hk, ← Nat.add_mul]
    congr 1
    omega
  · simp only [Array.toList_append, List.append_assoc]
    rw [← List.append_assoc, List.length_append, ← hlen, flatC_app]
    exact List.take_left
theorem exec_append_full (hk : ∀ c, (C c).size = k) (hk0 : 0 < k) {w : World} {o : Oper} {a : Act} (s x : Operand) (t : TypeId) (ho : o.op = .call { callee := .builtin .append, args := #[s, x], argTypes := #[t, t] }) {e : TypeId} (ht : P.underlying t = some (.slice e)) {z : α} {bytes : Nat} (hi : (P.info? e).map (fun i => (i.zero, i.size, i.bytes)) = some (some (.agg (C z)), k, bytes))
    {b off g o2 c : Nat} {l m : List α} (hs : a.eval s = .slice (some ⟨b, off, none⟩) l.length l.length) (hx : a.eval x = .slice (some ⟨g, o2, none⟩) m.length c)
    (hl : SlAt C k ok w (.slice (some ⟨b, off, none⟩) l.length l.length) l) (hm : SlAt C k ok w (.slice (some ⟨g, o2, none⟩) m.length c) m) (hne : m ≠ []) (hb : (l.length + m.length) * bytes ≤ 140737488355328) (h63 : l.length + m.length ≤ maxLen) :
    ∃ cap w', (execOp a.eval o).run P w = .ok (.value (.slice (some ⟨w.heap.size, 0, none⟩) (l ++ m).length cap)) w' ∧
      w'.ownsRow w.heap.size e k (.slice (some ⟨w.heap.size, 0, none⟩) (l ++ m).length cap) (l ++ m).length (flatC C (l ++ m)) ∧ (l ++ m).length ≤ cap ∧ cap ≤ maxLen ∧ Below w.heap.size w w' := by
  obtain ⟨cap, w', hr, h⟩ := run_append_full (ty := o.type) hk hk0 ht hi hl hm hne hb h63
  refine ⟨cap, w', ?_, h⟩
  unfold execOp
  simp only [ho, resolve, invoke, builtin, Sem.run_bind, Sem.run_pure, Result.andThen_ok, List.map_toArray, List.map_cons, List.map_nil, hs, hx, hr]
theorem wpList_append_full (hk : ∀ c, (C c).size = k) (hk0 : 0 < k) {w : World} {ops : Array Oper} {rest : List Oper} {o : Oper} {a : Act} {Q : Exit → Act → World → Prop} (hgd : o.guard = none) (s x : Operand) (t : TypeId) (ho : o.op = .call { callee := .builtin .append, args := #[s, x], argTypes := #[t, t] }) {e : TypeId} (ht : P.underlying t = some (.slice e)) {z : α} {bytes : Nat} (hi : (P.info? e).map (fun i => (i.zero, i.size, i.bytes)) = some (some (.agg (C z)), k, bytes))
    {b off g o2 c : Nat} {l m : List α} (hs : a.eval s = .slice (some ⟨b, off, none⟩) l.length l.length) (hx : a.eval x = .slice (some ⟨g, o2, none⟩) m.length c)
    (hl : SlAt C k ok w (.slice (some ⟨b, off, none⟩) l.length l.length) l) (hm : SlAt C k ok w (.slice (some ⟨g, o2, none⟩) m.length c) m) (hne : m ≠ []) (hb : (l.length + m.length) * bytes ≤ 140737488355328) (h63 : l.length + m.length ≤ maxLen)
    (h : ∀ cap w', w'.ownsRow w.heap.size e k (.slice (some ⟨w.heap.size, 0, none⟩) (l ++ m).length cap) (l ++ m).length (flatC C (l ++ m)) → (l ++ m).length ≤ cap → cap ≤ maxLen → Below w.heap.size w w' → wpList P ops Q rest (a.put o.dst (.slice (some ⟨w.heap.size, 0, none⟩) (l ++ m).length cap)) w') : wpList P ops Q (o :: rest) a w := by
  refine wpList_plain hgd fun K hK => ?_
  obtain ⟨cap, w', hr, h1, h2, h3, h4⟩ := exec_append_full hk hk0 s x t ho ht hi hs hx hl hm hne hb h63
  unfold Oper.wp
  rw [hr]
  exact hK _ _ (h _ _ h1 h2 h3 h4)
theorem leads_append_full (hk : ∀ c, (C c).size = k) (hk0 : 0 < k) {w : World} {o : Oper} {a : Act} {R : Value → World → Prop} (s x : Operand) (t : TypeId) (ho : o.op = .call { callee := .builtin .append, args := #[s, x], argTypes := #[t, t] }) {e : TypeId} (ht : P.underlying t = some (.slice e)) {z : α} {bytes : Nat} (hi : (P.info? e).map (fun i => (i.zero, i.size, i.bytes)) = some (some (.agg (C z)), k, bytes))
    {b off g o2 c : Nat} {l m : List α} (hs : a.eval s = .slice (some ⟨b, off, none⟩) l.length l.length) (hx : a.eval x = .slice (some ⟨g, o2, none⟩) m.length c)
    (hl : SlAt C k ok w (.slice (some ⟨b, off, none⟩) l.length l.length) l) (hm : SlAt C k ok w (.slice (some ⟨g, o2, none⟩) m.length c) m) (hne : m ≠ []) (hb : (l.length + m.length) * bytes ≤ 140737488355328) (h63 : l.length + m.length ≤ maxLen)
    (h : ∀ cap w', w'.ownsRow w.heap.size e k (.slice (some ⟨w.heap.size, 0, none⟩) (l ++ m).length cap) (l ++ m).length (flatC C (l ++ m)) → (l ++ m).length ≤ cap → cap ≤ maxLen → Below w.heap.size w w' → R (.slice (some ⟨w.heap.size, 0, none⟩) (l ++ m).length cap) w') : leads P o a w R := by
  obtain ⟨cap, w', hr, h1, h2, h3, h4⟩ := exec_append_full hk hk0 s x t ho ht hi hs hx hl hm hne hb h63
  exact leads_value hr (h _ _ h1 h2 h3 h4)
/-- What a slice's cells are, where it may be nil. -/
def RowIs (C : α → Array Value) (w : World) (u : Value) (l : List α) : Prop := u = .slice none 0 0 ∧ l = [] ∨ ∃ ad c, u = .slice (some ad) l.length c ∧ ∀ j x, (flatC C l)[j]? = some x → w.cell? (ad.add j) = some x
theorem rowIs_own (_hk : ∀ c, (C c).size = k) {w : World} {base e : Nat} {u : Value} {l : List α} (h : w.ownsRow base e k u l.length (flatC C l)) : RowIs C w u l := by
  obtain ⟨-, ⟨rfl, h0⟩ | ⟨g, cap, cur, rfl, hb, hg, hcp, hm, hs, ht⟩⟩ := h
  · exact .inl ⟨rfl, List.eq_nil_of_length_eq_zero h0⟩
  · refine .inr ⟨_, cap, rfl, fun j x hx => ?_⟩
    have hadd : (⟨g, 0, none⟩ : Addr).add j = ⟨g, j, none⟩ := by unfold Addr.add; split <;> simp_all
    rw [← ht, List.getElem?_take] at hx
    split at hx
    · rw [hadd, Blk.cell (w := w) (t := e) hg, ← hx, Array.getElem?_toList]
    · cases hx
theorem rowIs_at (hk : ∀ c, (C c).size = k) (hk0 : 0 < k) {w : World} {b off n c : Nat} {l : List α} (h : SlAt C k ok w (.slice (some ⟨b, off, none⟩) n c) l) : RowIs C w (.slice (some ⟨b, off, none⟩) n c) l := by
  have h2 := h.news hk hk0
  obtain ⟨p, cap, he, -, -⟩ := h
  cases he
  exact .inr ⟨_, _, rfl, h2⟩
/-- append of a row to a row of the call's own. -/
theorem wpList_append_rows (hk : ∀ c, (C c).size = k) (hk0 : 0 < k) (h1 : ∀ c, (C c).all (·.oneCell') = true) {w : World} {ops : Array Oper} {rest : List Oper} {o : Oper} {a : Act} {Q : Exit → Act → World → Prop} (hgd : o.guard = none) (s x : Operand) (t : TypeId)
    (ho : o.op = .call { callee := .builtin .append, args := #[s, x], argTypes := #[t, t] }) (base : Nat) {e : TypeId} (ht : P.underlying t = some (.slice e)) {z : Value} {bytes : Nat} (hi : (P.info? e).map (fun i => (i.zero, i.size, i.bytes)) = some (some z, k, bytes)) (hz : z.cells.size = k)
    {v u : Value} {m l : List α} (hs : a.eval s = v) (hx : a.eval x = u) (hown : w.ownsRow base e k v m.length (flatC C m)) (hu : RowIs C w u l) (h63 : m.length + l.length ≤ maxLen) (hb : (m.length + l.length) * bytes ≤ 140737488355328) (hbase : base ≤ w.heap.size)
    (h : ∀ v' w', w'.ownsRow base e k v' (m ++ l).length (flatC C (m ++ l)) → w.grownBy w' v.ownBlock → wpList P ops Q rest (a.put o.dst v') w') : wpList P ops Q (o :: rest) a w := by
  obtain ⟨i, hi2, hx2⟩ := Option.map_eq_some_iff.1 hi
  simp only [Prod.mk.injEq] at hx2
  obtain ⟨hz0, hz1, hz2⟩ := hx2
  rcases hu with ⟨rfl, rfl⟩ | ⟨ad, c, rfl, hn⟩
  · refine wpList_plain hgd fun K hK => ?_
    have hr := run_append_owned_none (P := P) (w := w) base t o.type e i k ht hi2 v m.length (flatC C m) hown
    unfold Oper.wp execOp
    simp only [ho, resolve, invoke, builtin, Sem.run_bind, Sem.run_pure, Result.andThen_ok, List.map_toArray, List.map_cons, List.map_nil, hs, hx, hr]
    refine hK _ _ (h v w (by rw [List.append_nil]; exact hown) ⟨rfl, rfl, rfl, Nat.le_refl _, fun _ _ _ => rfl⟩)
  · refine wpList_append_own_at _ hgd s x t ho base e i z k bytes ht hi2 hz0 hz1 hz2 hz hk0 v m.length (flatC C m) hs hown ad l.length c (flatC C l) hx (flatC_length hk l) hn (flatC_cells h1 l) h63 hb hbase fun v' w' h2 h3 _ _ => h v' w' ?_ h3
    rw [List.length_append, flatC_app]
    exact h2
/-- A slice literal of such: what runs. -/
theorem exec_build_flat (hk : ∀ c, (C c).size = k) (hk0 : 0 < k) {w : World} {o : Oper} {a : Act} (t e : TypeId) (n : Nat) (parts : Array (Nat × Operand)) (ho : o.op = .buildSlice t n parts)
    (hu : P.underlying t = some (.slice e)) {z : α} {bytes : Nat} (hi : (P.info? e).map (fun i => (i.zero, i.size, i.bytes)) = some (some (.agg (C z)), k, bytes)) (l : List α) (hl : l ≠ []) (hn : n = l.length) (hsm : l.length * k ≤ 2 ^ 24)
    (hp : (parts.toList.map fun x => (x.1, a.eval x.2)) = ((l.map fun c => Value.agg (C c)).zipIdx 0).map fun x => (x.2, x.1)) :
    (execOp a.eval o).run P w = .ok (.value (.slice (some ⟨w.heap.size, 0, none⟩) n n)) (w.alloc (.cells (flatC C l).toArray e)) := by
  obtain ⟨i, hi2, hx2⟩ := Option.map_eq_some_iff.1 hi
  simp only [Prod.mk.injEq] at hx2
  obtain ⟨hz0, hz1, -⟩ := hx2
  have hpos : 0 < l.length * k := Nat.mul_pos (List.length_pos_iff.2 hl) hk0
  subst hn
  have hf : Instr.fill (fun j => some (j * i.size, i.size)) ((Array.range (l.length * i.size)).map ((Value.agg (C z)).cells[· % (Value.agg (C z)).cells.size]!)) (parts.map fun (i, x) => (i, a.eval x)).toList = some (flatC C l).toArray := by
    rw [Array.toList_map, show (parts.toList.map fun (x : Nat × Operand) => (x.1, a.eval x.2)) = _ from hp, hz1]
    rw [Great.fill_whole hk0 (l.map fun c => Value.agg (C c)) ((Array.range (l.length * k)).map ((Value.agg (C z)).cells[· % (Value.agg (C z)).cells.size]!)) (fun v hv => by
      obtain ⟨c, -, rfl⟩ := List.mem_map.1 hv
      exact hk c) (by simp)]
    congr 2
    unfold flatC
    rw [List.flatMap_map]
    rfl
  unfold execOp
  simp only [ho, Sem.run_bind, run_buildSlice w t e l.length _ (flatC C l).toArray i _ hu hi2 hz0 (by rw [hz1]; omega) (by rw [hz1]; omega) hf, Result.andThen_ok, Sem.run_pure]
/-- s[d:] of a full slice. -/
theorem exec_drop_full {w : World} {o : Oper} {a : Act} (t e : TypeId) (x y : Operand) (ho : o.op = .slice t x (some y) none none) (hu : P.underlying t = some (.slice e)) (hs : (P.info? e).map (·.size) = some k) {b n d : Nat} (hx : a.eval x = .slice (some ⟨b, 0, none⟩) n n) (hy : a.eval y = .int .i64 (d : Int)) (hd : d < n) :
    (execOp a.eval o).run P w = .ok (.value (.slice (some ⟨b, d * k, none⟩) (n - d) (n - d))) w := by
  obtain ⟨i, hi2, hz⟩ := Option.map_eq_some_iff.1 hs
  have h0 : ¬ n = d := by omega
  have h1 : d ≤ n := by omega
  unfold execOp
  simp only [ho, Sem.run_bind, Sem.run_pure]
  simp [Instr.sliceAt, Instr.slice, run_underlying hu, Instr.sliceBounds, Instr.sliceBound, asIntOf, hx, hy, h0, h1, sizeOf, typeInfo, hi2, hz, Addr.add]
  exact fun h => h.symm
end
end Go.Proofs.YtcbphjdhafnkmaaDoor
