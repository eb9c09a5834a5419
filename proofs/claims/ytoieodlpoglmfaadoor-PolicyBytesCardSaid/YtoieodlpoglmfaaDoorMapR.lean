/-
  Maps of tags in memory: as values, as blocks of sixteen cells; loads, stores and comparisons of whole ones.
-/
import Derived.Test.YtoieodlpoglmfaaDoorRelM
import Derived.Test.YtoieodlpoglmfaaDoorPair
import Derived.Deep.WholeRow
import Derived.ChangeKeysEq
import Derived.Laws.Rows
import Derived.Outline
namespace Go.Proofs.YtoieodlpoglmfaaDoor
open Go.RowKit

/-- A map's cells. -/
def mapC (f : Nat → Nat) : Array Value := ((List.range 16).map fun t => Value.int .u8 (f t : Nat)).toArray
theorem mapC_size (f : Nat → Nat) : (mapC f).size = 16 := by simp [mapC]
theorem mapC_get (f : Nat → Nat) {k : Nat} (h : k < 16) : (mapC f)[k]? = some (.int .u8 (f k : Nat)) := by simp [mapC, h]
theorem mapC_congr {f g : Nat → Nat} (h : ∀ t, t < 16 → f t = g t) : mapC f = mapC g := by
  unfold mapC
  congr 1
  exact List.map_congr_left fun t ht => by rw [h t (List.mem_range.1 ht)]
theorem mapC_set (f : Nat → Nat) {k v : Nat} (h : k < 16) : (mapC f).setIfInBounds k (.int .u8 (v : Nat)) = mapC (updF f k v) := by
  apply Array.ext_getElem?
  intro i
  rw [Array.getElem?_setIfInBounds]
  by_cases hi : i < 16
  · rw [mapC_get _ hi]
    by_cases e : k = i
    · subst e; rw [mapC_get _ h]; simp [updF, mapC_size, h]
    · have e2 : ¬ i = k := fun h => e h.symm
      rw [if_neg e, mapC_get _ hi]; simp [updF, e2]
  · have h1 : ¬ k = i := by omega
    rw [if_neg h1]
    simp [mapC, hi]
theorem mapC_one (f : Nat → Nat) : (mapC f).all (·.oneCell') = true := by
  simp [mapC, Value.oneCell']
theorem mapC_eqF {f g : Nat → Nat} : mapC f = mapC g ↔ eqF f g = true := by
  rw [eqF_iff]
  refine ⟨fun h t ht => ?_, mapC_congr⟩
  have h1 := mapC_get f ht
  rw [h, mapC_get g ht] at h1
  have h2 : ((g t : Nat) : Int) = (f t : Nat) := by simpa using h1
  omega
theorem mapC_of {c : Array Value} {f : Nat → Nat} (hs : c.size = 16) (h : ∀ t, t < 16 → c[t]? = some (.int .u8 (f t : Nat))) : c = mapC f := by
  apply Array.ext_getElem?
  intro i
  by_cases hi : i < 16
  · rw [mapC_get _ hi, h i hi]
  · simp [mapC, hi, hs]

theorem infoMap : (Tryd.prog.info? 42).map (·.size) = some 16 := by kernel_rfl
theorem infoMapC (f : Nat → Nat) : (Tryd.prog.info? 42).map (·.size) = some (mapC f).size := by rw [mapC_size]; exact infoMap
theorem infoByte : ∃ i, Tryd.prog.info? 5 = some i := Go.info_of_underlying Tryd.underlying5
theorem zeroMap : (#[.int .u8 0, .int .u8 0, .int .u8 0, .int .u8 0, .int .u8 0, .int .u8 0, .int .u8 0, .int .u8 0, .int .u8 0, .int .u8 0, .int .u8 0, .int .u8 0, .int .u8 0, .int .u8 0, .int .u8 0, .int .u8 0] : Array Value) = mapC fun _ => 0 := rfl
theorem idMap : (#[.int .u8 0, .int .u8 1, .int .u8 2, .int .u8 3, .int .u8 4, .int .u8 5, .int .u8 6, .int .u8 7, .int .u8 8, .int .u8 9, .int .u8 10, .int .u8 11, .int .u8 12, .int .u8 13, .int .u8 14, .int .u8 15] : Array Value) = mapC idF := rfl

/-- Block b is a map of its own. -/
def Row (w : World) (b : Nat) (f : Nat → Nat) : Prop := w.heap[b]? = some (.cells (mapC f) 42 (0, 0))
theorem Row.lt {w : World} {b : Nat} {f : Nat → Nat} (h : Row w b f) : b < w.heap.size := lt_of_block h
theorem Row.cell {w : World} {b : Nat} {f : Nat → Nat} (h : Row w b f) {k : Nat} (hk : k < 16) : w.cell? ⟨b, k, none⟩ = some (.int .u8 (f k : Nat)) := by
  unfold Row at h; rw [cell_of_row _ _ _ _ _ _ h, mapC_get _ hk]
theorem Row.free {w : World} {b : Nat} {f : Nat → Nat} (h : Row w b f) (k : Nat) : w.frozen? ⟨b, k, none⟩ = false := frozen_of_row w b k _ _ h
theorem Row.new (w : World) (f : Nat → Nat) : Row (w.alloc (.cells (mapC f) 42)) w.heap.size f := heap_alloc_new w _
theorem Row.zero (w : World) : Row (w.alloc (.cells #[.int .u8 0, .int .u8 0, .int .u8 0, .int .u8 0, .int .u8 0, .int .u8 0, .int .u8 0, .int .u8 0, .int .u8 0, .int .u8 0, .int .u8 0, .int .u8 0, .int .u8 0, .int .u8 0, .int .u8 0, .int .u8 0] 42)) w.heap.size (fun _ => 0) := heap_alloc_new w _
theorem Row.alloc {w : World} {b : Nat} {f : Nat → Nat} (h : Row w b f) (o : Obj) : Row (w.alloc o) b f := (Below.heap_alloc w o b h.lt).trans h
theorem Row.drew {w : World} {b : Nat} {f : Nat → Nat} (h : Row w b f) : Row w.drew b f := h
theorem Row.drewN {w : World} {b : Nat} {f : Nat → Nat} (h : Row w b f) (n : Nat) : Row (w.drewN n) b f := h
theorem Row.below {B : Nat} {w w' : World} {b : Nat} {f : Nat → Nat} (h : Row w b f) (hB : Below B w w') (hb : b < B) : Row w' b f := (hB.block b hb).trans h
theorem Row.set {w : World} {b : Nat} {f : Nat → Nat} (h : Row w b f) {k v : Nat} (hk : k < 16) : Row (w.setCell ⟨b, k, none⟩ (.int .u8 (v : Nat))) b (updF f k v) := by
  unfold Row at *
  rw [heap_setCell_same w b k _ _ _ h, mapC_set _ hk]
theorem Row.set_other {w : World} {b : Nat} {f : Nat → Nat} (h : Row w b f) {a : Addr} (ha : a.block ≠ b) (u : Value) : Row (w.setCell a u) b f := (Below.heap_setCell w a u b (fun e => ha e.symm)).trans h
theorem Row.congr {w : World} {b : Nat} {f g : Nat → Nat} (h : Row w b f) (e : ∀ t, t < 16 → f t = g t) : Row w b g := by
  unfold Row at *; rw [h, mapC_congr e]

theorem drawn_below {B : Nat} {a w : World} (h : Below B a w) (n : Nat) : Below B a (w.drewN n) := ⟨h.os, h.tape, h.output, h.size, h.block⟩

/-- A whole map is written into block b. -/
structure Wrote (w w' : World) (b : Nat) (g : Nat → Nat) : Prop where
  row : Row w' b g
  size : w'.heap.size = w.heap.size
  other : ∀ k, k ≠ b → w'.heap[k]? = w.heap[k]?
  below : ∀ B, B ≤ b → Below B w w'
theorem below_setRow {w : World} {b B : Nat} {c : Array Value} (h : B ≤ b) : Below B w (w.setRow b c) where
  os := rfl
  tape := rfl
  output := rfl
  size := by simp
  block := fun i hi => by rw [setRow_other w b i c (by omega)]
theorem Wrote.of {w : World} {b : Nat} {f : Nat → Nat} (h : Row w b f) (g : Nat → Nat) : Wrote w (w.setRow b (mapC g)) b g :=
  ⟨setRow_heap w b _ _ _ _ h, by simp, fun k hk => setRow_other w b k _ hk, fun _ hB => below_setRow hB⟩
theorem Wrote.keeps {w w' : World} {b c : Nat} {g f : Nat → Nat} (h : Wrote w w' b g) (hr : Row w c f) (hc : c ≠ b) : Row w' c f := (h.other c hc).trans hr
theorem Wrote.pair {w w' : World} {b c : Nat} {g : Nat → Nat} {x y : Value} (h : Wrote w w' b g) (hr : Pair w c x y) (hc : c ≠ b) : Pair w' c x y := (h.other c hc).trans hr

theorem exec_load_map {o : Oper} {a : Act} {w : World} {x : Operand} {b : Nat} {f : Nat → Nat} (ho : o.op = .load 42 x) (hx : a.eval x = .pointer (some ⟨b, 0, none⟩)) (h : Row w b f) :
    (execOp a.eval o).run Tryd.prog w = .ok (.value (.agg (mapC f))) w := by
  unfold execOp
  simp only [ho, hx, Instr.loadAt, Instr.sureAddr, Sem.run_bind, Sem.run_pure, Result.andThen_ok, run_loadVar_row w b _ 42 (mapC f) _ _ h Tryd.underlying42 rfl (infoMapC f)]

theorem wpList_load_map {ops : Array Oper} {rest : List Oper} {o : Oper} {a : Act} {w : World} {Q : Exit → Act → World → Prop} (hgd : o.guard = none) (x : Operand) (ho : o.op = .load 42 x)
    {b : Nat} {f : Nat → Nat} (hx : a.eval x = .pointer (some ⟨b, 0, none⟩)) (h : Row w b f) (hK : wpList Tryd.prog ops Q rest (a.put o.dst (.agg (mapC f))) w) : wpList Tryd.prog ops Q (o :: rest) a w :=
  wpList_load_row hgd 42 x ho b hx 42 (mapC f) (0, 0) _ h Tryd.underlying42 rfl (infoMapC f) hK

theorem wpList_load_map_if {ops : Array Oper} {rest : List Oper} {o : Oper} {a : Act} {w : World} {Q : Exit → Act → World → Prop} (hgd : Region.wanted o (yielded ops a.tmps) = true) (x : Operand) (ho : o.op = .load 42 x)
    {b : Nat} {f : Nat → Nat} (hx : a.eval x = .pointer (some ⟨b, 0, none⟩)) (h : Row w b f) (hK : wpList Tryd.prog ops Q rest (a.put o.dst (.agg (mapC f))) w) : wpList Tryd.prog ops Q (o :: rest) a w :=
  wpList_step fun _ hK' => by
    rw [if_pos hgd]
    exact wp_load_row 42 x ho b hx 42 (mapC f) (0, 0) _ h Tryd.underlying42 rfl (infoMapC f) (hK' _ _ hK)

theorem wpList_store_map {ops : Array Oper} {rest : List Oper} {o : Oper} {a : Act} {w : World} {Q : Exit → Act → World → Prop} (hgd : o.guard = none) (hd : o.dst = none) (x y : Operand) (ho : o.op = .store 42 x y)
    {b : Nat} {f g : Nat → Nat} (hx : a.eval x = .pointer (some ⟨b, 0, none⟩)) (hy : a.eval y = .agg (mapC g)) (h : Row w b f) (hK : ∀ w', Wrote w w' b g → wpList Tryd.prog ops Q rest a w') : wpList Tryd.prog ops Q (o :: rest) a w :=
  wpList_plain hgd fun K hK' => by
    unfold Oper.wp execOp
    simp only [ho, hx, hy, Instr.storeAt, Instr.sureAddr, Sem.run_bind, Sem.run_pure, Result.andThen_ok, run_storeVar_row w b _ 42 (mapC f) (mapC g) h (infoMapC g) (by rw [mapC_size, mapC_size]) (mapC_one g)]
    have e : a.put o.dst undef = a := by rw [hd]; rfl
    exact hK' _ _ (by rw [e]; exact hK _ (Wrote.of h g))

/-- Two whole maps are compared cell by cell. -/
theorem eqItems_map (d : Nat) (f g : Nat → Nat) (w : World) : ∀ l : List Nat, (∀ i, i ∈ l → i < 16) → (Op.eqItems (d + 1) 5 1 (mapC f) (mapC g) l).run Tryd.prog w = .ok (l.all fun t => f t == g t) w
  | [], _ => by simp [Op.eqItems]
  | i :: r, h => by
    have hi := h i (by simp)
    have pf := run_part_plain (P := Tryd.prog) w (e := 5) (by kernel_rfl) (mapC_get f hi)
    have pg := run_part_plain (P := Tryd.prog) w (e := 5) (by kernel_rfl) (mapC_get g hi)
    have ih := eqItems_map d f g w r fun j hj => h j (by simp [hj])
    simp only [Op.eqItems, Nat.mul_one, Sem.run_bind, pf, pg, Result.andThen_ok, run_equalIn_int w d 5 .u8 .u8 (f i : Int) (g i : Int) Tryd.underlying5]
    by_cases e : f i = g i
    · simp [e, ih]
    · have e2 : ((f i : Nat) : Int) ≠ (g i : Nat) := fun h => e (by omega)
      simp [e, e2]
theorem run_equal_map (f g : Nat → Nat) (w : World) : (Op.equalIn 10000 42 (.agg (mapC f)) (.agg (mapC g))).run Tryd.prog w = .ok (eqF f g) w := by
  obtain ⟨i, hi⟩ := infoByte
  rw [run_equalIn_array w 9999 (mapC f) (mapC g) Tryd.underlying42 hi, show Tryd.prog.cellsOf 5 = 1 by kernel_rfl]
  exact eqItems_map 9998 f g w _ fun i hi => List.mem_range.1 hi
theorem guard_map : Tryd.prog.eqGuardType Tryd.prog.depth 42 = false := by kernel_rfl

theorem exec_eql_map {o : Oper} {a : Act} {w : World} {x y : Operand} {ty : TypeId} {f g : Nat → Nat} (ho : o.op = .binOp .eql 42 x y ty) (hx : a.eval x = .agg (mapC f)) (hy : a.eval y = .agg (mapC g)) :
    (execOp a.eval o).run Tryd.prog w = .ok (.value (.bool (eqF f g))) w := by
  unfold execOp
  simp only [ho, hx, hy, Sem.run_bind, run_eqGuard_agg w .eql 42 x y _ _ guard_map, run_eql_struct, run_equal_map, Result.andThen_ok, Sem.run_pure]
theorem exec_neq_map {o : Oper} {a : Act} {w : World} {x y : Operand} {ty : TypeId} {f g : Nat → Nat} (ho : o.op = .binOp .neq 42 x y ty) (hx : a.eval x = .agg (mapC f)) (hy : a.eval y = .agg (mapC g)) :
    (execOp a.eval o).run Tryd.prog w = .ok (.value (.bool (!eqF f g))) w := by
  unfold execOp
  simp only [ho, hx, hy, Sem.run_bind, run_eqGuard_agg w .neq 42 x y _ _ guard_map, run_neq_struct, run_equal_map, Result.andThen_ok, Sem.run_pure]

theorem run_index_map (f : Nat → Nat) {k : Nat} (h : k < 16) (w : World) : (Instr.index 42 (.agg (mapC f)) (.int .i64 (k : Int))).run Tryd.prog w = .ok (.int .u8 (f k : Nat)) w := by
  obtain ⟨i, hi⟩ := infoByte
  have h2 : (k : Int) < 16 := by omega
  simp only [Instr.index, asIntOf, Sem.run_bind, Sem.run_pure, Result.andThen_ok, run_underlying Tryd.underlying42]
  rw [if_pos ⟨Int.natCast_nonneg k, h2⟩]
  simp only [Sem.run_bind, run_sizeOf w hi, Result.andThen_ok, show Tryd.prog.cellsOf 5 = 1 by kernel_rfl, Nat.mul_one, Int.toNat_natCast]
  exact run_part_plain (P := Tryd.prog) w (e := 5) (by kernel_rfl) (mapC_get f h)

/-- What a call hands back out of a block. -/
theorem results_map {fn : Func} {p : Tmp} (h : fn.results = #[.cell p 42]) {tmps : Array Value} {w : World} {b : Nat} {f : Nat → Nat} (hp : tmps.getD p undef = .pointer (some ⟨b, 0, none⟩)) (hr : Row w b f) :
    (results fn tmps).run Tryd.prog w = .ok (.agg (mapC f)) w :=
  results_cell_row h tmps w b _ (mapC f) _ _ hp hr Tryd.underlying42 rfl (infoMapC f)
theorem results_map2 {fn : Func} {p q : Tmp} (h : fn.results = #[.cell p 42, .tmp q]) {tmps : Array Value} {w : World} {b : Nat} {f : Nat → Nat} {v : Value} (hp : tmps.getD p undef = .pointer (some ⟨b, 0, none⟩)) (hq : tmps.getD q undef = v) (hr : Row w b f) :
    (results fn tmps).run Tryd.prog w = .ok (.tuple #[.agg (mapC f), v]) w := by
  have hp' : tmps[p]?.getD undef = .pointer (some ⟨b, 0, none⟩) := by simpa using hp
  have hq' : tmps[q]?.getD undef = v := by simpa using hq
  simp [results, h, hp', hq', asAddr, run_loadVar_row w b _ 42 (mapC f) _ _ hr Tryd.underlying42 rfl (infoMapC f)]

end Go.Proofs.YtoieodlpoglmfaaDoor
