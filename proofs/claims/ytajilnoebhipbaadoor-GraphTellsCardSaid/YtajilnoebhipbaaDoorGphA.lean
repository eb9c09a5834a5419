/-
  Whole arrays of sixteen sets in memory and as values: loads, stores, indices, comparisons; what a call hands back.
-/
import Derived.Test.YtajilnoebhipbaaDoorArr
import Derived.Test.YtajilnoebhipbaaDoorGraM
import Derived.Test.YtajilnoebhipbaaDoorSetA
import Derived.Test.YtajilnoebhipbaaDoorCalm
import Derived.ChangeKeysEq
import Derived.Deep.DeepCutAuto
namespace Go.Proofs.YtajilnoebhipbaaDoor
open Go.RowKit

/-- A graph's cells. -/
def grC (f : Nat → Nat) : Array Value := arrC .u16 16 f
theorem grC_size (f : Nat → Nat) : (grC f).size = 16 := arrC_size _ _ _
theorem grC_get (f : Nat → Nat) {i : Nat} (h : i < 16) : (grC f)[i]? = some (.int .u16 (f i : Nat)) := arrC_get _ f h
theorem grC_congr {f g : Nat → Nat} (h : ∀ t, t < 16 → f t = g t) : grC f = grC g := arrC_congr h
theorem grC_one (f : Nat → Nat) : (grC f).all (·.oneCell') = true := arrC_one _ _ _
theorem zeroGr : (#[.int .u16 0, .int .u16 0, .int .u16 0, .int .u16 0, .int .u16 0, .int .u16 0, .int .u16 0, .int .u16 0, .int .u16 0, .int .u16 0, .int .u16 0, .int .u16 0, .int .u16 0, .int .u16 0, .int .u16 0, .int .u16 0] : Array Value) = grC fun _ => 0 := rfl
def GrOk (f : Nat → Nat) : Prop := ∀ t, t < 16 → f t < 65536
def GRow (w : World) (b : Nat) (f : Nat → Nat) : Prop := Blk w b (grC f) 23
theorem GRow.lt {w : World} {b : Nat} {f : Nat → Nat} (h : GRow w b f) : b < w.heap.size := Blk.lt h
theorem GRow.cell {w : World} {b : Nat} {f : Nat → Nat} (h : GRow w b f) {k : Nat} (hk : k < 16) : w.cell? ⟨b, k, none⟩ = some (.int .u16 (f k : Nat)) := (Blk.cell h k).trans (grC_get f hk)
theorem GRow.free {w : World} {b : Nat} {f : Nat → Nat} (h : GRow w b f) (k : Nat) : w.frozen? ⟨b, k, none⟩ = false := Blk.free h k
theorem GRow.new (w : World) (f : Nat → Nat) : GRow (w.alloc (.cells (grC f) 23)) w.heap.size f := Blk.new w _ _
theorem GRow.zero (w : World) : GRow (w.alloc (.cells #[.int .u16 0, .int .u16 0, .int .u16 0, .int .u16 0, .int .u16 0, .int .u16 0, .int .u16 0, .int .u16 0, .int .u16 0, .int .u16 0, .int .u16 0, .int .u16 0, .int .u16 0, .int .u16 0, .int .u16 0, .int .u16 0] 23)) w.heap.size (fun _ => 0) := Blk.new w _ _
theorem GRow.alloc {w : World} {b : Nat} {f : Nat → Nat} (h : GRow w b f) (o : Obj) : GRow (w.alloc o) b f := Blk.alloc h o
theorem GRow.below {B : Nat} {w w' : World} {b : Nat} {f : Nat → Nat} (h : GRow w b f) (hB : Below B w w') (hb : b < B) : GRow w' b f := Blk.below h hB hb
theorem GRow.step {w w' : World} {b : Nat} {f : Nat → Nat} (h : GRow w b f) (hB : Below w.heap.size w w') : GRow w' b f := Blk.below h hB h.lt
theorem GRow.congr {w : World} {b : Nat} {f g : Nat → Nat} (h : GRow w b f) (hc : ∀ t, t < 16 → f t = g t) : GRow w b g := by unfold GRow; rw [← grC_congr hc]; exact h
theorem GRow.set {w : World} {b : Nat} {f : Nat → Nat} (h : GRow w b f) {k : Nat} (hk : k < 16) (v : Nat) : GRow (w.setCell ⟨b, k, none⟩ (.int .u16 (v : Int))) b (setF f k v) := by
  have h1 := Blk.set h k (.int .u16 (v : Int))
  unfold GRow grC at *
  rw [arrC_set .u16 f v hk] at h1
  exact h1
theorem GRow.other {w : World} {b : Nat} {f : Nat → Nat} (h : GRow w b f) {a : Addr} (ha : a.block ≠ b) (u : Value) : GRow (w.setCell a u) b f := Blk.set_other h ha u
theorem infoGr (f : Nat → Nat) : (Tryd.prog.info? 23).map (·.size) = some (grC f).size := by rw [grC_size]; kernel_rfl
theorem exec_load_gr {o : Oper} {a : Act} {w : World} {x : Operand} {b : Nat} {f : Nat → Nat} (ho : o.op = .load 23 x) (hx : a.eval x = .pointer (some ⟨b, 0, none⟩)) (h : GRow w b f) :
    (execOp a.eval o).run Tryd.prog w = .ok (.value (.agg (grC f))) w := by
  unfold execOp
  simp only [ho, hx, Instr.loadAt, Instr.sureAddr, Sem.run_bind, Sem.run_pure, Result.andThen_ok, run_loadVar_row w b _ 23 (grC f) _ _ h Tryd.underlying23 rfl (infoGr f)]
theorem wpList_load_gr {ops : Array Oper} {rest : List Oper} {o : Oper} {a : Act} {w : World} {Q : Exit → Act → World → Prop} (hgd : Region.wanted o (yielded ops a.tmps) = true) (x : Operand) (ho : o.op = .load 23 x)
    {b : Nat} {f : Nat → Nat} (hx : a.eval x = .pointer (some ⟨b, 0, none⟩)) (h : GRow w b f) (hK : wpList Tryd.prog ops Q rest (a.put o.dst (.agg (grC f))) w) : wpList Tryd.prog ops Q (o :: rest) a w :=
  wpList_step fun _ hK' => by
    rw [if_pos hgd]
    exact wp_load_row 23 x ho b hx 23 (grC f) (0, 0) _ h Tryd.underlying23 rfl (infoGr f) (hK' _ _ hK)
theorem wpList_store_gr {ops : Array Oper} {rest : List Oper} {o : Oper} {a : Act} {w : World} {Q : Exit → Act → World → Prop} (hgd : o.guard = none) (hd : o.dst = none) (x y : Operand) (ho : o.op = .store 23 x y)
    {b : Nat} {f g : Nat → Nat} (hx : a.eval x = .pointer (some ⟨b, 0, none⟩)) (hy : a.eval y = .agg (grC g)) (h : GRow w b f) (hK : ∀ w', Put w w' b (grC g) 23 → wpList Tryd.prog ops Q rest a w') : wpList Tryd.prog ops Q (o :: rest) a w :=
  wpList_store_arr hgd hd 23 x y ho hx hy h (infoGr g) (by rw [grC_size, grC_size]) (grC_one g) hK
theorem results_gr {fn : Func} {p : Tmp} (h : fn.results = #[.cell p 23]) {tmps : Array Value} {w : World} {b : Nat} {f : Nat → Nat} (hp : tmps.getD p undef = .pointer (some ⟨b, 0, none⟩)) (hr : GRow w b f) : (results fn tmps).run Tryd.prog w = .ok (.agg (grC f)) w :=
  results_arr h hp hr Tryd.underlying23 rfl (infoGr f)

/-- A graph in the middle of a block. -/
theorem run_load_mid {w : World} {g off : Nat} {cs : Array Value} {t : TypeId} {f : Nat → Nat} (hb : Blk w g cs t) (hc : ∀ i, i < 16 → cs[off + i]? = some (.int .u16 (f i : Nat))) :
    (loadVar 23 ⟨g, off, none⟩).run Tryd.prog w = .ok (.agg (grC f)) w := by
  have hl : (loadCells ⟨g, off, none⟩ (grC f).toList.length).run Tryd.prog w = .ok (grC f).toList.toArray w :=
    run_loadCells_list (P := Tryd.prog) w ⟨g, off, none⟩ _ (fun j v hv => by
      have hj : j < 16 := by
        have := (List.getElem?_eq_some_iff.1 hv).1
        rwa [Array.length_toList, grC_size] at this
      have hadd : (⟨g, off, none⟩ : Addr).add j = ⟨g, off + j, none⟩ := by unfold Addr.add; split <;> simp_all
      rw [Array.getElem?_toList, grC_get f hj] at hv
      cases hv
      rw [hadd, hb.cell, hc j hj])
  rw [Array.length_toList, grC_size] at hl
  have hi := infoGr f
  rw [grC_size] at hi
  cases hq : Tryd.prog.info? 23 with
  | none => simp [hq] at hi
  | some i =>
    have hs : i.size = 16 := by simpa [hq] using hi
    have hagg : (isAgg 23).run Tryd.prog w = .ok true w := by
      unfold isAgg
      rw [Sem.run_bind, run_underlying Tryd.underlying23 w]
      rfl
    simp [loadVar, Sem.run_bind, hagg, sizeOf, typeInfo, hq, hs, hl]
theorem exec_load_mid {o : Oper} {a : Act} {w : World} {x : Operand} {b off : Nat} {cs : Array Value} {t : TypeId} {f : Nat → Nat} (ho : o.op = .load 23 x) (hx : a.eval x = .pointer (some ⟨b, off, none⟩)) (hb : Blk w b cs t)
    (hc : ∀ j, j < 16 → cs[off + j]? = some (.int .u16 (f j : Nat))) : (execOp a.eval o).run Tryd.prog w = .ok (.value (.agg (grC f))) w := by
  unfold execOp
  simp only [ho, hx, Instr.loadAt, Instr.sureAddr, Sem.run_bind, Sem.run_pure, Result.andThen_ok, run_load_mid hb hc]
/-- Are two graphs one? -/
def eqG (f g : Nat → Nat) : Bool := (List.range 16).all fun t => f t == g t
theorem eqG_iff {f g : Nat → Nat} : eqG f g = true ↔ ∀ t, t < 16 → f t = g t := by simp [eqG]
theorem infoSet : ∃ i, Tryd.prog.info? 22 = some i := Go.info_of_underlying Tryd.underlying22
theorem eqItems_gr (d : Nat) (f g : Nat → Nat) (w : World) : ∀ l : List Nat, (∀ i, i ∈ l → i < 16) → (Op.eqItems (d + 1) 22 1 (grC f) (grC g) l).run Tryd.prog w = .ok (l.all fun t => f t == g t) w
  | [], _ => by simp [Op.eqItems]
  | i :: r, h => by
    have hi := h i (by simp)
    have pf := run_part_plain (P := Tryd.prog) w (e := 22) (by kernel_rfl) (grC_get f hi)
    have pg := run_part_plain (P := Tryd.prog) w (e := 22) (by kernel_rfl) (grC_get g hi)
    have ih := eqItems_gr d f g w r fun j hj => h j (by simp [hj])
    simp only [Op.eqItems, Nat.mul_one, Sem.run_bind, pf, pg, Result.andThen_ok, run_equalIn_int w d 22 .u16 .u16 (f i : Int) (g i : Int) Tryd.underlying22]
    by_cases e : f i = g i
    · simp [e, ih]
    · have e2 : ((f i : Nat) : Int) ≠ (g i : Nat) := fun h => e (by omega)
      simp [e, e2]
theorem run_equal_gr (f g : Nat → Nat) (w : World) : (Op.equalIn 10000 23 (.agg (grC f)) (.agg (grC g))).run Tryd.prog w = .ok (eqG f g) w := by
  obtain ⟨i, hi⟩ := infoSet
  rw [run_equalIn_array w 9999 (grC f) (grC g) Tryd.underlying23 hi, show Tryd.prog.cellsOf 22 = 1 by kernel_rfl]
  exact eqItems_gr 9998 f g w _ fun i hi => List.mem_range.1 hi
theorem guard_gr : Tryd.prog.eqGuardType Tryd.prog.depth 23 = false := by kernel_rfl
theorem exec_eql_gr {o : Oper} {a : Act} {w : World} {x y : Operand} {ty : TypeId} {f g : Nat → Nat} (ho : o.op = .binOp .eql 23 x y ty) (hx : a.eval x = .agg (grC f)) (hy : a.eval y = .agg (grC g)) :
    (execOp a.eval o).run Tryd.prog w = .ok (.value (.bool (eqG f g))) w := by
  unfold execOp
  simp only [ho, hx, hy, Sem.run_bind, run_eqGuard_agg w .eql 23 x y _ _ guard_gr, run_eql_struct, run_equal_gr, Result.andThen_ok, Sem.run_pure]

/-! Sets, by their bits. -/
theorem hasB_bit (s a : Nat) : hasB (s : Int) (a : Int) = s.testBit a := by simp [hasB]
theorem gHas_any (s a : Nat) (w : World) (hs : s < 65536) : Calls Tryd.prog 21 #[.int .u16 (s : Int), .int .i64 (a : Int)] w fun e w' => e = .returned (.bool (s.testBit a)) ∧ w = w' := by
  rw [← hasB_bit]; exact rHas_any s a w hs
/-- A graph that stays where it is. -/
structure GW (w : World) (b : Nat) (f : Nat → Nat) (V : World) : Prop where
  below : Below b w V
  row : GRow V b f
  at_ : b = w.heap.size
theorem GW.new (w : World) (f : Nat → Nat) : GW w w.heap.size f (w.alloc (.cells (grC f) 23)) := ⟨belowNew w _, GRow.new w f, rfl⟩
theorem GW.step {w : World} {b : Nat} {f : Nat → Nat} {V V' : World} (h : GW w b f V) (hB : Below V.heap.size V V') : GW w b f V' :=
  ⟨h.below.trans (hB.mono (by rw [h.at_]; exact h.below.size)), h.row.step hB, h.at_⟩
theorem GW.drew {w : World} {b : Nat} {f : Nat → Nat} {V : World} (h : GW w b f V) : GW w b f V.drew := h.step (Below.refl _ _).drew
theorem GW.all {w : World} {b : Nat} {f : Nat → Nat} {V : World} (h : GW w b f V) : Below w.heap.size w V := by rw [← h.at_]; exact h.below
end Go.Proofs.YtajilnoebhipbaaDoor
