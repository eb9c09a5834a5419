/-
  Whole arrays of integers in memory, of any kind and length: as blocks; loads, stores, and what a call hands back.
-/
import Derived.Deep.WholeRow
import Derived.Laws.Rows
import Derived.Outline
import Derived.Test.YtpcnfemjjlcjfaaWBlk
/-! Arr -/
namespace Go.Proofs.Ytpcnfemjjlcjfaa
open Go.RowKit

def rowD (d : TypeDesc) : Bool := match d with | .struct _ | .array _ _ => true | _ => false
section
variable {P : Program}
theorem wpList_load_arr {ops : Array Oper} {rest : List Oper} {o : Oper} {a : Act} {w : World} {Q : Exit → Act → World → Prop} (hgd : o.guard = none) (ty : TypeId) (x : Operand) (ho : o.op = .load ty x)
    {b : Nat} {cs : Array Value} {t : TypeId} {d : TypeDesc} (hx : a.eval x = .pointer (some ⟨b, 0, none⟩)) (h : Blk w b cs t) (hu : P.underlying ty = some d) (hw : rowD d = true) (hi : (P.info? ty).map (·.size) = some cs.size) (hK : wpList P ops Q rest (a.put o.dst (.agg cs)) w) : wpList P ops Q (o :: rest) a w :=
  wpList_load_row hgd ty x ho b hx t cs (0, 0) d h hu (by cases d <;> simp_all [rowD]) hi hK
theorem wpList_store_arr {ops : Array Oper} {rest : List Oper} {o : Oper} {a : Act} {w : World} {Q : Exit → Act → World → Prop} (hgd : o.guard = none) (hd : o.dst = none) (ty : TypeId) (x y : Operand) (ho : o.op = .store ty x y)
    {b : Nat} {old new : Array Value} {t : TypeId} (hx : a.eval x = .pointer (some ⟨b, 0, none⟩)) (hy : a.eval y = .agg new) (h : Blk w b old t) (hi : (P.info? ty).map (·.size) = some new.size) (hs : old.size = new.size) (h1 : new.all (·.oneCell') = true)
    (hK : ∀ w', Put w w' b new t → wpList P ops Q rest a w') : wpList P ops Q (o :: rest) a w :=
  wpList_plain hgd fun K hK' => by
    unfold Oper.wp execOp
    simp only [ho, hx, hy, Instr.storeAt, Instr.sureAddr, Sem.run_bind, Sem.run_pure, Result.andThen_ok, run_storeVar_row w b t ty old new h hi hs h1]
    have e : a.put o.dst undef = a := by rw [hd]; rfl
    exact hK' _ _ (by rw [e]; exact hK _ ⟨⟨rfl, rfl, rfl, by simp, fun k _ hk => setRow_other w b k _ hk⟩, setRow_heap w b _ _ _ _ h⟩)
end
theorem Put.below {w w' : World} {b : Nat} {vs : Array Value} {t : TypeId} (h : Put w w' b vs t) {B : Nat} (hw : B ≤ w.heap.size) (hb : B ≤ b) : Below B w w' := h.chg.below hw fun k hk => by subst hk; exact hb
theorem Blk.below {B : Nat} {w w' : World} {b : Nat} {vs : Array Value} {t : TypeId} (h : Blk w b vs t) (hB : Below B w w') (hb : b < B) : Blk w' b vs t := (hB.block b hb).trans h
end Go.Proofs.Ytpcnfemjjlcjfaa
