/-
  Policies in memory and as values: one struct of 66 cells.
-/
import Derived.ChangeKeysEq
import Derived.Deep.DeepCutAuto
import Derived.Lib.ItoaNum
import Derived.Lib.Join
import Derived.Lib.AtoiAll
import Derived.Lib.Bytealg
import Derived.Lib.QuietBelow
import Derived.Test.YtimbhamdblganaaWPolM
import Derived.Test.YtimbhamdblganaaWArr
import Derived.Test.YtimbhamdblganaaWBitsM
import Derived.Test.YtimbhamdblganaaWTagA
/-! PolA -/
namespace Go.Proofs.Ytimbhamdblganaa
open Go.RowKit

/-- Cell k of a policy. -/
def polAt (p : Pol) (k : Nat) : Value :=
  if k = 0 then .int .u16 (p.live : Int)
  else if k < 33 then (if k % 2 = 1 then .int .u16 (p.s (k / 2) : Nat) else .int .u16 (p.i (k / 2 - 1) : Nat))
  else if k < 49 then .int .u16 (p.acts (k - 33) : Nat)
  else if k < 65 then .int .u8 (p.owner (k - 49) : Nat)
  else .int .u16 (p.active : Int)
def polC (p : Pol) : Array Value := ((List.range 66).map (polAt p)).toArray
theorem polC_size (p : Pol) : (polC p).size = 66 := by simp [polC]
theorem polC_get (p : Pol) {k : Nat} (h : k < 66) : (polC p)[k]? = some (polAt p k) := by simp [polC, h]
theorem polAt_one (p : Pol) (k : Nat) : (polAt p k).oneCell' = true := by
  unfold polAt
  split
  · rfl
  · split
    · split <;> rfl
    · split
      · rfl
      · split <;> rfl
theorem polC_one (p : Pol) : (polC p).all (·.oneCell') = true := by simp [polC, polAt_one]
def PRow (w : World) (b : Nat) (p : Pol) : Prop := Blk w b (polC p) 34
section
variable {w w' : World} {b : Nat} {p : Pol}
theorem PRow.lt (h : PRow w b p) : b < w.heap.size := Blk.lt h
theorem PRow.new (w : World) (p : Pol) : PRow (w.alloc (.cells (polC p) 34)) w.heap.size p := Blk.new w _ _
theorem PRow.step (h : PRow w b p) (hB : Below w.heap.size w w') : PRow w' b p := Blk.below h hB h.lt
theorem PRow.alloc (h : PRow w b p) (o : Obj) : PRow (w.alloc o) b p := Blk.alloc h o
theorem PRow.at_ (h : PRow w b p) {k : Nat} (hk : k < 66) : w.cell? ⟨b, k, none⟩ = some (polAt p k) := (Blk.cell h k).trans (polC_get p hk)
theorem PRow.s (h : PRow w b p) {r : Nat} (hr : r < 16) : w.cell? ⟨b, 1 + r * 2, none⟩ = some (.int .u16 (p.s r : Nat)) := by
  rw [h.at_ (by omega)]; unfold polAt
  rw [if_neg (by omega), if_pos (by omega), if_pos (by omega), show (1 + r * 2) / 2 = r by omega]
theorem PRow.i (h : PRow w b p) {r : Nat} (hr : r < 16) : w.cell? ⟨b, 1 + r * 2 + 1, none⟩ = some (.int .u16 (p.i r : Nat)) := by
  rw [h.at_ (by omega)]; unfold polAt
  rw [if_neg (by omega), if_pos (by omega), if_neg (by omega), show (1 + r * 2 + 1) / 2 - 1 = r by omega]
theorem PRow.owner (h : PRow w b p) {t : Nat} (ht : t < 16) : w.cell? ⟨b, 49 + t, none⟩ = some (.int .u8 (p.owner t : Nat)) := by
  rw [h.at_ (by omega)]; unfold polAt
  rw [if_neg (by omega), if_neg (by omega), if_neg (by omega), if_pos (by omega), show 49 + t - 49 = t by omega]
end
theorem infoPol (p : Pol) : (Try.prog.info? 34).map (·.size) = some (polC p).size := by rw [polC_size]; kernel_rfl
theorem exec_load_pol {o : Oper} {a : Act} {w : World} {x : Operand} {b : Nat} {p : Pol} (ho : o.op = .load 34 x) (hx : a.eval x = .pointer (some ⟨b, 0, none⟩)) (h : PRow w b p) :
    (execOp a.eval o).run Try.prog w = .ok (.value (.agg (polC p))) w := by
  unfold execOp
  simp only [ho, hx, Instr.loadAt, Instr.sureAddr, Sem.run_bind, Sem.run_pure, Result.andThen_ok, run_loadVar_row w b _ 34 (polC p) _ _ h Try.underlying34 rfl (infoPol p)]
end Go.Proofs.Ytimbhamdblganaa
