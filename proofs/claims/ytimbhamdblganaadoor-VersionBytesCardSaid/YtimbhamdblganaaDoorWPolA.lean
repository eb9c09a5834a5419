/-
  Policies in memory and as values: one struct of 66 cells.
-/
import Derived.Test.YtimbhamdblganaaDoorWPolM
import Derived.Test.YtimbhamdblganaaDoorW2
/-! PolA -/
namespace Go.Proofs.YtimbhamdblganaaDoor
open Go.RowKit

/-- Cell k of a policy. -/
def polAt (p : Pol) (k : Nat) : Value :=
  if k = 0 then .int .u16 (p.live : Int)
  else if k < 33 then (if k % 2 = 1 then .int .u16 (p.s (k / 2) : Nat) else .int .u16 (p.i (k / 2 - 1) : Nat))
  else if k < 49 then .int .u16 (p.acts (k - 33) : Nat)
  else if k < 65 then .int .u8 (p.owner (k - 49) : Nat)
  else .int .u16 (p.active : Int)
def polC (p : Pol) : Array Value := ((List.range 66).map (polAt p)).toArray
theorem polC_size (p : Pol) : (polC p).size = 66 := by simp [polC]
theorem polC_get (p : Pol) {k : Nat} (h : k < 66) : (polC p)[k]? = some (polAt p k) := by simp [polC, h]
theorem polAt_one (p : Pol) (k : Nat) : (polAt p k).oneCell' = true := by
  unfold polAt
  split
  · rfl
  · split
    · split <;> rfl
    · split
      · rfl
      · split <;> rfl
theorem polC_one (p : Pol) : (polC p).all (·.oneCell') = true := by simp [polC, polAt_one]
def PRow (w : World) (b : Nat) (p : Pol) : Prop := Blk w b (polC p) 46
section
variable {w w' : World} {b : Nat} {p : Pol}
theorem PRow.lt (h : PRow w b p) : b < w.heap.size := Blk.lt h
theorem PRow.new (w : World) (p : Pol) : PRow (w.alloc (.cells (polC p) 46)) w.heap.size p := Blk.new w _ _
theorem PRow.step (h : PRow w b p) (hB : Below w.heap.size w w') : PRow w' b p := Blk.below h hB h.lt
theorem PRow.alloc (h : PRow w b p) (o : Obj) : PRow (w.alloc o) b p := Blk.alloc h o
theorem PRow.at_ (h : PRow w b p) {k : Nat} (hk : k < 66) : w.cell? ⟨b, k, none⟩ = some (polAt p k) := (Blk.cell h k).trans (polC_get p hk)
theorem PRow.live (h : PRow w b p) : w.cell? ⟨b, 0, none⟩ = some (.int .u16 (p.live : Int)) := h.at_ (by decide)
theorem PRow.active (h : PRow w b p) : w.cell? ⟨b, 65, none⟩ = some (.int .u16 (p.active : Int)) := h.at_ (by decide)
theorem PRow.s (h : PRow w b p) {r : Nat} (hr : r < 16) : w.cell? ⟨b, 1 + r * 2, none⟩ = some (.int .u16 (p.s r : Nat)) := by
  rw [h.at_ (by omega)]; unfold polAt
  rw [if_neg (by omega), if_pos (by omega), if_pos (by omega), show (1 + r * 2) / 2 = r by omega]
theorem PRow.i (h : PRow w b p) {r : Nat} (hr : r < 16) : w.cell? ⟨b, 1 + r * 2 + 1, none⟩ = some (.int .u16 (p.i r : Nat)) := by
  rw [h.at_ (by omega)]; unfold polAt
  rw [if_neg (by omega), if_pos (by omega), if_neg (by omega), show (1 + r * 2 + 1) / 2 - 1 = r by omega]
theorem PRow.acts (h : PRow w b p) {r : Nat} (hr : r < 16) : w.cell? ⟨b, 33 + r, none⟩ = some (.int .u16 (p.acts r : Nat)) := by
  rw [h.at_ (by omega)]; unfold polAt
  rw [if_neg (by omega), if_neg (by omega), if_pos (by omega), show 33 + r - 33 = r by omega]
theorem PRow.owner (h : PRow w b p) {t : Nat} (ht : t < 16) : w.cell? ⟨b, 49 + t, none⟩ = some (.int .u8 (p.owner t : Nat)) := by
  rw [h.at_ (by omega)]; unfold polAt
  rw [if_neg (by omega), if_neg (by omega), if_neg (by omega), if_pos (by omega), show 49 + t - 49 = t by omega]
end
theorem pol_acts (p : Pol) {r : Nat} (hr : r < 16) : (polC p)[33 + r]? = some (.int .u16 (p.acts r : Nat)) := by
  rw [polC_get p (by omega)]; unfold polAt
  rw [if_neg (by omega), if_neg (by omega), if_pos (by omega), show 33 + r - 33 = r by omega]
theorem infoPol (p : Pol) : (Tryd.prog.info? 46).map (·.size) = some (polC p).size := by rw [polC_size]; kernel_rfl
theorem exec_load_pol {o : Oper} {a : Act} {w : World} {x : Operand} {b : Nat} {p : Pol} (ho : o.op = .load 46 x) (hx : a.eval x = .pointer (some ⟨b, 0, none⟩)) (h : PRow w b p) :
    (execOp a.eval o).run Tryd.prog w = .ok (.value (.agg (polC p))) w := by
  unfold execOp
  simp only [ho, hx, Instr.loadAt, Instr.sureAddr, Sem.run_bind, Sem.run_pure, Result.andThen_ok, run_loadVar_row w b _ 46 (polC p) _ _ h Tryd.underlying46 rfl (infoPol p)]
/-- A policy and a label that stay where they are. -/
structure PW (w : World) (b : Nat) (p : Pol) (V : World) : Prop where
  below : Below b w V
  row : PRow V b p
  at_ : b = w.heap.size
theorem PW.step {w : World} {b : Nat} {p : Pol} {V V' : World} (h : PW w b p V) (hB : Below V.heap.size V V') : PW w b p V' :=
  ⟨h.below.trans (hB.mono (by rw [h.at_]; exact h.below.size)), h.row.step hB, h.at_⟩
theorem PW.all {w : World} {b : Nat} {p : Pol} {V : World} (h : PW w b p V) : Below w.heap.size w V := by rw [← h.at_]; exact h.below
end Go.Proofs.YtimbhamdblganaaDoor
