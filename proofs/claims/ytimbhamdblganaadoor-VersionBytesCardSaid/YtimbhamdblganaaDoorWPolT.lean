/-
  The document's policies: First.
-/
import Derived.Test.YtimbhamdblganaaDoorWPolA
import Derived.Test.YtimbhamdblganaaDoorW1
/-! PolT -/
namespace Go.Proofs.YtimbhamdblganaaDoor
open Go.RowKit

/-- The first policy: role 0 alone is there, without secrets and with all integrity; all tags are active. -/
def firstP : Pol := ⟨1, fun _ => 0, fun r => if r = 0 then 65535 else 0, fun _ => 0, fun _ => 0, 65535⟩
theorem firstP_ok : PolOk firstP := by
  refine ⟨by decide, by decide, fun r _ => ?_, fun r _ => ?_, fun r _ => ?_, fun r _ => ?_⟩
  · show (0 : Nat) < 65536; decide
  · show (if r = 0 then 65535 else 0) < 65536; split <;> decide
  · show (0 : Nat) < 65536; decide
  · show (0 : Nat) < 256; decide
def zeroP : Pol := ⟨0, fun _ => 0, fun _ => 0, fun _ => 0, fun _ => 0, 0⟩
theorem zeroP_ok : PolOk zeroP := ⟨by decide, by decide, fun _ _ => by show (0 : Nat) < 65536; decide, fun _ _ => by show (0 : Nat) < 65536; decide, fun _ _ => by show (0 : Nat) < 65536; decide, fun _ _ => by show (0 : Nat) < 256; decide⟩
theorem zeroPol (w : World) : (zeroValue 46).run Tryd.prog w = .ok (.agg (polC zeroP)) w := by kernel_rfl
theorem zeroPolC : Tryd.zeroCells46 = polC zeroP := by kernel_rfl
attribute [go_sem] zeroPolC
theorem below_row {w : World} {b B : Nat} {c : Array Value} (h : B ≤ b) : Below B w (w.setRow b c) where
  os := rfl
  tape := rfl
  output := rfl
  size := by simp
  block := fun i hi => by rw [setRow_other w b i c (by omega)]
def midP : Pol := ⟨1, fun _ => 0, fun _ => 0, fun _ => 0, fun _ => 0, 65535⟩
theorem store_pol {w : World} {b : Nat} {p q : Pol} (h : PRow w b p) {l : List Value} (hl : l = (polC q).toList) : (storeCells ⟨b, 0, none⟩ l).run Tryd.prog w = .ok () (w.setRow b (polC q)) := by
  subst hl
  exact run_storeCells_from (P := Tryd.prog) b _ (polC q).toList 0 (polC p) w h (by simp [polC_size]) (fun v hv => (Array.all_eq_true_iff_forall_mem.1 (polC_one q)) v (by simpa using hv))
set_option maxRecDepth 100000 in
theorem mid_pol : (((polC zeroP).toList.set 0 (.int .u16 1)).set 65 (.int .u16 65535)) = (polC midP).toList := by kernel_rfl
set_option maxRecDepth 100000 in
theorem first_pol : ((polC midP).setIfInBounds 1 (.int .u16 0)).setIfInBounds 2 (.int .u16 65535) = polC firstP := by kernel_rfl
end Go.Proofs.YtimbhamdblganaaDoor
