/-
  What is asked of the program's policies: contracts, as words.
-/
import Derived.Test.YtimbhamdblganaaDoorWPolB
import Derived.Test.YtimbhamdblganaaDoorW1
import Derived.Test.YtimbhamdblganaaDoorWPolT
/-! PolC -/
namespace Go.Proofs.YtimbhamdblganaaDoor
open Go.RowKit

/-- Memory that was only made since. -/
def Since (w V : World) : Prop := Below w.heap.size w V
theorem TabOk.since {w V : World} (h : TabOk w) (hV : Since w V) : TabOk V := h.below hV

def PFineC : Prop := ∀ (p : Pol) (w : World), TabOk w → PolOk p → Calls Tryd.prog 49 #[.agg (polC p)] w fun e w' => e = .returned (.bool (fineP p)) ∧ Below w.heap.size w w'
def PFirstC : Prop := ∀ (w : World), Calls Tryd.prog 16 #[] w fun e w' => e = .returned (.agg (polC firstP)) ∧ Below w.heap.size w w'
def PBytesC : Prop := ∀ (p : Pol) (w : World), PolOk p → fineP p = true → Calls Tryd.prog 32 #[.agg (polC p)] w fun e w' => ∃ v, e = .returned v ∧ w'.ownsRow w.heap.size 5 1 v (bytesP p).length (bvs (bytesP p)) ∧ Below w.heap.size w w'
def PReadC : Prop := ∀ (b : Nat) (t : TypeId) (g : Nat) (s : WSt) (w : World), TabOk w → RAt w b t g s → g ≠ b → s.1.length ≤ 1000000 → Fit s → Calls Tryd.prog 27 #[.pointer (some ⟨b, 0, none⟩)] w fun e w' => e = .returned (.agg (polC (rdPo s))) ∧ RTo w b t g (rdE s) w'
/-! Of policies that may be, only. -/
end Go.Proofs.YtimbhamdblganaaDoor
