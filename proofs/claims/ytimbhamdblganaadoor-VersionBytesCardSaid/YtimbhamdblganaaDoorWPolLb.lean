/-
  A whole label of a policy in memory is set; a whole policy; a policy beside a value as results.
-/
import Derived.Test.YtimbhamdblganaaDoorWPolU
import Derived.Test.YtimbhamdblganaaDoorW1
import Derived.Test.YtimbhamdblganaaDoorWPolT
/-! PolLb -/
namespace Go.Proofs.YtimbhamdblganaaDoor
open Go.RowKit

/-- A whole policy is stored. -/
theorem put_pol {w : World} {b : Nat} {p q : Pol} (h : PRow w b p) : Put w (w.setRow b (polC q)) b (polC q) 46 := ⟨⟨rfl, rfl, rfl, by simp, fun k _ hk => setRow_other w b k _ hk⟩, setRow_heap w b _ _ _ _ h⟩
theorem results_pol2 {fn : Func} {p q : Tmp} (h : fn.results = #[.cell p 46, .tmp q]) {tmps : Array Value} {w : World} {b : Nat} {P : Pol} {v : Value} (hp : tmps.getD p undef = .pointer (some ⟨b, 0, none⟩)) (hq : tmps.getD q undef = v) (hr : PRow w b P) :
    (results fn tmps).run Tryd.prog w = .ok (.tuple #[.agg (polC P), v]) w := by
  have hp' : tmps[p]?.getD undef = .pointer (some ⟨b, 0, none⟩) := by simpa using hp
  have hq' : tmps[q]?.getD undef = v := by simpa using hq
  simp [results, h, hp', hq', asAddr, run_loadVar_row w b _ 46 (polC P) _ _ hr Tryd.underlying46 rfl (infoPol P)]
end Go.Proofs.YtimbhamdblganaaDoor
