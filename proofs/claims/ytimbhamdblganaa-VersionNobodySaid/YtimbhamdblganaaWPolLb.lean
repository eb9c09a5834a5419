/-
  A whole label of a policy in memory is set; a whole policy; a policy beside a value as results.
-/
import Derived.Test.YtimbhamdblganaaWPolU
import Derived.Test.YtimbhamdblganaaWMid
import Derived.Test.YtimbhamdblganaaWPolT
/-! PolLb -/
namespace Go.Proofs.Ytimbhamdblganaa
open Go.RowKit

theorem midC_two {cs : Array Value} {off : Nat} {x y : Value} (h : off + 2 ≤ cs.size) : midC cs off #[x, y] = (cs.setIfInBounds off x).setIfInBounds (off + 1) y := by
  apply Array.ext_getElem?
  intro j
  rw [midC_get (by simpa using h), Array.getElem?_setIfInBounds, Array.getElem?_setIfInBounds, Array.size_setIfInBounds]
  show (if off ≤ j ∧ j < off + 2 then _ else _) = _
  by_cases e1 : j = off + 1
  · subst e1
    rw [if_pos (by omega), if_pos rfl, if_pos (by omega), show off + 1 - off = 1 by omega]; rfl
  · by_cases e0 : j = off
    · subst e0
      rw [if_pos (by omega), if_neg (by omega), if_pos rfl, if_pos (by omega), Nat.sub_self]; rfl
    · rw [if_neg (by omega), if_neg (by omega), if_neg (by omega)]
theorem cells_inj {w : World} {b : Nat} {xs ys : Array Value} {t : TypeId} (h : Blk w b xs t) (k : Blk w b ys t) : xs = ys := by
  unfold Blk at h k
  rw [h] at k
  cases k; rfl
/-- A whole label is set. -/
theorem PRow.putLab {w w' : World} {b : Nat} {q : Pol} {a : Nat} {s i : Nat} (h : PRow w b q) (ha : a < 16) (hp : Put w w' b (midC (polC q) (1 + a * 2) #[.int .u16 (s : Int), .int .u16 (i : Int)]) 34) : Put w w' b (polC ((q.putS a s).putI a i)) 34 := by
  have e := cells_inj (Blk.set (Blk.set h (1 + a * 2) (.int .u16 (s : Int))) (1 + a * 2 + 1) (.int .u16 (i : Int))) ((PRow.putS h ha s).putI ha i)
  rw [midC_two (by rw [polC_size]; omega), e] at hp
  exact hp
/-- A whole policy is stored. -/
theorem put_pol {w : World} {b : Nat} {p q : Pol} (h : PRow w b p) : Put w (w.setRow b (polC q)) b (polC q) 34 := ⟨⟨rfl, rfl, rfl, by simp, fun k _ hk => setRow_other w b k _ hk⟩, setRow_heap w b _ _ _ _ h⟩
theorem results_pol2 {fn : Func} {p q : Tmp} (h : fn.results = #[.cell p 34, .tmp q]) {tmps : Array Value} {w : World} {b : Nat} {P : Pol} {v : Value} (hp : tmps.getD p undef = .pointer (some ⟨b, 0, none⟩)) (hq : tmps.getD q undef = v) (hr : PRow w b P) :
    (results fn tmps).run Try.prog w = .ok (.tuple #[.agg (polC P), v]) w := by
  have hp' : tmps[p]?.getD undef = .pointer (some ⟨b, 0, none⟩) := by simpa using hp
  have hq' : tmps[q]?.getD undef = v := by simpa using hq
  simp [results, h, hp', hq', asAddr, run_loadVar_row w b _ 34 (polC P) _ _ hr Try.underlying34 rfl (infoPol P)]
end Go.Proofs.Ytimbhamdblganaa
