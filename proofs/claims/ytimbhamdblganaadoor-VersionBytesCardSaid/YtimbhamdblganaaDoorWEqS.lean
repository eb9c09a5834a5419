/-
  What is compared: arrays and structs of whole numbers are equal where all their cells are.
-/
import Derived.DeepKeys2
import Derived.Test.YtimbhamdblganaaDoorWEqR
/-! EqS -/
namespace Go.Proofs.YtimbhamdblganaaDoor
open Go.RowKit

/-- two structs or arrays of whole numbers are equal where their cells are -/
theorem equal_ints {P : Program} (w : World) {m : Nat} {t : TypeId} (hm : m ≤ 10000) (hk : P.keyTypeAt m t = true) (ht : P.tiled m t = true) {cs es : Array Value} {ds : List Value} (D : Nat)
    (hfc : (Value.agg cs).formed P t = true) (hfe : (Value.agg es).formed P t = true) (hc : intsL cs.toList) (he : intsL es.toList) (hdc : cs.toList.map kindV = ds.map kindV) (hde : es.toList.map kindV = ds.map kindV) (h : (P.keyLits D t ds).isSome = true) :
    ∃ r, (Op.equalIn 10000 t (.agg cs) (.agg es)).run P w = .ok r w ∧ (r = true ↔ cs = es) := by
  obtain ⟨L, hL⟩ := Option.isSome_iff_exists.1 (keyLits_kinds D t cs.toList ds hc hdc h)
  obtain ⟨M, hM⟩ := Option.isSome_iff_exists.1 (keyLits_kinds D t es.toList ds he hde h)
  obtain ⟨r, hr, hiff⟩ := run_equalIn_deep (10000 - m) m t hk w D D (.agg cs) (.agg es) L M hfc hfe (by simpa [Value.cells] using hL) (by simpa [Value.cells] using hM)
  rw [show 10000 - m + m = 10000 by omega] at hr
  refine ⟨r, hr, hiff.trans ⟨fun e => ?_, fun e => ?_⟩⟩
  · have h1 := cells_of_lits m t ht D _ _ hL
    have h2 := cells_of_lits m t ht D _ _ hM
    rw [e, ← h2] at h1
    exact Array.toList_inj.1 h1
  · subst e
    exact Option.some.inj (hL.symm.trans hM)
theorem equal_yes {P : Program} {t : TypeId} {cs es : Array Value} {b : Bool} (h : ∀ w, ∃ r, (Op.equalIn 10000 t (.agg cs) (.agg es)).run P w = .ok r w ∧ (r = true ↔ cs = es)) (hb : b = true ↔ cs = es) (w : World) : (Op.equalIn 10000 t (.agg cs) (.agg es)).run P w = .ok b w := by
  obtain ⟨r, hr, hi⟩ := h w
  rw [hr]
  congr 1
  exact Bool.eq_iff_iff.2 (hi.trans hb.symm)
end Go.Proofs.YtimbhamdblganaaDoor
