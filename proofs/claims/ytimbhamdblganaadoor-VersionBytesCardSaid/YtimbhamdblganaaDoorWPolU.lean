/-
  Policies whose cells are written, and mended policies in plain terms.
-/
import Derived.Test.YtimbhamdblganaaDoorWPolA
/-! PolU -/
namespace Go.Proofs.YtimbhamdblganaaDoor
open Go.RowKit

def upd (f : Nat → Nat) (r v : Nat) : Nat → Nat := fun j => if j = r then v else f j
theorem upd_same (f : Nat → Nat) (r v : Nat) : upd f r v r = v := if_pos rfl
theorem upd_other (f : Nat → Nat) {r j : Nat} (v : Nat) (h : j ≠ r) : upd f r v j = f j := if_neg h
theorem upd_lt {f : Nat → Nat} {r v n : Nat} (hf : ∀ j, j < 16 → f j < n) (hv : v < n) (j : Nat) (hj : j < 16) : upd f r v j < n := by
  unfold upd; split
  · exact hv
  · exact hf j hj
def Pol.putS (p : Pol) (r v : Nat) : Pol := { p with s := upd p.s r v }
def Pol.putI (p : Pol) (r v : Nat) : Pol := { p with i := upd p.i r v }
def Pol.putA (p : Pol) (r v : Nat) : Pol := { p with acts := upd p.acts r v }
def Pol.putO (p : Pol) (t v : Nat) : Pol := { p with owner := upd p.owner t v }
theorem polC_put {p q : Pol} {k : Nat} {u : Value} (h : ∀ j, j < 66 → polAt q j = if j = k then u else polAt p j) : (polC p).setIfInBounds k u = polC q := by
  apply Array.ext
  · rw [Array.size_setIfInBounds, polC_size, polC_size]
  · intro j h1 h2
    have hj : j < 66 := by rw [polC_size] at h2; exact h2
    have e1 := polC_get q hj
    have e2 := polC_get p hj
    rw [Array.getElem?_eq_getElem h2] at e1
    rw [Array.getElem?_eq_getElem (by rw [polC_size]; exact hj)] at e2
    have hj2 : j < (polC p).size := by rw [polC_size]; exact hj
    rw [Array.getElem_setIfInBounds hj2, Option.some.inj e1, h j hj]
    by_cases e : k = j
    · subst e; rw [if_pos rfl, if_pos rfl]
    · rw [if_neg e, if_neg (fun x => e x.symm)]; exact Option.some.inj e2
theorem PRow.put {w : World} {b : Nat} {p q : Pol} {k : Nat} {u : Value} (h : PRow w b p) (hq : ∀ j, j < 66 → polAt q j = if j = k then u else polAt p j) : PRow (w.setCell ⟨b, k, none⟩ u) b q := by
  have h2 := Blk.set h k u
  rw [polC_put hq] at h2
  exact h2
section
variable {w : World} {b : Nat} {p : Pol}
theorem PRow.putS (h : PRow w b p) {r : Nat} (hr : r < 16) (v : Nat) : PRow (w.setCell ⟨b, 1 + r * 2, none⟩ (.int .u16 (v : Int))) b (p.putS r v) := by
  refine h.put fun j _ => ?_
  by_cases e : j = 1 + r * 2
  · subst e
    rw [if_pos rfl]; unfold polAt
    rw [if_neg (by omega), if_pos (by omega), if_pos (by omega), show (1 + r * 2) / 2 = r by omega]
    show Value.int .u16 (upd p.s r v r : Nat) = _
    rw [upd_same]
  · rw [if_neg e]; unfold polAt
    by_cases h0 : j = 0
    · rw [if_pos h0, if_pos h0]; rfl
    · rw [if_neg h0, if_neg h0]
      by_cases h1 : j < 33
      · rw [if_pos h1, if_pos h1]
        by_cases h2 : j % 2 = 1
        · rw [if_pos h2, if_pos h2]
          show Value.int .u16 (upd p.s r v (j / 2) : Nat) = _
          rw [upd_other _ _ (by omega)]
        · rw [if_neg h2, if_neg h2]; rfl
      · rw [if_neg h1, if_neg h1]; rfl
theorem PRow.putI (h : PRow w b p) {r : Nat} (hr : r < 16) (v : Nat) : PRow (w.setCell ⟨b, 1 + r * 2 + 1, none⟩ (.int .u16 (v : Int))) b (p.putI r v) := by
  refine h.put fun j _ => ?_
  by_cases e : j = 1 + r * 2 + 1
  · subst e
    rw [if_pos rfl]; unfold polAt
    rw [if_neg (by omega), if_pos (by omega), if_neg (by omega), show (1 + r * 2 + 1) / 2 - 1 = r by omega]
    show Value.int .u16 (upd p.i r v r : Nat) = _
    rw [upd_same]
  · rw [if_neg e]; unfold polAt
    by_cases h0 : j = 0
    · rw [if_pos h0, if_pos h0]; rfl
    · rw [if_neg h0, if_neg h0]
      by_cases h1 : j < 33
      · rw [if_pos h1, if_pos h1]
        by_cases h2 : j % 2 = 1
        · rw [if_pos h2, if_pos h2]; rfl
        · rw [if_neg h2, if_neg h2]
          show Value.int .u16 (upd p.i r v (j / 2 - 1) : Nat) = _
          rw [upd_other _ _ (by omega)]
      · rw [if_neg h1, if_neg h1]; rfl
theorem PRow.putA (h : PRow w b p) {r : Nat} (hr : r < 16) (v : Nat) : PRow (w.setCell ⟨b, 33 + r, none⟩ (.int .u16 (v : Int))) b (p.putA r v) := by
  refine h.put fun j _ => ?_
  by_cases e : j = 33 + r
  · subst e
    rw [if_pos rfl]; unfold polAt
    rw [if_neg (by omega), if_neg (by omega), if_pos (by omega), show 33 + r - 33 = r by omega]
    show Value.int .u16 (upd p.acts r v r : Nat) = _
    rw [upd_same]
  · rw [if_neg e]; unfold polAt
    by_cases h0 : j = 0
    · rw [if_pos h0, if_pos h0]; rfl
    · rw [if_neg h0, if_neg h0]
      by_cases h1 : j < 33
      · rw [if_pos h1, if_pos h1]; rfl
      · rw [if_neg h1, if_neg h1]
        by_cases h2 : j < 49
        · rw [if_pos h2, if_pos h2]
          show Value.int .u16 (upd p.acts r v (j - 33) : Nat) = _
          rw [upd_other _ _ (by omega)]
        · rw [if_neg h2, if_neg h2]; rfl
theorem PRow.putO (h : PRow w b p) {t : Nat} (ht : t < 16) (v : Nat) : PRow (w.setCell ⟨b, 49 + t, none⟩ (.int .u8 (v : Int))) b (p.putO t v) := by
  refine h.put fun j _ => ?_
  by_cases e : j = 49 + t
  · subst e
    rw [if_pos rfl]; unfold polAt
    rw [if_neg (by omega), if_neg (by omega), if_neg (by omega), if_pos (by omega), show 49 + t - 49 = t by omega]
    show Value.int .u8 (upd p.owner t v t : Nat) = _
    rw [upd_same]
  · rw [if_neg e]; unfold polAt
    by_cases h0 : j = 0
    · rw [if_pos h0, if_pos h0]; rfl
    · rw [if_neg h0, if_neg h0]
      by_cases h1 : j < 33
      · rw [if_pos h1, if_pos h1]; rfl
      · rw [if_neg h1, if_neg h1]
        by_cases h2 : j < 49
        · rw [if_pos h2, if_pos h2]; rfl
        · rw [if_neg h2, if_neg h2]
          by_cases h3 : j < 65
          · rw [if_pos h3, if_pos h3]
            show Value.int .u8 (upd p.owner t v (j - 49) : Nat) = _
            rw [upd_other _ _ (by omega)]
          · rw [if_neg h3, if_neg h3]; rfl
end
end Go.Proofs.YtimbhamdblganaaDoor
