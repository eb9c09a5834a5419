/-
  Policies with the same cells.
-/
import Derived.Test.YtimbhamdblganaaDoorWPolB
import Derived.Test.YtimbhamdblganaaDoorWPolN
/-! PolSm -/
namespace Go.Proofs.YtimbhamdblganaaDoor
open Go.RowKit

theorem cell_int {q : IntKind} {a b : Nat} (h : Value.int q (a : Int) = .int q (b : Int)) : a = b := by
  have := (Value.int.injEq _ _ _ _).mp h
  omega
theorem polAt_same {p q : Pol} (h : polC p = polC q) {k : Nat} (hk : k < 66) : polAt p k = polAt q k := by
  have h1 := polC_get p hk
  rw [h, polC_get q hk] at h1
  exact (Option.some.inj h1).symm
theorem same_live {p q : Pol} (h : polC p = polC q) : p.live = q.live := cell_int (q := .u16) (polAt_same h (k := 0) (by decide))
theorem same_active {p q : Pol} (h : polC p = polC q) : p.active = q.active := cell_int (q := .u16) (polAt_same h (k := 65) (by decide))
theorem same_s {p q : Pol} (h : polC p = polC q) {r : Nat} (hr : r < 16) : p.s r = q.s r := by
  have h1 := polAt_same h (k := 1 + r * 2) (by omega)
  unfold polAt at h1
  rw [if_neg (by omega), if_pos (by omega), if_pos (by omega), show (1 + r * 2) / 2 = r by omega, if_neg (by omega), if_pos (by omega), if_pos (by omega)] at h1
  exact cell_int h1
theorem same_i {p q : Pol} (h : polC p = polC q) {r : Nat} (hr : r < 16) : p.i r = q.i r := by
  have h1 := polAt_same h (k := 1 + r * 2 + 1) (by omega)
  unfold polAt at h1
  rw [if_neg (by omega), if_pos (by omega), if_neg (by omega), show (1 + r * 2 + 1) / 2 - 1 = r by omega, if_neg (by omega), if_pos (by omega), if_neg (by omega)] at h1
  exact cell_int h1
theorem same_acts {p q : Pol} (h : polC p = polC q) {r : Nat} (hr : r < 16) : p.acts r = q.acts r := by
  have h1 := polAt_same h (k := 33 + r) (by omega)
  unfold polAt at h1
  rw [if_neg (by omega), if_neg (by omega), if_pos (by omega), show 33 + r - 33 = r by omega, if_neg (by omega), if_neg (by omega), if_pos (by omega)] at h1
  exact cell_int h1
theorem same_owner {p q : Pol} (h : polC p = polC q) {t : Nat} (ht : t < 16) : p.owner t = q.owner t := by
  have h1 := polAt_same h (k := 49 + t) (by omega)
  unfold polAt at h1
  rw [if_neg (by omega), if_neg (by omega), if_neg (by omega), if_pos (by omega), show 49 + t - 49 = t by omega, if_neg (by omega), if_neg (by omega), if_neg (by omega), if_pos (by omega)] at h1
  exact cell_int h1
theorem fine_cells {p q : Pol} (h : polC p = polC q) : fineP p = fineP q := by
  have e : ∀ {p q : Pol}, polC p = polC q → fineP p = true → fineP q = true := by
    intro p q h hf
    obtain ⟨h1, h2⟩ := fine_iff.1 hf
    refine fine_iff.2 ⟨fun k hk => ?_, fun t ht => ?_⟩
    · have := h1 k hk
      unfold roleB nilB at this ⊢
      rw [← same_live h, ← same_active h, ← same_s h hk, ← same_i h hk, ← same_acts h hk]; exact this
    · have := h2 t ht
      unfold ownerB at this ⊢
      rw [← same_live h, ← same_active h, ← same_owner h ht]; exact this
  exact Bool.eq_iff_iff.2 ⟨e h, e h.symm⟩
end Go.Proofs.YtimbhamdblganaaDoor
