/-
  The program's policies: Fine and Read.
-/
import Derived.Test.YtimbhamdblganaaDoorWPolG
import Derived.Test.YtimbhamdblganaaDoorWPolH
import Derived.Test.YtimbhamdblganaaDoorWPolJ
import Derived.Test.YtimbhamdblganaaDoorWPolP
import Derived.Test.YtimbhamdblganaaDoorWPolSm
import Derived.Test.YtimbhamdblganaaDoorWPolC
import Derived.Test.YtimbhamdblganaaDoorWPolD
import Derived.Test.YtimbhamdblganaaDoorW2
import Derived.Test.YtimbhamdblganaaDoorWLawPBytes
/-! PolL -/
namespace Go.Proofs.YtimbhamdblganaaDoor
open Go.RowKit

theorem pFine_any : PFineC := fun p w hT hp => pFine_tidy p (fineP p) (tid_iff hp) w hT hp
/-- The library's table is no Reader's block. -/
theorem TabOk.reader {w V : World} (h : TabOk w) {b : Nat} {t : TypeId} {g : Nat} {s : List UInt8 × Int} (hr : RAt w b t g s) (hc : Chg (fun k => k = b) w V) : TabOk V := by
  obtain ⟨p, n, c, hb, -, -⟩ := hr
  have hne : 0 ≠ b := fun e => by
    have h0 := h.1 0 (by decide)
    have h1 := hb.cell 0
    rw [← e] at h1
    rw [h1] at h0
    cases h0
  refine ⟨fun j hj => ?_, Nat.lt_of_lt_of_le h.2 hc.size⟩
  rw [← h.1 j hj]
  exact World.cell?_of_block (hc.block _ h.2 hne)
theorem rdEW_is (s : WSt) : rdEW (fineP (rdT s 16).1) s = rdE s ∧ rdPoW (fineP (rdT s 16).1) s = rdPo s := by
  have h1 : rdEW (fineP (rdT s 16).1) s = rdE s := by
    unfold rdEW rdE failS
    cases hf : fineP (rdT s 16).1 with
    | true => rw [if_pos rfl, if_neg (by simp)]
    | false =>
      rw [if_neg (by simp)]
      by_cases he : (rdT s 16).2.2 = 0
      · rw [if_pos ⟨he, by decide⟩, if_pos ⟨he, rfl⟩]
      · rw [if_neg (fun h => he h.1), if_neg (fun h => he h.1)]
  refine ⟨h1, ?_⟩
  unfold rdPoW rdPo
  rw [h1]
theorem pRead_any : PReadC := fun b t g s w hT h hg hL _ => by
  obtain ⟨h1, h2⟩ := rdEW_is s
  rw [← h1, ← h2]
  exact pRead_of b t g s w (fineP (rdT s 16).1) (fun V hV => pFine_any _ V hV (rdT_ok s 16)) (fun V hV => hT.reader h hV) h hg hL
end Go.Proofs.YtimbhamdblganaaDoor
