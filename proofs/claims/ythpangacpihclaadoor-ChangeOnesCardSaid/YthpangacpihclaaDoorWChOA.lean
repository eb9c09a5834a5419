/-
  The document's changes: One.
-/
import Derived.Test.YthpangacpihclaaDoorWChOa
import Derived.Test.YthpangacpihclaaDoorWChOb
import Derived.Test.YthpangacpihclaaDoorWChOc
import Derived.Test.YthpangacpihclaaDoorWChOd
import Derived.Test.YthpangacpihclaaDoorWChOt
/-! ChOA -/
namespace Go.Proofs.YthpangacpihclaaDoor
open Go.RowKit

set_option maxRecDepth 100000 in
set_option maxHeartbeats 3200000 in
theorem rcOneN (p : Pol) (c : Cg) (w : World) (hc : CgOk c) (hg : cgB c = false) :
    Calls Tryd.prog 10 #[.agg (polC p), .agg (chgC c)] w (OneIs p c w) := by
  have HG := Lib.hid (OnW.new w p c)
  have HF := Lib.hid (fun V => rcFine_any c V hc)
  rw [hg] at HF
  have h3 : oneE p c = 3 := by unfold oneE; rw [if_neg (by rw [hg]; simp)]
  have HX := Lib.hid (show oneE p c = 3 ∧ oneP p c = zeroP from ⟨h3, by unfold oneP; rw [h3, if_neg (by decide)]⟩)
  have hcg := HG.out.cg
  clear hc hg h3
  unfold OneIs
  go_enter Tryd.func10, Tryd.ntmps10
  go_upto_region 1 with fail
  generalize ((w.alloc (.cells (polC p) 29)).alloc _).alloc _ = w1 at *
  obtain ⟨bp, hbp⟩ : ∃ b, b = w.heap.size := ⟨_, rfl⟩
  rw [← hbp] at HG hcg ⊢
  clear hbp
  go_wp2_with (refine wpList_load_arr rfl _ _ rfl rfl hcg Tryd.underlying31 rfl (infoChg _) ?_)
  refine (HF.out _).mono ?_
  rintro e w2 ⟨rfl, hB2⟩
  have HG2 := Lib.hid (HG.out.step hB2)
  have hres := HG2.out.res
  clear hB2 hcg HG HF
  go_wp2_with fail
  simp only [store_pol hres rfl, Result.andThen_ok]
  have hw9 := put_pol (q := zeroP) hres
  generalize w2.setRow _ _ = w9 at *
  go_wp2_with fail
  exact bodyPost_ret (v := .tuple #[.agg (polC zeroP), .int .i64 3]) (results_pol2 rfl rfl rfl hw9.blk) rfl ⟨by rw [HX.out.1, HX.out.2], HG2.out.out hw9⟩
theorem rcOne_any (p : Pol) (c : Cg) (w : World) (hp : PolOk p) (hc : CgOk c) :
    Calls Tryd.prog 10 #[.agg (polC p), .agg (chgC c)] w (OneIs p c w) := by
  cases hg : cgB c with
  | false => exact rcOneN p c w hc hg
  | true =>
    obtain ⟨h1, h2, h3, h4, h5, h6, h7⟩ := cgB_iff.1 hg
    obtain ⟨k, a, b, s, i⟩ := c
    obtain ⟨a, rfl⟩ := Int.eq_ofNat_of_zero_le h3
    obtain ⟨b, rfl⟩ := Int.eq_ofNat_of_zero_le h5
    have hs := hc.s
    have hi := hc.i
    simp only at h1 h2 h4 h6 h7 hs hi
    have hm : b ≤ 16 ∧ (k = 3 ∨ k = 4 ∨ k = 6 → b < 16) := by
      unfold mostN at h7
      split at h7
      · exact ⟨by omega, fun _ => by omega⟩
      · rename_i hk
        split at h7
        · exact ⟨by omega, fun h => absurd h (by omega)⟩
        · exact ⟨by omega, fun h => by omega⟩
    rcases (show k = 1 ∨ k = 2 ∨ k = 3 ∨ k = 4 ∨ k = 5 ∨ k = 6 by omega) with rfl | rfl | rfl | rfl | rfl | rfl
    · exact rcOne1 p a b s i w hp (by omega) hm.1 hm.1 hs hi hg
    · exact rcOne2 p a b s i w hp (by omega) hm.1 hm.1 hs hi hg
    · exact rcOne3 p a b s i w hp (by omega) hm.1 (hm.2 (by omega)) hs hi hg
    · exact rcOne4 p a b s i w hp (by omega) hm.1 (hm.2 (by omega)) hs hi hg
    · exact rcOne5 p a b s i w hp (by omega) hm.1 hm.1 hs hi hg fun V => rcTag5 p a b s i V hp (by omega) hm.1 hm.1 hg
    · exact rcOne6 p a b s i w hp (by omega) hm.1 (hm.2 (by omega)) hs hi hg fun V => rcTag6 p a b s i V hp (by omega) hm.1 (hm.2 (by omega)) hg
end Go.Proofs.YthpangacpihclaaDoor
