/-
  The program's policies: First.
-/
import Derived.StillTailTactics
import Derived.Test.YtmaachmidgfhdaaGreatDoorWPolE
import Derived.Test.YtmaachmidgfhdaaGreatDoorW1
/-! PolH -/
namespace Go.Proofs.YtmaachmidgfhdaaGreatDoor
open Go.RowKit

theorem of_zero (w : World) (b : Nat) (hb : b = w.heap.size) : Calls Tryz.prog 41 #[.slice (some ⟨b, 0, none⟩) 1 1] (w.alloc (.cells #[.int .i64 0] 3)) fun e w' => e = .returned (.int .u16 1) ∧ w.alloc (.cells #[.int .i64 0] 3) = w' := by
  subst hb
  exact (of_one w 0).mono fun e w' ⟨he, hw⟩ => ⟨by rw [he]; rfl, hw⟩
set_option maxRecDepth 100000 in
set_option maxHeartbeats 1600000 in
theorem pFirst_any : PFirstC := by
  intro w
  go_enter Tryz.func24, Tryz.ntmps24
  go_wp2_with fail
  with_reducible refine (of_zero _ _ (by simp)).mono ?_
  rintro e wx ⟨rfl, rfl⟩
  have hZ := (PRow.new w zeroP).alloc (.cells #[.int .i64 0] 3)
  have hW0 := (belowNew w (.cells (polC zeroP) 29)).alloc (by simp) (.cells #[.int .i64 0] 3)
  have hn : w.heap.size < ((w.alloc (.cells (polC zeroP) 29)).alloc (.cells #[.int .i64 0] 3)).heap.size := by simp; omega
  generalize (w.alloc (.cells (polC zeroP) 29)).alloc (.cells #[.int .i64 0] 3) = w1 at *
  generalize hbp : w.heap.size = bp at *
  have HBp := Lib.hid hbp
  clear hbp
  go_wp2_with fail
  have hB := PRow.new w1 zeroP
  simp only [store_pol hB mid_pol, Result.andThen_ok]
  have hM := setRow_heap _ _ _ (polC midP) _ _ hB
  have hA := (setRow_other _ w1.heap.size bp (polC midP) (by omega)).trans (hZ.alloc (.cells (polC zeroP) 29))
  have hW := (hW0.alloc (Nat.le_of_lt hn) (.cells (polC zeroP) 29)).trans (below_row (b := w1.heap.size) (c := polC midP) (Nat.le_of_lt hn))
  have hlt : w1.heap.size < ((w1.alloc (.cells (polC zeroP) 29)).setRow w1.heap.size (polC midP)).heap.size := by simp
  generalize (w1.alloc (.cells (polC zeroP) 29)).setRow w1.heap.size (polC midP) = w2 at *
  have HM : Hid (PRow w2 w1.heap.size midP) := Lib.hid hM
  have HA : Hid (PRow w2 bp zeroP) := Lib.hid hA
  have HW := Lib.hid hW
  have HN := Lib.hid hn
  clear hM hA hW hB hZ hW0 hn hlt
  generalize w1.heap.size = bt at *
  go_wp2_with fail
  refine (lBottom_any _).mono ?_
  rintro e w3 ⟨rfl, hB3⟩
  have hm := HM.out.step hB3
  have ha := HA.out.step hB3
  have hw := HW.out.trans (hB3.mono (HBp.out ▸ HW.out.size))
  clear hB3 HM HA HW
  have k1 := hm.s (r := 0) (by decide)
  have k2 := hm.i (r := 0) (by decide)
  have f1 := Blk.free hm 1
  have f2 := Blk.free hm 2
  have hS := Blk.set (Blk.set hm 1 (.int .u16 0)) 2 (.int .u16 65535)
  have hA2 := Blk.set_other (Blk.set_other ha (a := ⟨bt, 1, none⟩) (by show ¬ bt = bp; have := HN.out; omega) (.int .u16 0)) (a := ⟨bt, 2, none⟩) (by show ¬ bt = bp; have := HN.out; omega) (.int .u16 65535)
  have hS1 : PRow _ bt firstP := hS.trans (congrArg (fun c => some (Obj.cells c 29 (0, 0))) first_pol)
  have hW2 := (hw.setCell (p := ⟨bt, 1, none⟩) (by have := HN.out; have := HBp.out; show _ ≤ bt; omega) (.int .u16 0)).setCell (p := ⟨bt, 2, none⟩) (by have := HN.out; have := HBp.out; show _ ≤ bt; omega) (.int .u16 65535)
  clear hS hm ha hw
  go_upto_region 3 with fail
  generalize (w3.setCell _ _).setCell _ _ = w4 at *
  go_wp2_with (first
    | (refine wpList_load_arr rfl _ _ rfl rfl hS1 Tryz.underlying29 rfl (infoPol _) ?_)
    | (refine wpList_store_arr rfl rfl _ _ _ rfl rfl rfl hA2 (infoPol _) (by rw [polC_size, polC_size]) (polC_one _) ?_; intro w5 hw5))
  exact bodyPost_ret (results_arr rfl rfl hw5.blk Tryz.underlying29 rfl (infoPol _)) rfl ⟨rfl, by rw [HBp.out]; exact hW2.trans (hw5.below (by rw [← HBp.out]; exact hW2.size) (Nat.le_refl _))⟩
end Go.Proofs.YtmaachmidgfhdaaGreatDoor
