/-
  The program's policies: Seen, Owned, First.
-/
import Derived.StillTailTactics
import Derived.Test.YtmaachmidgfhdaaGreatDoorW3
import Derived.Test.YtmaachmidgfhdaaGreatDoorW2
import Derived.Test.YtmaachmidgfhdaaGreatDoorWGraL
import Derived.Test.YtmaachmidgfhdaaGreatDoorW1
/-! PolE -/
namespace Go.Proofs.YtmaachmidgfhdaaGreatDoor
open Go.RowKit

/-- All labels of a policy, and all owners. -/
def labsC (p : Pol) : Array Value := ((List.range 32).map (fun j => polAt p (1 + j))).toArray
theorem labsC_size (p : Pol) : (labsC p).size = 32 := by simp [labsC]
theorem labsC_get (p : Pol) {j : Nat} (h : j < 32) : (labsC p)[j]? = some (polAt p (1 + j)) := by simp [labsC, h]
theorem pol_labs (p : Pol) (i : Nat) (hi : i < (labsC p).size) : (polC p)[1 + i]? = (labsC p)[i]? := by
  rw [labsC_size] at hi
  rw [labsC_get p hi, polC_get p (by omega)]
def ownsC (p : Pol) : Array Value := arrC .u8 16 p.owner
theorem ownsC_size (p : Pol) : (ownsC p).size = 16 := arrC_size _ _ _
theorem ownsC_get (p : Pol) {j : Nat} (h : j < 16) : (ownsC p)[j]? = some (.int .u8 (p.owner j : Nat)) := arrC_get _ _ h
theorem pol_owns (p : Pol) (i : Nat) (hi : i < (ownsC p).size) : (polC p)[49 + i]? = (ownsC p)[i]? := by
  rw [ownsC_size] at hi
  rw [ownsC_get p hi, polC_get p (by omega)]
  unfold polAt
  rw [if_neg (by omega), if_neg (by omega), if_neg (by omega), if_pos (by omega), show 49 + i - 49 = i by omega]
theorem infoLabs (p : Pol) : (Tryz.prog.info? 25).map (·.size) = some (labsC p).size := by rw [labsC_size]; kernel_rfl
theorem infoOwns (p : Pol) : (Tryz.prog.info? 27).map (·.size) = some (ownsC p).size := by rw [ownsC_size]; kernel_rfl
theorem labs_part (p : Pol) {k : Nat} (hk : k < 16) : (labsC p).extract (k * 2) (k * 2 + 2) = #[.int .u16 (p.s k : Nat), .int .u16 (p.i k : Nat)] := by
  have hs : ((labsC p).extract (k * 2) (k * 2 + 2)).size = 2 := by rw [Array.size_extract, labsC_size]; omega
  apply Array.ext_getElem?
  intro i
  match i with
  | 0 =>
    rw [Array.getElem?_extract_of_lt (by rw [labsC_size]; omega), ← Array.getElem?_eq_getElem, labsC_get p (by omega)]
    unfold polAt
    rw [if_neg (by omega), if_pos (by omega), if_pos (by omega), show (1 + (k * 2 + 0)) / 2 = k by omega]; rfl
  | 1 =>
    rw [Array.getElem?_extract_of_lt (by rw [labsC_size]; omega), ← Array.getElem?_eq_getElem, labsC_get p (by omega)]
    unfold polAt
    rw [if_neg (by omega), if_pos (by omega), if_neg (by omega), show (1 + (k * 2 + 1)) / 2 - 1 = k by omega]; rfl
  | i + 2 =>
    rw [Array.getElem?_eq_none (by rw [hs]; omega)]; rfl
theorem infoLab : ∃ i, Tryz.prog.info? 24 = some i := Go.info_of_underlying Tryz.underlying24
theorem run_index_labs (p : Pol) {k : Nat} (hk : k < 16) (w : World) : (Instr.index 25 (.agg (labsC p)) (.int .i64 (k : Int))).run Tryz.prog w = .ok (.agg #[.int .u16 (p.s k : Nat), .int .u16 (p.i k : Nat)]) w := by
  obtain ⟨i, hi⟩ := infoLab
  have h2 : (k : Int) < 16 := by omega
  have hz : Tryz.prog.cellsOf 24 = 2 := by kernel_rfl
  simp only [Instr.index, asIntOf, Sem.run_bind, Sem.run_pure, Result.andThen_ok, run_underlying Tryz.underlying25]
  rw [if_pos ⟨Int.natCast_nonneg k, h2⟩]
  simp only [Sem.run_bind, run_sizeOf w hi, Result.andThen_ok, hz, Int.toNat_natCast]
  simp only [part, isAgg, Sem.run_bind, run_underlying Tryz.underlying24, Result.andThen_ok, Sem.run_pure, run_sizeOf w hi, hz, if_true, labs_part p hk]
theorem run_index_owns (p : Pol) {k : Nat} (hk : k < 16) (w : World) : (Instr.index 27 (.agg (ownsC p)) (.int .i64 (k : Int))).run Tryz.prog w = .ok (.int .u8 (p.owner k : Nat)) w := by
  obtain ⟨i, hi⟩ : ∃ i, Tryz.prog.info? 5 = some i := Go.info_of_underlying Tryz.underlying5
  have h2 : (k : Int) < 16 := by omega
  simp only [Instr.index, asIntOf, Sem.run_bind, Sem.run_pure, Result.andThen_ok, run_underlying Tryz.underlying27]
  rw [if_pos ⟨Int.natCast_nonneg k, h2⟩]
  simp only [Sem.run_bind, run_sizeOf w hi, Result.andThen_ok, show Tryz.prog.cellsOf 5 = 1 by kernel_rfl, Nat.mul_one, Int.toNat_natCast]
  exact run_part_plain (P := Tryz.prog) w (e := 5) (by kernel_rfl) (ownsC_get p hk)
/-- A set of one. -/
theorem of_one (w : World) (k : Nat) : Calls Tryz.prog 41 #[.slice (some ⟨w.heap.size, 0, none⟩) 1 1] (w.alloc (.cells #[.int .i64 (k : Int)] 3)) fun e w' => e = .returned (.int .u16 (ofL 0 [(k : Int)] : Nat)) ∧ w.alloc (.cells #[.int .i64 (k : Int)] 3) = w' :=
  Of_any _ _ _ (ints_one w (k : Int))
end Go.Proofs.YtmaachmidgfhdaaGreatDoor
