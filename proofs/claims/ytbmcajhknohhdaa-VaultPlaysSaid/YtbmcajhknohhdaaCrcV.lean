/-
  What every law of layer 6 ends with, from the program's contracts: some calls that are known.
-/
import Derived.Test.YtbmcajhknohhdaaCrcC
import Derived.Lib.SlBytesConst
namespace Go.Proofs.Ytbmcajhknohhdaa
open Go.RowKit

def t1234 : List UInt8 := [49, 50, 51, 52]
def t56789 : List UInt8 := [53, 54, 55, 56, 57]
theorem crc_usual : crcSum [49, 50, 51, 52, 53, 54, 55, 56, 57] = 3421780262 := by decide +kernel
theorem crc_none : crcSum [] = 0 := by decide
theorem open_short : openErr [97, 98, 99] = 4 := by decide
theorem open_wrong : openErr [1, 0, 0, 0, 0] = 18 := by decide +kernel
theorem open_ab : openErr (sealL [97, 98]) = 0 ∧ openL (sealL [97, 98]) = [97, 98] := open_seal _
/-- A new block of known bytes. -/
theorem bs_lit (w : World) (cs : Array Value) (l : List UInt8) (h : cs.toList = bvs l) (hl : l.length ≤ 1000) : BsAt (w.alloc (.cells cs 5)) (some ⟨w.heap.size, 0, none⟩) l.length l.length l :=
  bsAt_new w cs _ 0 l (by unfold maxLen; omega) fun i hi => by
    rw [Nat.zero_add, ← Array.getElem?_toList, h]; exact bvs_get l i hi

/-- As new bytes that a conversion of a literal has marked. -/
theorem bs_mark (w : World) (cs : Array Value) (fr : Nat × Nat) (l : List UInt8) (h : cs.toList = bvs l) (hl : l.length ≤ 1000) : BsAt (w.alloc (.cells cs 5 fr)) (some ⟨w.heap.size, 0, none⟩) l.length l.length l :=
  ⟨rfl, Nat.le_refl _, by unfold maxLen; omega, .inr (.inr ⟨w.heap.size, 0, rfl, by simp, fun i hi => by
    rw [Nat.zero_add, World.cell?_alloc_mark w cs _ fr i, ← Array.getElem?_toList, h]; exact bvs_get l i hi⟩)⟩
theorem below_mark (w : World) (cs : Array Value) (fr : Nat × Nat) : Below w.heap.size w (w.alloc (.cells cs 5 fr)) := belowNew w _
end Go.Proofs.Ytbmcajhknohhdaa
