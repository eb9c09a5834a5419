/-
  The document's checksum.
-/
import Derived.Test.YtoieodlpoglmfaaDoorByteP
import Derived.Test.YtoieodlpoglmfaaDoorCrcM
import Derived.Laws.BitsAllLaws
import Derived.LoopTactic
namespace Go.Proofs.YtoieodlpoglmfaaDoor
open Go.RowKit

theorem crcReg_take {l : List UInt8} {k : Nat} (h : k < l.length) : crcReg crcAll (l.take (k + 1)) = crcByte (crcReg crcAll (l.take k)) l[k].toNat := by
  rw [List.take_succ_eq_append_getElem h, crcReg_append]; rfl
theorem xor_poly (r : Nat) (h : r < 4294967296) : bits .xor .u32 ((r : Int) / 2) 3988292384 = ((r / 2 ^^^ crcPoly : Nat) : Int) := by
  have h1 := u32_xor_nat (r / 2) 3988292384 (by omega) (by decide)
  have h2 : ((r / 2 : Nat) : Int) = (r : Int) / 2 := by omega
  rw [h2] at h1
  exact h1

end Go.Proofs.YtoieodlpoglmfaaDoor
