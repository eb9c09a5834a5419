/-
  The laws of pieces, from the program's one contract, for a row's arguments.
-/
import Derived.Test.YtcbphjdhafnkmaaDoorLexV
import Derived.Test.YtcbphjdhafnkmaaDoorLawXBlanks
import Derived.Test.YtcbphjdhafnkmaaDoorLawXTable
namespace Go.Proofs.YtcbphjdhafnkmaaDoor
open Go.RowKit

theorem keepX_true : KeepX fun _ => True := ⟨fun _ _ => trivial⟩
theorem xtells_row {G : World → Prop} (gK : KeepX G) (cP : LPiecesC G) (s : ByteArray) (hs : s.size ≤ maxLen) (w : World) (hw : G w) : Calls Tryd.prog 3 #[.string s] w fun e w' => e = .returned (.bool true) ∧ Below w.heap.size w w' :=
  xtells_any gK cP (lxalive_any gK cP) s.data.toList w hw hs
theorem xblanks_row {G : World → Prop} (gK : KeepX G) (cP : LPiecesC G) (s : ByteArray) (hs : s.size ≤ maxLen) (w : World) (hw : G w) : Calls Tryd.prog 4 #[.string s] w fun e w' => e = .returned (.bool true) ∧ Below w.heap.size w w' :=
  xblanks_any gK cP (lxalive_any gK cP) s.data.toList w hw hs
theorem xtable_row {G : World → Prop} (gK : KeepX G) (cP : LPiecesC G) (a b : Nat) (ha : a < 65536) (hb : b < 65536) (w : World) (hw : G w) : Calls Tryd.prog 5 #[.int .u16 (a : Int), .int .u16 (b : Int)] w fun e w' => e = .returned (.bool true) ∧ Below w.heap.size w w' :=
  xtable_any gK cP (lxalive_any gK cP) a b w hw ha hb
end Go.Proofs.YtcbphjdhafnkmaaDoor
