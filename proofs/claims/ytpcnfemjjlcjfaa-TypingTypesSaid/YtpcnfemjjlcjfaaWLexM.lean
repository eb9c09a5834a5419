/-
  The pieces of a query in plain terms: the table, where a piece ends, the pieces of a text; with blanks between, the same pieces.
-/
import Derived.Lib.ItoaNum
import Derived.Lib.Join
import Derived.Lib.AtoiAll
import Derived.Lib.Bytealg
import Derived.Laws.BitsAllLaws
import Derived.Laws.ShiftsVarLaws
import Derived.WalkKit
import Derived.Lib.TrailingZeros
/-! LexM -/
namespace Go.Proofs.Ytpcnfemjjlcjfaa

/-- A piece, but for its place. -/
structure Pc where
  kind : Nat
  text : List UInt8
  n : Nat
deriving DecidableEq
end Go.Proofs.Ytpcnfemjjlcjfaa
