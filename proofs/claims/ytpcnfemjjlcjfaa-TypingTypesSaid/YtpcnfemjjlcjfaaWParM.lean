/-
  Queries in plain terms: their nodes.
-/
import Derived.Test.YtpcnfemjjlcjfaaWLexM
/-! ParM -/
namespace Go.Proofs.Ytpcnfemjjlcjfaa
open Go.RowKit

/-- A node. -/
structure Qn where
  kind : Int
  n : Int
deriving DecidableEq
/-- What is left to read: pieces and their places. -/
abbrev Toks := List (Pc × Nat)
/-- What is read: the nodes, and what is left; or why not, and where. -/
abbrev QnR := Except (Nat × Nat) (List Qn × Toks)
def headT (ts : Toks) : List UInt8 := (ts.head?.map fun x => x.1.text).getD []
def headAt (ts : Toks) : Nat := (ts.head?.map fun x => x.2).getD 0
/-- The kind of a word's node. -/
def wordQ (t : List UInt8) : Nat := if t = [97, 108, 108] then 1 else if t = [108, 105, 118, 101] then 2 else if t = [109, 105, 110, 101] then 3 else if t = [117, 112] then 6 else if t = [100, 111, 119, 110] then 7 else if t = [116, 97, 103, 115] then 8 else if t = [111, 119, 110, 101, 114, 115] then 9 else if t = [99, 111, 117, 110, 116] then 10 else if t = [115, 111, 109, 101] then 11 else 0
mutual
def oneQ : Nat → Nat → Toks → QnR
  | 0, _, _ => .error (0, 0)
  | f + 1, d, ts => if 8 < d then .error (17, headAt ts) else match ts with
    | [] => .error (3, 0)
    | x :: r => if x.1.kind = 2 then .ok ([⟨4, x.1.n⟩], r) else if x.1.kind = 3 then .ok ([⟨5, x.1.n⟩], r) else if x.1.kind = 1 then
        (if wordQ x.1.text < 4 then .ok ([⟨wordQ x.1.text, 0⟩], r) else match oneQ f (d + 1) r with
          | .error e => .error e
          | .ok (o, r2) => .ok (o ++ [⟨wordQ x.1.text, 0⟩], r2))
      else if x.1.text = [40] then match testQ f (d + 1) r with
        | .error e => .error e
        | .ok (o, r2) => if headT r2 = [41] then .ok (o, r2.tail) else .error (3, headAt r2)
      else .error (3, x.2)
def andQ : Nat → Nat → List Qn → Toks → QnR
  | 0, _, _, _ => .error (0, 0)
  | f + 1, d, o, ts => if headT ts = [38] then match oneQ f d ts.tail with
      | .error e => .error e
      | .ok (o2, r2) => andQ f d (o ++ o2 ++ [⟨12, 0⟩]) r2
    else .ok (o, ts)
def bothQ : Nat → Nat → Toks → QnR
  | 0, _, _ => .error (0, 0)
  | f + 1, d, ts => match oneQ f d ts with
    | .error e => .error e
    | .ok (o, r) => andQ f d o r
def orQ : Nat → Nat → List Qn → Toks → QnR
  | 0, _, _, _ => .error (0, 0)
  | f + 1, d, o, ts => if headT ts = [124] ∨ headT ts = [45] then match bothQ f d ts.tail with
      | .error e => .error e
      | .ok (o2, r2) => orQ f d (o ++ o2 ++ [⟨if headT ts = [124] then 13 else 14, 0⟩]) r2
    else .ok (o, ts)
def sumQ : Nat → Nat → Toks → QnR
  | 0, _, _ => .error (0, 0)
  | f + 1, d, ts => match bothQ f d ts with
    | .error e => .error e
    | .ok (o, r) => orQ f d o r
def testQ : Nat → Nat → Toks → QnR
  | 0, _, _ => .error (0, 0)
  | f + 1, d, ts => match sumQ f d ts with
    | .error e => .error e
    | .ok (o, r) => if headT r = [60, 61] then match sumQ f d r.tail with
        | .error e => .error e
        | .ok (o2, r2) => .ok (o ++ o2 ++ [⟨15, 0⟩], r2)
      else .ok (o, r)
end
end Go.Proofs.Ytpcnfemjjlcjfaa
