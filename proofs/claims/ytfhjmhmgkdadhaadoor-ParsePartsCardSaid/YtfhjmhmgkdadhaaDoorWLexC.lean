/-
  What is asked of the program's pieces; slices of pieces.
-/
import Derived.OwnWalk
import Derived.Laws.AppendOwnNone
import Derived.Test.YtfhjmhmgkdadhaaDoorWLexA
import Derived.Test.YtfhjmhmgkdadhaaDoorWSlcG
import Derived.Test.YtfhjmhmgkdadhaaDoorWChainW
import Derived.Test.YtfhjmhmgkdadhaaDoorWBlk
/-! LexC -/
namespace Go.Proofs.YtfhjmhmgkdadhaaDoor
open Go.RowKit

/-- A piece's cells. -/
def pieC (x : Pc × Nat) : Array Value := #[.int .i64 (x.1.kind : Int), .string ⟨x.1.text.toArray⟩, .int .i64 (x.1.n : Int), .int .i64 (x.2 : Int)]
theorem pieC_size (x : Pc × Nat) : (pieC x).size = 4 := rfl
theorem pieC_one (x : Pc × Nat) : (pieC x).all (·.oneCell') = true := by simp [pieC, Value.oneCell']
abbrev PiesAt (w : World) (v : Value) (l : List (Pc × Nat)) : Prop := SlAt pieC 4 (fun _ => True) w v l
/-- What is answered. -/
def pcsO (s : List UInt8) : List (Pc × Nat) × Nat × Nat := if 48 < s.length then ([], 0, 5) else match pcsL s with
  | .ok L => (L, 0, 0)
  | .error k => ([], k, 3)
def PcsIs (s : List UInt8) (w : World) (e : Ending) (w' : World) : Prop := ∃ v, e = .returned (.tuple #[v, .int .i64 ((pcsO s).2.1 : Int), .int .i64 ((pcsO s).2.2 : Int)]) ∧ PiesAt w' v (pcsO s).1 ∧ Below w.heap.size w w'
def LPiecesC (G : World → Prop) : Prop := ∀ (s : List UInt8) (w : World), G w → s.length ≤ 9223372036854775807 → Calls Tryd.prog 17 #[.string ⟨s.toArray⟩] w (PcsIs s w)
def RPiecesC : Prop := ∀ (s : List UInt8) (w : World), s.length ≤ 9223372036854775807 → Calls Tryd.prog 20 #[.string ⟨s.toArray⟩] w (PcsIs s w)
theorem pcsF_len : ∀ (f pl : Nat) (s : List UInt8) (L : List (Pc × Nat)), pcsF f pl s = .ok L → L.length ≤ s.length + 1
  | 0, _, _, _, h => by
    unfold pcsF at h
    cases h
    simp
  | f + 1, pl, [], L, h => by
    unfold pcsF at h
    cases h
    simp
  | f + 1, pl, c :: r, L, h => by
    unfold pcsF at h
    split at h
    · have := pcsF_len f (pl + 1) r L h
      simp only [List.length_cons]
      omega
    · split at h
      · cases h
      · rename_i y hy
        have hc := cut_pos (c :: r)
        have hc2 := cut_le c r
        cases e : pcsF f (pl + cutN (c :: r)) ((c :: r).drop (cutN (c :: r))) with
        | error k => rw [e] at h; cases h
        | ok M =>
          rw [e] at h
          cases h
          have := pcsF_len f _ _ M e
          rw [List.length_drop] at this
          simp only [List.length_cons] at this ⊢
          omega
theorem pcsO_len (s : List UInt8) : (pcsO s).1.length ≤ 49 := by
  unfold pcsO
  split
  · simp
  · split
    · rename_i L h
      have := pcsF_len _ _ _ _ h
      show L.length ≤ 49
      omega
    · simp
end Go.Proofs.YtfhjmhmgkdadhaaDoor
