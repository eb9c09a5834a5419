/-
  How an update is read, in plain terms.
-/
import Derived.RangeFuncNested
import Derived.RangeFuncBound
import Derived.RangeFuncCalls
import Derived.RangeFuncLeaves
import Derived.RangeFuncBox
import Derived.RangeFuncWrites
import Derived.Shelf.Abstract
import Derived.Shelf.RegionOpen
import Derived.WalkKit
import Derived.OwnWalkIn
import Derived.TacticsInMore
import Derived.LoopNIn
import Derived.LoopIn
import Derived.Maps.AppendAt
import Derived.Deep.WholeRow
import Derived.ChangeKeysEq
import Derived.Laws.Rows
import Derived.Outline
import Derived.OneCell
import Derived.Test.YtimbhamdblganaaDoorWPolSm
import Derived.Test.YtimbhamdblganaaDoorWPolU
import Derived.Test.YtimbhamdblganaaDoorWPolV
import Derived.Test.YtimbhamdblganaaDoorWPolT
import Derived.Test.YtimbhamdblganaaDoorW2
import Derived.Test.YtimbhamdblganaaDoorW1
import Derived.Test.YtimbhamdblganaaDoorWPolN
import Derived.Test.YtimbhamdblganaaDoorWPolB
/-! ChT -/
namespace Go.Proofs.YtimbhamdblganaaDoor

def rdB (s : WSt) : Nat := (dNum s 1 255).1.toNat
def rdBs (s : WSt) : WSt := (dNum s 1 255).2
theorem dNum_fewer (s : WSt) (size most : Int) : (dNum s size most).2.1.length ≤ s.1.length := by
  have ht : (takeS s size.toNat).1.length ≤ s.1.length := by
    unfold takeS; split
    · exact fail_le s 4
    · show (s.1.drop _).length ≤ _; rw [List.length_drop]; omega
  unfold dNum; split
  · split
    · exact Nat.le_trans (fail_le _ _) ht
    · exact ht
  · exact fail_le s 8
/-- The document's single bytes. -/
theorem byte_dNum {s : WSt} (h : Fit s) : byteV s = rdB s ∧ byteS s = rdBs s := by
  obtain ⟨l, e⟩ := s
  have hz : sizedB (1 : Int) = true := by decide
  have h1 : (1 : Int).toNat = 1 := rfl
  unfold rdB rdBs dNum byteV byteS
  rw [if_pos hz]
  by_cases he : e = 0
  · subst he
    cases l with
    | nil =>
      have e1 : tookS (([] : List UInt8), (0 : Int)) (1 : Int).toNat = [] := rfl
      have e2 : takeS (([] : List UInt8), (0 : Int)) (1 : Int).toNat = ([], 4) := rfl
      rw [e1, e2]
      exact ⟨rfl, rfl⟩
    | cons c r =>
      have hc := c.toNat_lt
      have e1 : tookS (c :: r, (0 : Int)) (1 : Int).toNat = [c] := by
        unfold tookS; rw [if_neg (by simp)]; rfl
      have e2 : takeS (c :: r, (0 : Int)) (1 : Int).toNat = (r, 0) := by
        unfold takeS; rw [if_neg (by simp)]; rfl
      have e3 : valB [c] = c.toNat := by simp [valB]
      have h3 : ¬ ((255 : Int) < ((c.toNat : Nat) : Int)) := by omega
      rw [e1, e2, e3, if_neg h3, if_pos rfl, if_pos rfl]
      exact ⟨rfl, rfl⟩
  · have hl : l = [] := h he
    subst hl
    have e1 : tookS (([] : List UInt8), e) (1 : Int).toNat = [] := rfl
    have e2 : takeS (([] : List UInt8), e) (1 : Int).toNat = ([], e) := by
      unfold takeS; rw [if_pos (by simp)]; unfold failS; rw [if_neg (fun x => he x.1)]
    rw [e1, e2, if_neg he, if_neg he]
    exact ⟨rfl, rfl⟩
end Go.Proofs.YtimbhamdblganaaDoor
