/-
  The mended policy in plain terms.
-/
import Derived.Test.YtimbhamdblganaaDoorWPolU
import Derived.Test.YtimbhamdblganaaDoorWPolT
import Derived.Test.YtimbhamdblganaaDoorW1
/-! PolV -/
namespace Go.Proofs.YtimbhamdblganaaDoor
open Go.RowKit

/-- What is left of a role's label, of what it acts for, and of a tag's owner. -/
def mSet (p : Pol) (f : Nat → Nat) (r : Nat) : Nat := if p.live.testBit r = true then f r &&& p.active else 0
def mAct (p : Pol) (r : Nat) : Nat := if p.live.testBit r = true then lessN (p.acts r &&& p.live) (withN 0 r) else 0
def mOwn (p : Pol) (t : Nat) : Nat := if (p.live.testBit (p.owner t) && p.active.testBit t) = true then p.owner t else 16
def uptoN (f g : Nat → Nat) (k : Nat) : Nat → Nat := fun r => if r < k then f r else g r
theorem uptoN_zero (f g : Nat → Nat) : uptoN f g 0 = g := by funext r; exact if_neg (by omega)
theorem uptoN_at (f g : Nat → Nat) (k : Nat) : uptoN f g k k = g k := if_neg (by omega)
theorem uptoN_step (f g : Nat → Nat) (k : Nat) : upd (uptoN f g k) k (f k) = uptoN f g (k + 1) := by
  funext r; unfold upd uptoN
  by_cases h : r = k
  · subst h; rw [if_pos rfl, if_pos (by omega)]
  · rw [if_neg h]
    by_cases h2 : r < k
    · rw [if_pos h2, if_pos (by omega)]
    · rw [if_neg h2, if_neg (by omega)]
theorem upd_upd (f : Nat → Nat) (k u v : Nat) : upd (upd f k u) k v = upd f k v := by
  funext r; unfold upd
  by_cases h : r = k
  · rw [if_pos h, if_pos h]
  · rw [if_neg h, if_neg h, if_neg h]
/-- The roles below k are mended. -/
def mendK (p : Pol) (k : Nat) : Pol := ⟨p.live, uptoN (mSet p p.s) p.s k, uptoN (mSet p p.i) p.i k, uptoN (mAct p) p.acts k, p.owner, p.active⟩
/-- All roles are mended, and the tags below k. -/
def mendT (p : Pol) (k : Nat) : Pol := { mendK p 16 with owner := uptoN (mOwn p) p.owner k }
def mendN (p : Pol) : Pol := mendT p 16
theorem mendK_zero (p : Pol) : mendK p 0 = p := by unfold mendK; rw [uptoN_zero, uptoN_zero, uptoN_zero]
theorem mendT_zero (p : Pol) : mendT p 0 = mendK p 16 := by unfold mendT; rw [uptoN_zero]; rfl
theorem mendK_live (p : Pol) (k : Nat) (h : p.live.testBit k = true) :
    (((mendK p k).putS k ((mendK p k).s k &&& p.active)).putI k ((mendK p k).i k &&& p.active)).putA k (lessN ((mendK p k).acts k &&& p.live) (withN 0 k)) = mendK p (k + 1) := by
  have e1 : (mendK p k).s k &&& p.active = mSet p p.s k := by
    show uptoN _ _ k k &&& _ = _
    rw [uptoN_at]; exact (if_pos h).symm
  have e2 : (mendK p k).i k &&& p.active = mSet p p.i k := by
    show uptoN _ _ k k &&& _ = _
    rw [uptoN_at]; exact (if_pos h).symm
  have e3 : lessN ((mendK p k).acts k &&& p.live) (withN 0 k) = mAct p k := by
    show lessN (uptoN _ _ k k &&& _) _ = _
    rw [uptoN_at]; exact (if_pos h).symm
  rw [e1, e2, e3]
  unfold Pol.putS Pol.putI Pol.putA mendK
  simp only [uptoN_step]
theorem mendK_dead (p : Pol) (k : Nat) (h : p.live.testBit k = false) :
    ((((((mendK p k).putS k 0).putI k 0).putA k 0).putS k (0 &&& p.active)).putI k (0 &&& p.active)).putA k (lessN (0 &&& p.live) (withN 0 k)) = mendK p (k + 1) := by
  have hn : ¬ p.live.testBit k = true := by rw [h]; simp
  have e1 : (0 &&& p.active) = mSet p p.s k := by rw [Nat.zero_and]; exact (if_neg hn).symm
  have e2 : (0 &&& p.active) = mSet p p.i k := by rw [Nat.zero_and]; exact (if_neg hn).symm
  have e3 : lessN (0 &&& p.live) (withN 0 k) = mAct p k := by
    rw [Nat.zero_and]; unfold lessN; rw [Nat.zero_and]; exact (if_neg hn).symm
  rw [e3, show ((((mendK p k).putS k 0).putI k 0).putA k 0).putS k (0 &&& p.active) = ((((mendK p k).putS k 0).putI k 0).putA k 0).putS k (mSet p p.s k) by rw [e1], e2]
  unfold Pol.putS Pol.putI Pol.putA mendK
  simp only [upd_upd, uptoN_step]
theorem mendT_step (p : Pol) (k : Nat) : (mendT p k).putO k (mOwn p k) = mendT p (k + 1) := by
  unfold Pol.putO mendT
  simp only [uptoN_step]
theorem mendT_keep (p : Pol) (k : Nat) (h : (p.live.testBit (p.owner k) && p.active.testBit k) = true) : mendT p k = mendT p (k + 1) := by
  rw [← mendT_step]
  unfold Pol.putO mendT
  have e : upd (uptoN (mOwn p) p.owner k) k (mOwn p k) = uptoN (mOwn p) p.owner k := by
    funext r; unfold upd
    by_cases hr : r = k
    · subst hr; rw [if_pos rfl, uptoN_at]; exact if_pos h
    · rw [if_neg hr]
  simp only [e]
theorem mSet_lt {p : Pol} {f : Nat → Nat} {r : Nat} (h : f r < 65536) : mSet p f r < 65536 := by
  unfold mSet; split
  · exact and_lt _ h
  · decide
theorem mendK_ok {p : Pol} (h : PolOk p) (k : Nat) : PolOk (mendK p k) := by
  refine ⟨h.live, h.active, fun r hr => ?_, fun r hr => ?_, fun r hr => ?_, h.owner⟩
  · show uptoN _ _ k r < _
    unfold uptoN; split
    · exact mSet_lt (h.s r hr)
    · exact h.s r hr
  · show uptoN _ _ k r < _
    unfold uptoN; split
    · exact mSet_lt (h.i r hr)
    · exact h.i r hr
  · show uptoN _ _ k r < _
    unfold uptoN; split
    · unfold mAct; split
      · exact lessN_lt _ (and_lt _ (h.acts r hr))
      · decide
    · exact h.acts r hr
end Go.Proofs.YtimbhamdblganaaDoor
