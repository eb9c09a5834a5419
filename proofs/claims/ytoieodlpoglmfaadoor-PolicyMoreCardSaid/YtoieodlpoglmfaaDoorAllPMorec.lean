/-
  A policy, and a policy with two roles, a label and some roles, as arguments of a row: opened.
-/
import Derived.Test.YtoieodlpoglmfaaDoorAllPMoreb
import Derived.Test.YtoieodlpoglmfaaDoorSetM
import Derived.Test.YtoieodlpoglmfaaDoorLabB
import Derived.Test.YtoieodlpoglmfaaDoorSetA
import Derived.Test.YtoieodlpoglmfaaDoorStage
import Derived.Test.YtoieodlpoglmfaaDoorMid
import Derived.Test.YtoieodlpoglmfaaDoorAppB
import Derived.Test.YtoieodlpoglmfaaDoorWirM
import Derived.Test.YtoieodlpoglmfaaDoorByteP
import Derived.Test.YtoieodlpoglmfaaDoorRowB
import Derived.Test.YtoieodlpoglmfaaDoorMkB
import Derived.Test.YtoieodlpoglmfaaDoorCrcS
import Derived.Test.YtoieodlpoglmfaaDoorWirX
import Derived.Deep.DeepCutAuto
import Derived.Test.YtoieodlpoglmfaaDoorWirD
import Derived.Test.YtoieodlpoglmfaaDoorTab
import Derived.Test.YtoieodlpoglmfaaDoorInvM
import Derived.Test.YtoieodlpoglmfaaDoorLabA
import Derived.Test.YtoieodlpoglmfaaDoorRows
import Derived.Test.YtoieodlpoglmfaaDoorBlk
import Derived.ProofKit
import Derived.OpenShut
import Derived.Deep.DeepHandedRow
import Derived.LaidMore
import Derived.Stop.Joined
import Derived.Deep.Slices
import Derived.Deep.Fields
import Derived.ChangeSame
import Derived.JoinedOf
import Derived.JoinedAt
import Derived.ChangeMaps
import Derived.DataElems
import Derived.Test.YtoieodlpoglmfaaDoorPbA
/-! PolU -/
namespace Go.Proofs.YtoieodlpoglmfaaDoor
open Go.RowKit

def upd (f : Nat → Nat) (r v : Nat) : Nat → Nat := fun j => if j = r then v else f j
theorem upd_same (f : Nat → Nat) (r v : Nat) : upd f r v r = v := if_pos rfl
theorem upd_other (f : Nat → Nat) {r j : Nat} (v : Nat) (h : j ≠ r) : upd f r v j = f j := if_neg h
theorem upd_lt {f : Nat → Nat} {r v n : Nat} (hf : ∀ j, j < 16 → f j < n) (hv : v < n) (j : Nat) (hj : j < 16) : upd f r v j < n := by
  unfold upd; split
  · exact hv
  · exact hf j hj
def Pol.putS (p : Pol) (r v : Nat) : Pol := { p with s := upd p.s r v }
def Pol.putI (p : Pol) (r v : Nat) : Pol := { p with i := upd p.i r v }
def Pol.putA (p : Pol) (r v : Nat) : Pol := { p with acts := upd p.acts r v }
def Pol.putO (p : Pol) (t v : Nat) : Pol := { p with owner := upd p.owner t v }
theorem polC_put {p q : Pol} {k : Nat} {u : Value} (h : ∀ j, j < 66 → polAt q j = if j = k then u else polAt p j) : (polC p).setIfInBounds k u = polC q := by
  apply Array.ext
  · rw [Array.size_setIfInBounds, polC_size, polC_size]
  · intro j h1 h2
    have hj : j < 66 := by rw [polC_size] at h2; exact h2
    have e1 := polC_get q hj
    have e2 := polC_get p hj
    rw [Array.getElem?_eq_getElem h2] at e1
    rw [Array.getElem?_eq_getElem (by rw [polC_size]; exact hj)] at e2
    have hj2 : j < (polC p).size := by rw [polC_size]; exact hj
    rw [Array.getElem_setIfInBounds hj2, Option.some.inj e1, h j hj]
    by_cases e : k = j
    · subst e; rw [if_pos rfl, if_pos rfl]
    · rw [if_neg e, if_neg (fun x => e x.symm)]; exact Option.some.inj e2
theorem PRow.put {w : World} {b : Nat} {p q : Pol} {k : Nat} {u : Value} (h : PRow w b p) (hq : ∀ j, j < 66 → polAt q j = if j = k then u else polAt p j) : PRow (w.setCell ⟨b, k, none⟩ u) b q := by
  have h2 := Blk.set h k u
  rw [polC_put hq] at h2
  exact h2
section
variable {w : World} {b : Nat} {p : Pol}
theorem PRow.putS (h : PRow w b p) {r : Nat} (hr : r < 16) (v : Nat) : PRow (w.setCell ⟨b, 1 + r * 2, none⟩ (.int .u16 (v : Int))) b (p.putS r v) := by
  refine h.put fun j _ => ?_
  by_cases e : j = 1 + r * 2
  · subst e
    rw [if_pos rfl]; unfold polAt
    rw [if_neg (by omega), if_pos (by omega), if_pos (by omega), show (1 + r * 2) / 2 = r by omega]
    show Value.int .u16 (upd p.s r v r : Nat) = _
    rw [upd_same]
  · rw [if_neg e]; unfold polAt
    by_cases h0 : j = 0
    · rw [if_pos h0, if_pos h0]; rfl
    · rw [if_neg h0, if_neg h0]
      by_cases h1 : j < 33
      · rw [if_pos h1, if_pos h1]
        by_cases h2 : j % 2 = 1
        · rw [if_pos h2, if_pos h2]
          show Value.int .u16 (upd p.s r v (j / 2) : Nat) = _
          rw [upd_other _ _ (by omega)]
        · rw [if_neg h2, if_neg h2]; rfl
      · rw [if_neg h1, if_neg h1]; rfl
theorem PRow.putI (h : PRow w b p) {r : Nat} (hr : r < 16) (v : Nat) : PRow (w.setCell ⟨b, 1 + r * 2 + 1, none⟩ (.int .u16 (v : Int))) b (p.putI r v) := by
  refine h.put fun j _ => ?_
  by_cases e : j = 1 + r * 2 + 1
  · subst e
    rw [if_pos rfl]; unfold polAt
    rw [if_neg (by omega), if_pos (by omega), if_neg (by omega), show (1 + r * 2 + 1) / 2 - 1 = r by omega]
    show Value.int .u16 (upd p.i r v r : Nat) = _
    rw [upd_same]
  · rw [if_neg e]; unfold polAt
    by_cases h0 : j = 0
    · rw [if_pos h0, if_pos h0]; rfl
    · rw [if_neg h0, if_neg h0]
      by_cases h1 : j < 33
      · rw [if_pos h1, if_pos h1]
        by_cases h2 : j % 2 = 1
        · rw [if_pos h2, if_pos h2]; rfl
        · rw [if_neg h2, if_neg h2]
          show Value.int .u16 (upd p.i r v (j / 2 - 1) : Nat) = _
          rw [upd_other _ _ (by omega)]
      · rw [if_neg h1, if_neg h1]; rfl
theorem PRow.putA (h : PRow w b p) {r : Nat} (hr : r < 16) (v : Nat) : PRow (w.setCell ⟨b, 33 + r, none⟩ (.int .u16 (v : Int))) b (p.putA r v) := by
  refine h.put fun j _ => ?_
  by_cases e : j = 33 + r
  · subst e
    rw [if_pos rfl]; unfold polAt
    rw [if_neg (by omega), if_neg (by omega), if_pos (by omega), show 33 + r - 33 = r by omega]
    show Value.int .u16 (upd p.acts r v r : Nat) = _
    rw [upd_same]
  · rw [if_neg e]; unfold polAt
    by_cases h0 : j = 0
    · rw [if_pos h0, if_pos h0]; rfl
    · rw [if_neg h0, if_neg h0]
      by_cases h1 : j < 33
      · rw [if_pos h1, if_pos h1]; rfl
      · rw [if_neg h1, if_neg h1]
        by_cases h2 : j < 49
        · rw [if_pos h2, if_pos h2]
          show Value.int .u16 (upd p.acts r v (j - 33) : Nat) = _
          rw [upd_other _ _ (by omega)]
        · rw [if_neg h2, if_neg h2]; rfl
theorem PRow.putO (h : PRow w b p) {t : Nat} (ht : t < 16) (v : Nat) : PRow (w.setCell ⟨b, 49 + t, none⟩ (.int .u8 (v : Int))) b (p.putO t v) := by
  refine h.put fun j _ => ?_
  by_cases e : j = 49 + t
  · subst e
    rw [if_pos rfl]; unfold polAt
    rw [if_neg (by omega), if_neg (by omega), if_neg (by omega), if_pos (by omega), show 49 + t - 49 = t by omega]
    show Value.int .u8 (upd p.owner t v t : Nat) = _
    rw [upd_same]
  · rw [if_neg e]; unfold polAt
    by_cases h0 : j = 0
    · rw [if_pos h0, if_pos h0]; rfl
    · rw [if_neg h0, if_neg h0]
      by_cases h1 : j < 33
      · rw [if_pos h1, if_pos h1]; rfl
      · rw [if_neg h1, if_neg h1]
        by_cases h2 : j < 49
        · rw [if_pos h2, if_pos h2]; rfl
        · rw [if_neg h2, if_neg h2]
          by_cases h3 : j < 65
          · rw [if_pos h3, if_pos h3]
            show Value.int .u8 (upd p.owner t v (j - 49) : Nat) = _
            rw [upd_other _ _ (by omega)]
          · rw [if_neg h3, if_neg h3]; rfl
end
end Go.Proofs.YtoieodlpoglmfaaDoor

/-! PolV -/
namespace Go.Proofs.YtoieodlpoglmfaaDoor
open Go.RowKit

/-- What is left of a role's label, of what it acts for, and of a tag's owner. -/
def mSet (p : Pol) (f : Nat → Nat) (r : Nat) : Nat := if p.live.testBit r = true then f r &&& p.active else 0
def mAct (p : Pol) (r : Nat) : Nat := if p.live.testBit r = true then lessN (p.acts r &&& p.live) (withN 0 r) else 0
def mOwn (p : Pol) (t : Nat) : Nat := if (p.live.testBit (p.owner t) && p.active.testBit t) = true then p.owner t else 16
def uptoN (f g : Nat → Nat) (k : Nat) : Nat → Nat := fun r => if r < k then f r else g r
theorem uptoN_zero (f g : Nat → Nat) : uptoN f g 0 = g := by funext r; exact if_neg (by omega)
theorem uptoN_at (f g : Nat → Nat) (k : Nat) : uptoN f g k k = g k := if_neg (by omega)
theorem uptoN_step (f g : Nat → Nat) (k : Nat) : upd (uptoN f g k) k (f k) = uptoN f g (k + 1) := by
  funext r; unfold upd uptoN
  by_cases h : r = k
  · subst h; rw [if_pos rfl, if_pos (by omega)]
  · rw [if_neg h]
    by_cases h2 : r < k
    · rw [if_pos h2, if_pos (by omega)]
    · rw [if_neg h2, if_neg (by omega)]
theorem upd_upd (f : Nat → Nat) (k u v : Nat) : upd (upd f k u) k v = upd f k v := by
  funext r; unfold upd
  by_cases h : r = k
  · rw [if_pos h, if_pos h]
  · rw [if_neg h, if_neg h, if_neg h]
/-- The roles below k are mended. -/
def mendK (p : Pol) (k : Nat) : Pol := ⟨p.live, uptoN (mSet p p.s) p.s k, uptoN (mSet p p.i) p.i k, uptoN (mAct p) p.acts k, p.owner, p.active⟩
/-- All roles are mended, and the tags below k. -/
def mendT (p : Pol) (k : Nat) : Pol := { mendK p 16 with owner := uptoN (mOwn p) p.owner k }
def mendN (p : Pol) : Pol := mendT p 16
theorem mendK_zero (p : Pol) : mendK p 0 = p := by unfold mendK; rw [uptoN_zero, uptoN_zero, uptoN_zero]
theorem mendT_zero (p : Pol) : mendT p 0 = mendK p 16 := by unfold mendT; rw [uptoN_zero]; rfl
theorem mendK_live (p : Pol) (k : Nat) (h : p.live.testBit k = true) :
    (((mendK p k).putS k ((mendK p k).s k &&& p.active)).putI k ((mendK p k).i k &&& p.active)).putA k (lessN ((mendK p k).acts k &&& p.live) (withN 0 k)) = mendK p (k + 1) := by
  have e1 : (mendK p k).s k &&& p.active = mSet p p.s k := by
    show uptoN _ _ k k &&& _ = _
    rw [uptoN_at]; exact (if_pos h).symm
  have e2 : (mendK p k).i k &&& p.active = mSet p p.i k := by
    show uptoN _ _ k k &&& _ = _
    rw [uptoN_at]; exact (if_pos h).symm
  have e3 : lessN ((mendK p k).acts k &&& p.live) (withN 0 k) = mAct p k := by
    show lessN (uptoN _ _ k k &&& _) _ = _
    rw [uptoN_at]; exact (if_pos h).symm
  rw [e1, e2, e3]
  unfold Pol.putS Pol.putI Pol.putA mendK
  simp only [uptoN_step]
theorem mendK_dead (p : Pol) (k : Nat) (h : p.live.testBit k = false) :
    ((((((mendK p k).putS k 0).putI k 0).putA k 0).putS k (0 &&& p.active)).putI k (0 &&& p.active)).putA k (lessN (0 &&& p.live) (withN 0 k)) = mendK p (k + 1) := by
  have hn : ¬ p.live.testBit k = true := by rw [h]; simp
  have e1 : (0 &&& p.active) = mSet p p.s k := by rw [Nat.zero_and]; exact (if_neg hn).symm
  have e2 : (0 &&& p.active) = mSet p p.i k := by rw [Nat.zero_and]; exact (if_neg hn).symm
  have e3 : lessN (0 &&& p.live) (withN 0 k) = mAct p k := by
    rw [Nat.zero_and]; unfold lessN; rw [Nat.zero_and]; exact (if_neg hn).symm
  rw [e3, show ((((mendK p k).putS k 0).putI k 0).putA k 0).putS k (0 &&& p.active) = ((((mendK p k).putS k 0).putI k 0).putA k 0).putS k (mSet p p.s k) by rw [e1], e2]
  unfold Pol.putS Pol.putI Pol.putA mendK
  simp only [upd_upd, uptoN_step]
theorem mendT_step (p : Pol) (k : Nat) : (mendT p k).putO k (mOwn p k) = mendT p (k + 1) := by
  unfold Pol.putO mendT
  simp only [uptoN_step]
theorem mendT_keep (p : Pol) (k : Nat) (h : (p.live.testBit (p.owner k) && p.active.testBit k) = true) : mendT p k = mendT p (k + 1) := by
  rw [← mendT_step]
  unfold Pol.putO mendT
  have e : upd (uptoN (mOwn p) p.owner k) k (mOwn p k) = uptoN (mOwn p) p.owner k := by
    funext r; unfold upd
    by_cases hr : r = k
    · subst hr; rw [if_pos rfl, uptoN_at]; exact if_pos h
    · rw [if_neg hr]
  simp only [e]
theorem mSet_lt {p : Pol} {f : Nat → Nat} {r : Nat} (h : f r < 65536) : mSet p f r < 65536 := by
  unfold mSet; split
  · exact and_lt _ h
  · decide
theorem mendK_ok {p : Pol} (h : PolOk p) (k : Nat) : PolOk (mendK p k) := by
  refine ⟨h.live, h.active, fun r hr => ?_, fun r hr => ?_, fun r hr => ?_, h.owner⟩
  · show uptoN _ _ k r < _
    unfold uptoN; split
    · exact mSet_lt (h.s r hr)
    · exact h.s r hr
  · show uptoN _ _ k r < _
    unfold uptoN; split
    · exact mSet_lt (h.i r hr)
    · exact h.i r hr
  · show uptoN _ _ k r < _
    unfold uptoN; split
    · unfold mAct; split
      · exact lessN_lt _ (and_lt _ (h.acts r hr))
      · decide
    · exact h.acts r hr
end Go.Proofs.YtoieodlpoglmfaaDoor

/-! PolX -/
namespace Go.Proofs.YtoieodlpoglmfaaDoor
open Go.RowKit

/-- The policy that is mended, and the place for the answer. -/
structure MW (w : World) (b : Nat) (q : Pol) (V : World) : Prop where
  below : Below b w V
  row : PRow V b q
  res : PRow V (b + 1) zeroP
  at_ : b = w.heap.size
theorem MW.step {w : World} {b : Nat} {q : Pol} {V V' : World} (h : MW w b q V) (hB : Below V.heap.size V V') : MW w b q V' :=
  ⟨h.below.trans (hB.mono (by rw [h.at_]; exact h.below.size)), h.row.step hB, h.res.step hB, h.at_⟩
theorem MW.new (w : World) (p : Pol) : MW w w.heap.size p ((w.alloc (.cells (polC p) 29)).alloc (.cells (polC zeroP) 29)) := by
  refine ⟨(belowNew w _).alloc (by simp) _, (PRow.new w p).alloc _, ?_, rfl⟩
  have h := PRow.new (w.alloc (.cells (polC p) 29)) zeroP
  simp only [World.size_alloc] at h
  exact h
theorem MW.cell {w : World} {b : Nat} {q q2 : Pol} {V : World} (h : MW w b q V) {k : Nat} {u : Value} (hr : PRow (V.setCell ⟨b, k, none⟩ u) b q2) : MW w b q2 (V.setCell ⟨b, k, none⟩ u) :=
  ⟨h.below.setCell (by simp) _, hr, Blk.set_other h.res (by simp) _, h.at_⟩
/-- .. and a role's label beside it. -/
structure LW (w : World) (b : Nat) (q : Pol) (bl ls li : Nat) (V : World) : Prop where
  mw : MW w b q V
  lab : Blk V bl #[.int .u16 (ls : Int), .int .u16 (li : Int)] 24
  lt : b + 1 < bl
theorem LW.step {w : World} {b : Nat} {q : Pol} {bl ls li : Nat} {V V' : World} (h : LW w b q bl ls li V) (hB : Below V.heap.size V V') : LW w b q bl ls li V' := ⟨h.mw.step hB, h.lab.below hB h.lab.lt, h.lt⟩
theorem LW.new {w : World} {b : Nat} {q : Pol} {V : World} (h : MW w b q V) (ls li : Nat) : LW w b q V.heap.size ls li (V.alloc (.cells #[.int .u16 (ls : Int), .int .u16 (li : Int)] 24)) :=
  ⟨h.step (belowNew V _), Blk.new V _ _, PRow.lt h.res⟩
theorem LW.cell {w : World} {b : Nat} {q q2 : Pol} {bl ls li : Nat} {V : World} (h : LW w b q bl ls li V) {k : Nat} {u : Value} (hr : PRow (V.setCell ⟨b, k, none⟩ u) b q2) : LW w b q2 bl ls li (V.setCell ⟨b, k, none⟩ u) :=
  ⟨h.mw.cell hr, Blk.set_other h.lab (by have := h.lt; show b ≠ bl; omega) _, h.lt⟩
theorem LW.active {w : World} {b : Nat} {p q : Pol} {bl ls li : Nat} {V : World} (h : LW w b q bl ls li V) (hl : Hid (q.live = p.live ∧ q.active = p.active)) : V.cell? ⟨b, 65, none⟩ = some (.int .u16 (p.active : Int)) := by
  rw [h.mw.row.active, hl.out.2]
def turnP (a b : Pol) : Nat → Pol
  | 0 => a
  | _ => b
def turnR (a b : Pol) : Nat → Pol
  | 0 => a
  | 1 => a
  | _ => b
theorem turnR_live {a b : Pol} (h : b.live = a.live) (n : Nat) : (turnR a b n).live = a.live := by
  unfold turnR; split
  · rfl
  · rfl
  · exact h
theorem turnP_hid {p a b : Pol} (hl : Hid (a.live = p.live ∧ a.active = p.active)) (h1 : b.live = a.live) (h2 : b.active = a.active) (n : Nat) : Hid ((turnP a b n).live = p.live ∧ (turnP a b n).active = p.active) := by
  unfold turnP; split
  · exact hl
  · exact ⟨h1.trans hl.out.1, h2.trans hl.out.2⟩
theorem leads_skipP {P : Program} {o : Oper} {a : Act} {w w' : World} {R : Value → World → Prop} (h : (execOp a.eval o).run P w = .ok .skip w') (hR : R undef w') : leads P o a w R := by
  unfold leads; rw [h]; exact hR
theorem mendT_gone (p : Pol) (k : Nat) (h : (p.live.testBit (p.owner k) && p.active.testBit k) = false) : (mendT p k).putO k 16 = mendT p (k + 1) := by
  rw [← mendT_step, show mOwn p k = 16 from if_neg (by rw [h]; simp)]
def deadQ (p : Pol) (k : Nat) : Pol := (((mendK p k).putS k 0).putI k 0).putA k 0
theorem deadQ_ok {p : Pol} (h : PolOk p) (k : Nat) : PolOk (deadQ p k) :=
  have h := mendK_ok h k
  ⟨h.live, h.active, upd_lt h.s (by decide), upd_lt h.i (by decide), upd_lt h.acts (by decide), h.owner⟩
theorem deadQ_done (p : Pol) (k : Nat) (h : p.live.testBit k = false) :
    (((deadQ p k).putS k ((deadQ p k).s k &&& p.active)).putI k ((deadQ p k).i k &&& p.active)).putA k (lessN ((deadQ p k).acts k &&& p.live) (withN 0 k)) = mendK p (k + 1) := by
  rw [show (deadQ p k).s k = 0 from upd_same _ _ _, show (deadQ p k).i k = 0 from upd_same _ _ _, show (deadQ p k).acts k = 0 from upd_same _ _ _]
  exact mendK_dead p k h
set_option maxRecDepth 100000 in
set_option maxHeartbeats 6400000 in
theorem rpMend_any (p : Pol) (w : World) (hp : PolOk p) :
    Calls Tryd.prog 12 #[.agg (polC p)] w fun e w' => e = .returned (.agg (polC (mendN p))) ∧ Below w.heap.size w w' := by
  have HG0 := Lib.hid (MW.new w p)
  have HHa := Lib.hid (fun V (r : Nat) => gHas_any p.live r V hp.live)
  have HOk := Lib.hid hp
  have HLv := Lib.hid hp.live
  have HAc := Lib.hid hp.active
  clear hp
  go_enter Tryd.func12, Tryd.ntmps12
  go_upto_region 1 with (simp only [zeroPol, Result.andThen_ok])
  generalize (w.alloc (.cells (polC p) 29)).alloc _ = w1 at *
  generalize w.heap.size = bp at *
  rw [← mendK_zero p] at HG0
  go_wp2_with fail
  go_loopw [3] (fun i wr => ∃ k : Nat, k ≤ 16 ∧ i = .int .i64 (k : Int) ∧ MW w bp (mendK p k) wr) (fun i _ => 16 - (intOf i).toNat)
  case atStart => exact ⟨0, by omega, rfl, HG0.out⟩
  case round =>
    obtain ⟨k, hk, rfl, hg⟩ := hrel
    have HG := Lib.hid hg
    clear hg HG0
    by_cases hlt : k < 16
    · have dk : decide ((k : Int) < 16) = true := by simp; omega
      have hk16 : (k : Int) < 16 := by omega
      have HHas := Lib.hid (fun V => HHa.out V k)
      have j0 : wr.cell? ⟨bp, 0, none⟩ = some (.int .u16 (p.live : Int)) := HG.out.row.live
      cases hl : p.live.testBit k with
      | false =>
        rw [hl] at HHas
        have k0 := HG.out.row.s hlt
        have f0 := Blk.free HG.out.row (1 + k * 2)
        have hS : PRow (wr.setCell ⟨bp, 1 + k * 2, none⟩ (.int .u16 0)) bp ((mendK p k).putS k 0) := HG.out.row.putS hlt 0
        have k1 := hS.i hlt
        have f1 := Blk.free hS (1 + k * 2 + 1)
        have h2 := (HG.out.cell hS).cell (hS.putI hlt 0)
        have HG2 : Hid (MW w bp (((mendK p k).putS k 0).putI k 0) ((wr.setCell ⟨bp, 1 + k * 2, none⟩ (.int .u16 0)).setCell ⟨bp, 1 + k * 2 + 1, none⟩ (.int .u16 0))) := Lib.hid h2
        clear hS h2
        go_upto_region 4 with fail
        go_wp2_with fail
        with_reducible refine (HHas.out _).mono ?_
        rintro e wx ⟨rfl, rfl⟩
        go_upto_region 6 with fail
        clear k0 k1 f0 f1 HG
        generalize (wr.setCell _ _).setCell _ _ = V2 at *
        have k2 := HG2.out.row.acts hlt
        have f2 := Blk.free HG2.out.row (33 + k)
        have h3 := HG2.out.cell (HG2.out.row.putA hlt 0)
        have HG3 : Hid (MW w bp ((((mendK p k).putS k 0).putI k 0).putA k 0) (V2.setCell ⟨bp, 33 + k, none⟩ (.int .u16 0))) := Lib.hid h3
        clear h3
        go_upto_region 7 with fail
        clear k2 f2 HG2
        have HM := Lib.hid (show MW w bp (deadQ p k) (V2.setCell ⟨bp, 33 + k, none⟩ (.int .u16 0)) from HG3.out)
        clear HG3
        generalize V2.setCell _ _ = VV at *
        have HE := Lib.hid (deadQ_done p k hl)
        have HQ := Lib.hid (deadQ_ok HOk.out k)
        have HL := Lib.hid (show (deadQ p k).live = p.live ∧ (deadQ p k).active = p.active from ⟨rfl, rfl⟩)
        clear hl j0
        generalize deadQ p k = q at *
        have k0 := HM.out.row.s hlt
        have k1 := HM.out.row.i hlt
        have Hls := Lib.hid (HQ.out.s k hlt)
        have Hli := Lib.hid (HQ.out.i k hlt)
        have Hla := Lib.hid (HQ.out.acts k hlt)
        have HA := Lib.hid (show q.acts k = q.acts k from rfl)
        generalize q.s k = ls at k0 HE Hls
        generalize q.i k = li at k1 HE Hli
        generalize hla : q.acts k = la at HE Hla
        clear HA
        have HA := Lib.hid hla
        clear hla
        have HLW := Lib.hid (LW.new HM.out ls li)
        go_upto_region 8 with fail
        clear k0 k1
        clear HM
        generalize VV.heap.size = bl at *
        generalize VV.alloc _ = V4 at *
        have HAnd1 := Lib.hid (fun V => rAnd_any ls p.active V Hls.out HAc.out)
        have HAnd2 := Lib.hid (fun V => rAnd_any li p.active V Hli.out HAc.out)
        have HAnd3 := Lib.hid (fun V => rAnd_any la p.live V Hla.out HLv.out)
        have HWi := Lib.hid (fun V => rWith_yes 0 (k : Int) V (by decide) (by omega) (by omega))
        rw [Int.toNat_natCast] at HWi
        have HLe := Lib.hid (fun V => rLess_any (la &&& p.live) (withN 0 k) V (and_lt _ Hla.out) (withN_lt (by decide) (by omega)))
        refine wp_region_S (fun n V => LW w bp (turnP q ((q.putS k (ls &&& p.active)).putI k (li &&& p.active)) n) bl ls li V) 1 [.val (.int .i64 (k : Int)), .val (.pointer (some ⟨bl, 0, none⟩)), .val (.int .u16 (ls : Int)), .val (.pointer (some ⟨bp, 65, none⟩)), .val (.int .u16 (p.active : Int)), .val (.int .u16 ((ls &&& p.active : Nat) : Int)), .val (.pointer (some ⟨bl, 1, none⟩)), .val (.int .u16 (li : Int)), .val (.pointer (some ⟨bp, 65, none⟩)), .val (.int .u16 (p.active : Int)), .val (.int .u16 ((li &&& p.active : Nat) : Int)), .val (.agg #[.int .u16 ((ls &&& p.active : Nat) : Int), .int .u16 ((li &&& p.active : Nat) : Int)]), .val (.pointer (some ⟨bp, 1, none⟩)), .val (.pointer (some ⟨bp, 1 + k * 2, none⟩)), .turn 0 (undef)]
          (fun x => { tmps := #[.agg (polC p), .pointer (some ⟨bp, 0, none⟩), .pointer (some ⟨bp + 1, 0, none⟩), .int .i64 (k : Int), .pointer (some ⟨bl, 0, none⟩), undef, .int .i64 (k : Int), .bool true, u8, u9, .pointer (some ⟨bp, 0, none⟩), .int .u16 (p.live : Int), .int .i64 (k : Int), .bool false, .bool true, .int .i64 (k : Int), .agg #[.int .u16 0, .int .u16 0], .pointer (some ⟨bp, 1, none⟩), .pointer (some ⟨bp, 1 + k * 2, none⟩), .int .i64 (k : Int), .pointer (some ⟨bp, 33, none⟩), .pointer (some ⟨bp, 33 + k, none⟩), .int .i64 (k : Int), .pointer (some ⟨bp, 1, none⟩), .pointer (some ⟨bp, 1 + k * 2, none⟩), .agg #[.int .u16 (ls : Int), .int .u16 (li : Int)], x 0, x 1, x 2, x 3, x 4, x 5, x 6, x 7, x 8, x 9, x 10, x 11, x 12, x 13, u40, u41, u42, u43, u44, u45, u46, u47, u48, u49, u50, u51, u52, undef, undef, undef, undef, undef, undef, undef, undef, undef, undef, undef, undef, undef, undef, undef, undef, undef, undef, undef, undef, undef, undef, undef, undef], defers := [] }) (fun i => ([u26, u27, u28, u29, u30, u31, u32, u33, u34, u35, u36, u37, u38, u39, undef] : List Value).getD i undef) (by kernel_rfl) rfl rfl (by kernel_rfl) (by kernel_rfl) (by kernel_rfl) (by kernel_rfl) (HLW.out.step (Below.refl _ _).drew) ?_ ?_
        · refine ⟨ObS.of_val rfl (fun x v => rfl) (fun x V kst hC hD => ?_), ?_⟩
          · clear hD
            refine want_yes rfl ?_
            exact leads_value (v := .int .i64 (k : Int)) (by go_simp) ⟨rfl, hC⟩
          refine ⟨ObS.of_val rfl (fun x v => rfl) (fun x V kst hC hD => ?_), ?_⟩
          · clear hD
            refine want_yes rfl ?_
            exact leads_value (v := .pointer (some ⟨bl, 0, none⟩)) (by go_simp) ⟨rfl, hC⟩
          refine ⟨ObS.of_val rfl (fun x v => rfl) (fun x V kst hC hD => ?_), ?_⟩
          · have e1 : x 1 = .pointer (some ⟨bl, 0, none⟩) := hD.1 rfl
            clear hD
            refine want_yes rfl ?_
            have k0 := hC.lab.cell 0
            have k1 := hC.lab.cell 1
            exact leads_value (v := .int .u16 (ls : Int)) (by go_simp) ⟨rfl, hC⟩
          refine ⟨ObS.of_val rfl (fun x v => rfl) (fun x V kst hC hD => ?_), ?_⟩
          · clear hD
            refine want_yes rfl ?_
            exact leads_value (v := .pointer (some ⟨bp, 65, none⟩)) (by go_simp) ⟨rfl, hC⟩
          refine ⟨ObS.of_val rfl (fun x v => rfl) (fun x V kst hC hD => ?_), ?_⟩
          · have e3 : x 3 = .pointer (some ⟨bp, 65, none⟩) := hD.1 rfl
            clear hD
            refine want_yes rfl ?_
            have k0 := hC.active (turnP_hid (b := ((q.putS k (ls &&& p.active)).putI k (li &&& p.active))) HL rfl rfl kst)
            exact leads_value (v := .int .u16 (p.active : Int)) (by go_simp) ⟨rfl, hC⟩
          refine ⟨ObS.of_val rfl (fun x v => rfl) (fun x V kst hC hD => ?_), ?_⟩
          · have e2 : x 2 = .int .u16 (ls : Int) := hD.1 rfl
            have e4 : x 4 = .int .u16 (p.active : Int) := hD.2.1 rfl
            clear hD
            refine want_yes rfl ?_
            exact leads_enter2 (by go_simp) ((HAnd1.out V).mono fun e w'' ⟨he, hB⟩ => ⟨_, he, rfl, hB ▸ hC⟩)
          refine ⟨ObS.of_val rfl (fun x v => rfl) (fun x V kst hC hD => ?_), ?_⟩
          · clear hD
            refine want_yes rfl ?_
            exact leads_value (v := .pointer (some ⟨bl, 1, none⟩)) (by go_simp) ⟨rfl, hC⟩
          refine ⟨ObS.of_val rfl (fun x v => rfl) (fun x V kst hC hD => ?_), ?_⟩
          · have e6 : x 6 = .pointer (some ⟨bl, 1, none⟩) := hD.1 rfl
            clear hD
            refine want_yes rfl ?_
            have k0 := hC.lab.cell 0
            have k1 := hC.lab.cell 1
            exact leads_value (v := .int .u16 (li : Int)) (by go_simp) ⟨rfl, hC⟩
          refine ⟨ObS.of_val rfl (fun x v => rfl) (fun x V kst hC hD => ?_), ?_⟩
          · clear hD
            refine want_yes rfl ?_
            exact leads_value (v := .pointer (some ⟨bp, 65, none⟩)) (by go_simp) ⟨rfl, hC⟩
          refine ⟨ObS.of_val rfl (fun x v => rfl) (fun x V kst hC hD => ?_), ?_⟩
          · have e8 : x 8 = .pointer (some ⟨bp, 65, none⟩) := hD.1 rfl
            clear hD
            refine want_yes rfl ?_
            have k0 := hC.active (turnP_hid (b := ((q.putS k (ls &&& p.active)).putI k (li &&& p.active))) HL rfl rfl kst)
            exact leads_value (v := .int .u16 (p.active : Int)) (by go_simp) ⟨rfl, hC⟩
          refine ⟨ObS.of_val rfl (fun x v => rfl) (fun x V kst hC hD => ?_), ?_⟩
          · have e7 : x 7 = .int .u16 (li : Int) := hD.1 rfl
            have e9 : x 9 = .int .u16 (p.active : Int) := hD.2.1 rfl
            have e5 : x 5 = .int .u16 ((ls &&& p.active : Nat) : Int) := hD.2.2.1 rfl
            clear hD
            refine want_yes rfl ?_
            exact leads_enter2 (by go_simp) ((HAnd2.out V).mono fun e w'' ⟨he, hB⟩ => ⟨_, he, rfl, hB ▸ hC⟩)
          refine ⟨ObS.of_val rfl (fun x v => rfl) (fun x V kst hC hD => ?_), ?_⟩
          · have e5 : x 5 = .int .u16 ((ls &&& p.active : Nat) : Int) := hD.1 rfl
            have e10 : x 10 = .int .u16 ((li &&& p.active : Nat) : Int) := hD.2.1 rfl
            clear hD
            refine want_yes rfl ?_
            exact leads_value (v := .agg #[.int .u16 ((ls &&& p.active : Nat) : Int), .int .u16 ((li &&& p.active : Nat) : Int)]) (by go_simp) ⟨rfl, hC⟩
          refine ⟨ObS.of_val rfl (fun x v => rfl) (fun x V kst hC hD => ?_), ?_⟩
          · clear hD
            refine want_yes rfl ?_
            exact leads_value (v := .pointer (some ⟨bp, 1, none⟩)) (by go_simp) ⟨rfl, hC⟩
          refine ⟨ObS.of_val rfl (fun x v => rfl) (fun x V kst hC hD => ?_), ?_⟩
          · have e12 : x 12 = .pointer (some ⟨bp, 1, none⟩) := hD.1 rfl
            have e0 : x 0 = .int .i64 (k : Int) := hD.2.1 rfl
            have e1 : x 1 = .pointer (some ⟨bl, 0, none⟩) := hD.2.2.2.1 rfl
            have e2 : x 2 = .int .u16 (ls : Int) := hD.2.2.2.2.1 rfl
            have e3 : x 3 = .pointer (some ⟨bp, 65, none⟩) := hD.2.2.2.2.2.1 rfl
            have e4 : x 4 = .int .u16 (p.active : Int) := hD.2.2.2.2.2.2.1 rfl
            have e5 : x 5 = .int .u16 ((ls &&& p.active : Nat) : Int) := hD.2.2.2.2.2.2.2.1 rfl
            have e6 : x 6 = .pointer (some ⟨bl, 1, none⟩) := hD.2.2.2.2.2.2.2.2.1 rfl
            have e7 : x 7 = .int .u16 (li : Int) := hD.2.2.2.2.2.2.2.2.2.1 rfl
            have e8 : x 8 = .pointer (some ⟨bp, 65, none⟩) := hD.2.2.2.2.2.2.2.2.2.2.1 rfl
            have e9 : x 9 = .int .u16 (p.active : Int) := hD.2.2.2.2.2.2.2.2.2.2.2.1 rfl
            have e10 : x 10 = .int .u16 ((li &&& p.active : Nat) : Int) := hD.2.2.2.2.2.2.2.2.2.2.2.2.1 rfl
            have e11 : x 11 = .agg #[.int .u16 ((ls &&& p.active : Nat) : Int), .int .u16 ((li &&& p.active : Nat) : Int)] := hD.2.2.2.2.2.2.2.2.2.2.2.2.2.1 rfl
            clear hD
            refine want_yes rfl ?_
            exact leads_value (v := .pointer (some ⟨bp, 1 + k * 2, none⟩)) (by go_simp) ⟨rfl, hC⟩
          refine ⟨ObS.of_turn rfl (fun x v => rfl) (fun x V hC hD => ?_), ?_⟩
          · have e13 : x 13 = .pointer (some ⟨bp, 1 + k * 2, none⟩) := hD.1 rfl
            have e11 : x 11 = .agg #[.int .u16 ((ls &&& p.active : Nat) : Int), .int .u16 ((li &&& p.active : Nat) : Int)] := hD.2.1 rfl
            have e10 : x 10 = .int .u16 ((li &&& p.active : Nat) : Int) := hD.2.2.1 rfl
            have e0 : x 0 = .int .i64 (k : Int) := hD.2.2.2.1 rfl
            have e1 : x 1 = .pointer (some ⟨bl, 0, none⟩) := hD.2.2.2.2.1 rfl
            have e2 : x 2 = .int .u16 (ls : Int) := hD.2.2.2.2.2.1 rfl
            have e3 : x 3 = .pointer (some ⟨bp, 65, none⟩) := hD.2.2.2.2.2.2.1 rfl
            have e4 : x 4 = .int .u16 (p.active : Int) := hD.2.2.2.2.2.2.2.1 rfl
            have e5 : x 5 = .int .u16 ((ls &&& p.active : Nat) : Int) := hD.2.2.2.2.2.2.2.2.1 rfl
            have e6 : x 6 = .pointer (some ⟨bl, 1, none⟩) := hD.2.2.2.2.2.2.2.2.2.1 rfl
            have e7 : x 7 = .int .u16 (li : Int) := hD.2.2.2.2.2.2.2.2.2.2.1 rfl
            have e8 : x 8 = .pointer (some ⟨bp, 65, none⟩) := hD.2.2.2.2.2.2.2.2.2.2.2.1 rfl
            have e9 : x 9 = .int .u16 (p.active : Int) := hD.2.2.2.2.2.2.2.2.2.2.2.2.1 rfl
            clear hD
            refine want_yes rfl ?_
            have k0 := hC.mw.row.s hlt
            have f0 := Blk.free hC.mw.row (1 + k * 2)
            have hS := hC.mw.row.putS hlt (ls &&& p.active)
            have k1 := hS.i hlt
            have f1 := Blk.free hS (1 + k * 2 + 1)
            exact leads_skipP (w' := (V.setCell ⟨bp, 1 + k * 2, none⟩ (.int .u16 ((ls &&& p.active : Nat) : Int))).setCell ⟨bp, 1 + k * 2 + 1, none⟩ (.int .u16 ((li &&& p.active : Nat) : Int))) (by go_simp) ⟨rfl, (hC.cell hS).cell (hS.putI hlt (li &&& p.active))⟩
          trivial
        · intro xa V hC hx
          have HV := Lib.hid (show MW w bp ((q.putS k (ls &&& p.active)).putI k (li &&& p.active)) V from hC.mw)
          clear hx hC HLW
          go_upto_region 9 with fail
          refine wp_region_S (fun n V => MW w bp (turnR ((q.putS k (ls &&& p.active)).putI k (li &&& p.active)) (((q.putS k (ls &&& p.active)).putI k (li &&& p.active)).putA k (lessN (la &&& p.live) (withN 0 k))) n) V) 2 [.val (.int .i64 (k : Int)), .val (.int .i64 (k : Int)), .val (.pointer (some ⟨bp, 33, none⟩)), .val (.pointer (some ⟨bp, 33 + k, none⟩)), .turn 0 (.int .u16 (la : Int)), .val (.pointer (some ⟨bp, 0, none⟩)), .val (.int .u16 (p.live : Int)), .val (.int .u16 ((la &&& p.live : Nat) : Int)), .val (.int .i64 (k : Int)), .val (.int .u16 ((withN 0 k : Nat) : Int)), .val (.int .u16 ((lessN (la &&& p.live) (withN 0 k) : Nat) : Int)), .val (.pointer (some ⟨bp, 33, none⟩)), .val (.pointer (some ⟨bp, 33 + k, none⟩)), .turn 1 (undef)]
            (fun x => { tmps := #[.agg (polC p), .pointer (some ⟨bp, 0, none⟩), .pointer (some ⟨bp + 1, 0, none⟩), .int .i64 (k : Int), .pointer (some ⟨bl, 0, none⟩), undef, .int .i64 (k : Int), .bool true, u8, u9, .pointer (some ⟨bp, 0, none⟩), .int .u16 (p.live : Int), .int .i64 (k : Int), .bool false, .bool true, .int .i64 (k : Int), .agg #[.int .u16 0, .int .u16 0], .pointer (some ⟨bp, 1, none⟩), .pointer (some ⟨bp, 1 + k * 2, none⟩), .int .i64 (k : Int), .pointer (some ⟨bp, 33, none⟩), .pointer (some ⟨bp, 33 + k, none⟩), .int .i64 (k : Int), .pointer (some ⟨bp, 1, none⟩), .pointer (some ⟨bp, 1 + k * 2, none⟩), .agg #[.int .u16 (ls : Int), .int .u16 (li : Int)], xa 0, xa 1, xa 2, xa 3, xa 4, xa 5, xa 6, xa 7, xa 8, xa 9, xa 10, xa 11, xa 12, xa 13, x 0, x 1, x 2, x 3, x 4, x 5, x 6, x 7, x 8, x 9, x 10, x 11, x 12, undef, undef, undef, undef, undef, undef, undef, undef, undef, undef, undef, undef, undef, undef, undef, undef, undef, undef, undef, undef, undef, undef, undef, undef], defers := [] }) (fun i => ([u40, u41, u42, u43, u44, u45, u46, u47, u48, u49, u50, u51, u52, undef] : List Value).getD i undef) (by kernel_rfl) rfl rfl (by kernel_rfl) (by kernel_rfl) (by kernel_rfl) (by kernel_rfl) (HV.out.step (Below.refl _ _).drew) ?_ ?_
          · refine ⟨ObS.of_val rfl (fun x v => rfl) (fun x V kst hC hD => ?_), ?_⟩
            · clear hD
              refine want_yes rfl ?_
              exact leads_value (v := .int .i64 (k : Int)) (by go_simp) ⟨rfl, hC⟩
            refine ⟨ObS.of_val rfl (fun x v => rfl) (fun x V kst hC hD => ?_), ?_⟩
            · clear hD
              refine want_yes rfl ?_
              exact leads_value (v := .int .i64 (k : Int)) (by go_simp) ⟨rfl, hC⟩
            refine ⟨ObS.of_val rfl (fun x v => rfl) (fun x V kst hC hD => ?_), ?_⟩
            · clear hD
              refine want_yes rfl ?_
              exact leads_value (v := .pointer (some ⟨bp, 33, none⟩)) (by go_simp) ⟨rfl, hC⟩
            refine ⟨ObS.of_val rfl (fun x v => rfl) (fun x V kst hC hD => ?_), ?_⟩
            · have e2 : x 2 = .pointer (some ⟨bp, 33, none⟩) := hD.1 rfl
              have e1 : x 1 = .int .i64 (k : Int) := hD.2.1 rfl
              clear hD
              refine want_yes rfl ?_
              exact leads_value (v := .pointer (some ⟨bp, 33 + k, none⟩)) (by go_simp) ⟨rfl, hC⟩
            refine ⟨ObS.of_turn rfl (fun x v => rfl) (fun x V hC hD => ?_), ?_⟩
            · have e3 : x 3 = .pointer (some ⟨bp, 33 + k, none⟩) := hD.1 rfl
              clear hD
              refine want_yes rfl ?_
              have k0 := hC.row.acts hlt
              rw [show (turnR ((q.putS k (ls &&& p.active)).putI k (li &&& p.active)) (((q.putS k (ls &&& p.active)).putI k (li &&& p.active)).putA k (lessN (la &&& p.live) (withN 0 k))) 0).acts k = la from HA.out] at k0
              exact leads_value (v := .int .u16 (la : Int)) (by go_simp) ⟨rfl, hC⟩
            refine ⟨ObS.of_val rfl (fun x v => rfl) (fun x V kst hC hD => ?_), ?_⟩
            · clear hD
              refine want_yes rfl ?_
              exact leads_value (v := .pointer (some ⟨bp, 0, none⟩)) (by go_simp) ⟨rfl, hC⟩
            refine ⟨ObS.of_val rfl (fun x v => rfl) (fun x V kst hC hD => ?_), ?_⟩
            · have e5 : x 5 = .pointer (some ⟨bp, 0, none⟩) := hD.1 rfl
              clear hD
              refine want_yes rfl ?_
              have k0 := hC.row.live
              rw [turnR_live (a := ((q.putS k (ls &&& p.active)).putI k (li &&& p.active))) (b := (((q.putS k (ls &&& p.active)).putI k (li &&& p.active)).putA k (lessN (la &&& p.live) (withN 0 k)))) rfl, show (((q.putS k (ls &&& p.active)).putI k (li &&& p.active))).live = p.live from HL.out.1] at k0
              exact leads_value (v := .int .u16 (p.live : Int)) (by go_simp) ⟨rfl, hC⟩
            refine ⟨ObS.of_val rfl (fun x v => rfl) (fun x V kst hC hD => ?_), ?_⟩
            · have e4 : x 4 = .int .u16 (la : Int) := hD.1 rfl
              have e6 : x 6 = .int .u16 (p.live : Int) := hD.2.1 rfl
              clear hD
              refine want_yes rfl ?_
              exact leads_enter2 (by go_simp) ((HAnd3.out V).mono fun e w'' ⟨he, hB⟩ => ⟨_, he, rfl, hB ▸ hC⟩)
            refine ⟨ObS.of_val rfl (fun x v => rfl) (fun x V kst hC hD => ?_), ?_⟩
            · clear hD
              refine want_yes rfl ?_
              exact leads_value (v := .int .i64 (k : Int)) (by go_simp) ⟨rfl, hC⟩
            refine ⟨ObS.of_val rfl (fun x v => rfl) (fun x V kst hC hD => ?_), ?_⟩
            · have e8 : x 8 = .int .i64 (k : Int) := hD.1 rfl
              have e7 : x 7 = .int .u16 ((la &&& p.live : Nat) : Int) := hD.2.1 rfl
              clear hD
              refine want_yes rfl ?_
              exact leads_enter2 (by go_simp) ((HWi.out V).mono fun e w'' ⟨he, hB⟩ => ⟨_, he, rfl, hB ▸ hC⟩)
            refine ⟨ObS.of_val rfl (fun x v => rfl) (fun x V kst hC hD => ?_), ?_⟩
            · have e7 : x 7 = .int .u16 ((la &&& p.live : Nat) : Int) := hD.1 rfl
              have e9 : x 9 = .int .u16 ((withN 0 k : Nat) : Int) := hD.2.1 rfl
              clear hD
              refine want_yes rfl ?_
              exact leads_enter2 (by go_simp) ((HLe.out V).mono fun e w'' ⟨he, hB⟩ => ⟨_, he, rfl, hB ▸ hC⟩)
            refine ⟨ObS.of_val rfl (fun x v => rfl) (fun x V kst hC hD => ?_), ?_⟩
            · clear hD
              refine want_yes rfl ?_
              exact leads_value (v := .pointer (some ⟨bp, 33, none⟩)) (by go_simp) ⟨rfl, hC⟩
            refine ⟨ObS.of_val rfl (fun x v => rfl) (fun x V kst hC hD => ?_), ?_⟩
            · have e11 : x 11 = .pointer (some ⟨bp, 33, none⟩) := hD.1 rfl
              have e0 : x 0 = .int .i64 (k : Int) := hD.2.1 rfl
              have e1 : x 1 = .int .i64 (k : Int) := hD.2.2.2.1 rfl
              have e2 : x 2 = .pointer (some ⟨bp, 33, none⟩) := hD.2.2.2.2.1 rfl
              have e3 : x 3 = .pointer (some ⟨bp, 33 + k, none⟩) := hD.2.2.2.2.2.1 rfl
              have e4 : x 4 = .int .u16 (la : Int) := hD.2.2.2.2.2.2.1 rfl
              have e5 : x 5 = .pointer (some ⟨bp, 0, none⟩) := hD.2.2.2.2.2.2.2.1 rfl
              have e6 : x 6 = .int .u16 (p.live : Int) := hD.2.2.2.2.2.2.2.2.1 rfl
              have e7 : x 7 = .int .u16 ((la &&& p.live : Nat) : Int) := hD.2.2.2.2.2.2.2.2.2.1 rfl
              have e8 : x 8 = .int .i64 (k : Int) := hD.2.2.2.2.2.2.2.2.2.2.1 rfl
              have e9 : x 9 = .int .u16 ((withN 0 k : Nat) : Int) := hD.2.2.2.2.2.2.2.2.2.2.2.1 rfl
              have e10 : x 10 = .int .u16 ((lessN (la &&& p.live) (withN 0 k) : Nat) : Int) := hD.2.2.2.2.2.2.2.2.2.2.2.2.1 rfl
              clear hD
              refine want_yes rfl ?_
              exact leads_value (v := .pointer (some ⟨bp, 33 + k, none⟩)) (by go_simp) ⟨rfl, hC⟩
            refine ⟨ObS.of_turn rfl (fun x v => rfl) (fun x V hC hD => ?_), ?_⟩
            · have e12 : x 12 = .pointer (some ⟨bp, 33 + k, none⟩) := hD.1 rfl
              have e10 : x 10 = .int .u16 ((lessN (la &&& p.live) (withN 0 k) : Nat) : Int) := hD.2.1 rfl
              have e0 : x 0 = .int .i64 (k : Int) := hD.2.2.2.1 rfl
              have e1 : x 1 = .int .i64 (k : Int) := hD.2.2.2.2.1 rfl
              have e2 : x 2 = .pointer (some ⟨bp, 33, none⟩) := hD.2.2.2.2.2.1 rfl
              have e3 : x 3 = .pointer (some ⟨bp, 33 + k, none⟩) := hD.2.2.2.2.2.2.1 rfl
              have e4 : x 4 = .int .u16 (la : Int) := hD.2.2.2.2.2.2.2.1 rfl
              have e5 : x 5 = .pointer (some ⟨bp, 0, none⟩) := hD.2.2.2.2.2.2.2.2.1 rfl
              have e6 : x 6 = .int .u16 (p.live : Int) := hD.2.2.2.2.2.2.2.2.2.1 rfl
              have e7 : x 7 = .int .u16 ((la &&& p.live : Nat) : Int) := hD.2.2.2.2.2.2.2.2.2.2.1 rfl
              have e8 : x 8 = .int .i64 (k : Int) := hD.2.2.2.2.2.2.2.2.2.2.2.1 rfl
              have e9 : x 9 = .int .u16 ((withN 0 k : Nat) : Int) := hD.2.2.2.2.2.2.2.2.2.2.2.2.1 rfl
              clear hD
              refine want_yes rfl ?_
              have k0 := hC.row.acts hlt
              have f0 := Blk.free hC.row (33 + k)
              exact leads_skipP (w' := V.setCell ⟨bp, 33 + k, none⟩ (.int .u16 ((lessN (la &&& p.live) (withN 0 k) : Nat) : Int))) (by go_simp) ⟨rfl, hC.cell (hC.row.putA hlt _)⟩
            trivial
          · intro xb V' hC hx
            have HV2 := Lib.hid (show MW w bp (((q.putS k (ls &&& p.active)).putI k (li &&& p.active)).putA k (lessN (la &&& p.live) (withN 0 k))) V' from hC)
            clear hx hC HV
            rw [HE.out] at HV2
            go_wp2_with fail
            go_roundw
            case rel => first | exact ⟨k + 1, by omega, by go_num, HV2.out⟩ | ((repeat apply Exists.intro); exact ⟨⟨k + 1, by omega, by go_num, HV2.out⟩, rfl⟩)
            case measure => simp [intOf]; omega
      | true =>
        rw [hl] at HHas
        go_wp2_with fail
        with_reducible refine (HHas.out _).mono ?_
        rintro e wx ⟨rfl, rfl⟩
        have HE := Lib.hid (mendK_live p k hl)
        have HQ := Lib.hid (mendK_ok HOk.out k)
        have HL := Lib.hid (show (mendK p k).live = p.live ∧ (mendK p k).active = p.active from ⟨rfl, rfl⟩)
        have HM := Lib.hid HG.out
        clear hl j0 HG
        generalize mendK p k = q at *
        generalize wr = VV at *
        have k0 := HM.out.row.s hlt
        have k1 := HM.out.row.i hlt
        have Hls := Lib.hid (HQ.out.s k hlt)
        have Hli := Lib.hid (HQ.out.i k hlt)
        have Hla := Lib.hid (HQ.out.acts k hlt)
        have HA := Lib.hid (show q.acts k = q.acts k from rfl)
        generalize q.s k = ls at k0 HE Hls
        generalize q.i k = li at k1 HE Hli
        generalize hla : q.acts k = la at HE Hla
        clear HA
        have HA := Lib.hid hla
        clear hla
        have HLW := Lib.hid (LW.new HM.out ls li)
        go_upto_region 8 with fail
        clear k0 k1
        clear HM
        generalize VV.heap.size = bl at *
        generalize VV.alloc _ = V4 at *
        have HAnd1 := Lib.hid (fun V => rAnd_any ls p.active V Hls.out HAc.out)
        have HAnd2 := Lib.hid (fun V => rAnd_any li p.active V Hli.out HAc.out)
        have HAnd3 := Lib.hid (fun V => rAnd_any la p.live V Hla.out HLv.out)
        have HWi := Lib.hid (fun V => rWith_yes 0 (k : Int) V (by decide) (by omega) (by omega))
        rw [Int.toNat_natCast] at HWi
        have HLe := Lib.hid (fun V => rLess_any (la &&& p.live) (withN 0 k) V (and_lt _ Hla.out) (withN_lt (by decide) (by omega)))
        refine wp_region_S (fun n V => LW w bp (turnP q ((q.putS k (ls &&& p.active)).putI k (li &&& p.active)) n) bl ls li V) 1 [.val (.int .i64 (k : Int)), .val (.pointer (some ⟨bl, 0, none⟩)), .val (.int .u16 (ls : Int)), .val (.pointer (some ⟨bp, 65, none⟩)), .val (.int .u16 (p.active : Int)), .val (.int .u16 ((ls &&& p.active : Nat) : Int)), .val (.pointer (some ⟨bl, 1, none⟩)), .val (.int .u16 (li : Int)), .val (.pointer (some ⟨bp, 65, none⟩)), .val (.int .u16 (p.active : Int)), .val (.int .u16 ((li &&& p.active : Nat) : Int)), .val (.agg #[.int .u16 ((ls &&& p.active : Nat) : Int), .int .u16 ((li &&& p.active : Nat) : Int)]), .val (.pointer (some ⟨bp, 1, none⟩)), .val (.pointer (some ⟨bp, 1 + k * 2, none⟩)), .turn 0 (undef)]
          (fun x => { tmps := #[.agg (polC p), .pointer (some ⟨bp, 0, none⟩), .pointer (some ⟨bp + 1, 0, none⟩), .int .i64 (k : Int), .pointer (some ⟨bl, 0, none⟩), undef, .int .i64 (k : Int), .bool true, u8, u9, .pointer (some ⟨bp, 0, none⟩), .int .u16 (p.live : Int), .int .i64 (k : Int), .bool true, .bool false, u15, u16, u17, u18, u19, u20, u21, .int .i64 (k : Int), .pointer (some ⟨bp, 1, none⟩), .pointer (some ⟨bp, 1 + k * 2, none⟩), .agg #[.int .u16 (ls : Int), .int .u16 (li : Int)], x 0, x 1, x 2, x 3, x 4, x 5, x 6, x 7, x 8, x 9, x 10, x 11, x 12, x 13, u40, u41, u42, u43, u44, u45, u46, u47, u48, u49, u50, u51, u52, undef, undef, undef, undef, undef, undef, undef, undef, undef, undef, undef, undef, undef, undef, undef, undef, undef, undef, undef, undef, undef, undef, undef, undef], defers := [] }) (fun i => ([u26, u27, u28, u29, u30, u31, u32, u33, u34, u35, u36, u37, u38, u39, undef] : List Value).getD i undef) (by kernel_rfl) rfl rfl (by kernel_rfl) (by kernel_rfl) (by kernel_rfl) (by kernel_rfl) (HLW.out.step (Below.refl _ _).drew) ?_ ?_
        · refine ⟨ObS.of_val rfl (fun x v => rfl) (fun x V kst hC hD => ?_), ?_⟩
          · clear hD
            refine want_yes rfl ?_
            exact leads_value (v := .int .i64 (k : Int)) (by go_simp) ⟨rfl, hC⟩
          refine ⟨ObS.of_val rfl (fun x v => rfl) (fun x V kst hC hD => ?_), ?_⟩
          · clear hD
            refine want_yes rfl ?_
            exact leads_value (v := .pointer (some ⟨bl, 0, none⟩)) (by go_simp) ⟨rfl, hC⟩
          refine ⟨ObS.of_val rfl (fun x v => rfl) (fun x V kst hC hD => ?_), ?_⟩
          · have e1 : x 1 = .pointer (some ⟨bl, 0, none⟩) := hD.1 rfl
            clear hD
            refine want_yes rfl ?_
            have k0 := hC.lab.cell 0
            have k1 := hC.lab.cell 1
            exact leads_value (v := .int .u16 (ls : Int)) (by go_simp) ⟨rfl, hC⟩
          refine ⟨ObS.of_val rfl (fun x v => rfl) (fun x V kst hC hD => ?_), ?_⟩
          · clear hD
            refine want_yes rfl ?_
            exact leads_value (v := .pointer (some ⟨bp, 65, none⟩)) (by go_simp) ⟨rfl, hC⟩
          refine ⟨ObS.of_val rfl (fun x v => rfl) (fun x V kst hC hD => ?_), ?_⟩
          · have e3 : x 3 = .pointer (some ⟨bp, 65, none⟩) := hD.1 rfl
            clear hD
            refine want_yes rfl ?_
            have k0 := hC.active (turnP_hid (b := ((q.putS k (ls &&& p.active)).putI k (li &&& p.active))) HL rfl rfl kst)
            exact leads_value (v := .int .u16 (p.active : Int)) (by go_simp) ⟨rfl, hC⟩
          refine ⟨ObS.of_val rfl (fun x v => rfl) (fun x V kst hC hD => ?_), ?_⟩
          · have e2 : x 2 = .int .u16 (ls : Int) := hD.1 rfl
            have e4 : x 4 = .int .u16 (p.active : Int) := hD.2.1 rfl
            clear hD
            refine want_yes rfl ?_
            exact leads_enter2 (by go_simp) ((HAnd1.out V).mono fun e w'' ⟨he, hB⟩ => ⟨_, he, rfl, hB ▸ hC⟩)
          refine ⟨ObS.of_val rfl (fun x v => rfl) (fun x V kst hC hD => ?_), ?_⟩
          · clear hD
            refine want_yes rfl ?_
            exact leads_value (v := .pointer (some ⟨bl, 1, none⟩)) (by go_simp) ⟨rfl, hC⟩
          refine ⟨ObS.of_val rfl (fun x v => rfl) (fun x V kst hC hD => ?_), ?_⟩
          · have e6 : x 6 = .pointer (some ⟨bl, 1, none⟩) := hD.1 rfl
            clear hD
            refine want_yes rfl ?_
            have k0 := hC.lab.cell 0
            have k1 := hC.lab.cell 1
            exact leads_value (v := .int .u16 (li : Int)) (by go_simp) ⟨rfl, hC⟩
          refine ⟨ObS.of_val rfl (fun x v => rfl) (fun x V kst hC hD => ?_), ?_⟩
          · clear hD
            refine want_yes rfl ?_
            exact leads_value (v := .pointer (some ⟨bp, 65, none⟩)) (by go_simp) ⟨rfl, hC⟩
          refine ⟨ObS.of_val rfl (fun x v => rfl) (fun x V kst hC hD => ?_), ?_⟩
          · have e8 : x 8 = .pointer (some ⟨bp, 65, none⟩) := hD.1 rfl
            clear hD
            refine want_yes rfl ?_
            have k0 := hC.active (turnP_hid (b := ((q.putS k (ls &&& p.active)).putI k (li &&& p.active))) HL rfl rfl kst)
            exact leads_value (v := .int .u16 (p.active : Int)) (by go_simp) ⟨rfl, hC⟩
          refine ⟨ObS.of_val rfl (fun x v => rfl) (fun x V kst hC hD => ?_), ?_⟩
          · have e7 : x 7 = .int .u16 (li : Int) := hD.1 rfl
            have e9 : x 9 = .int .u16 (p.active : Int) := hD.2.1 rfl
            have e5 : x 5 = .int .u16 ((ls &&& p.active : Nat) : Int) := hD.2.2.1 rfl
            clear hD
            refine want_yes rfl ?_
            exact leads_enter2 (by go_simp) ((HAnd2.out V).mono fun e w'' ⟨he, hB⟩ => ⟨_, he, rfl, hB ▸ hC⟩)
          refine ⟨ObS.of_val rfl (fun x v => rfl) (fun x V kst hC hD => ?_), ?_⟩
          · have e5 : x 5 = .int .u16 ((ls &&& p.active : Nat) : Int) := hD.1 rfl
            have e10 : x 10 = .int .u16 ((li &&& p.active : Nat) : Int) := hD.2.1 rfl
            clear hD
            refine want_yes rfl ?_
            exact leads_value (v := .agg #[.int .u16 ((ls &&& p.active : Nat) : Int), .int .u16 ((li &&& p.active : Nat) : Int)]) (by go_simp) ⟨rfl, hC⟩
          refine ⟨ObS.of_val rfl (fun x v => rfl) (fun x V kst hC hD => ?_), ?_⟩
          · clear hD
            refine want_yes rfl ?_
            exact leads_value (v := .pointer (some ⟨bp, 1, none⟩)) (by go_simp) ⟨rfl, hC⟩
          refine ⟨ObS.of_val rfl (fun x v => rfl) (fun x V kst hC hD => ?_), ?_⟩
          · have e12 : x 12 = .pointer (some ⟨bp, 1, none⟩) := hD.1 rfl
            have e0 : x 0 = .int .i64 (k : Int) := hD.2.1 rfl
            have e1 : x 1 = .pointer (some ⟨bl, 0, none⟩) := hD.2.2.2.1 rfl
            have e2 : x 2 = .int .u16 (ls : Int) := hD.2.2.2.2.1 rfl
            have e3 : x 3 = .pointer (some ⟨bp, 65, none⟩) := hD.2.2.2.2.2.1 rfl
            have e4 : x 4 = .int .u16 (p.active : Int) := hD.2.2.2.2.2.2.1 rfl
            have e5 : x 5 = .int .u16 ((ls &&& p.active : Nat) : Int) := hD.2.2.2.2.2.2.2.1 rfl
            have e6 : x 6 = .pointer (some ⟨bl, 1, none⟩) := hD.2.2.2.2.2.2.2.2.1 rfl
            have e7 : x 7 = .int .u16 (li : Int) := hD.2.2.2.2.2.2.2.2.2.1 rfl
            have e8 : x 8 = .pointer (some ⟨bp, 65, none⟩) := hD.2.2.2.2.2.2.2.2.2.2.1 rfl
            have e9 : x 9 = .int .u16 (p.active : Int) := hD.2.2.2.2.2.2.2.2.2.2.2.1 rfl
            have e10 : x 10 = .int .u16 ((li &&& p.active : Nat) : Int) := hD.2.2.2.2.2.2.2.2.2.2.2.2.1 rfl
            have e11 : x 11 = .agg #[.int .u16 ((ls &&& p.active : Nat) : Int), .int .u16 ((li &&& p.active : Nat) : Int)] := hD.2.2.2.2.2.2.2.2.2.2.2.2.2.1 rfl
            clear hD
            refine want_yes rfl ?_
            exact leads_value (v := .pointer (some ⟨bp, 1 + k * 2, none⟩)) (by go_simp) ⟨rfl, hC⟩
          refine ⟨ObS.of_turn rfl (fun x v => rfl) (fun x V hC hD => ?_), ?_⟩
          · have e13 : x 13 = .pointer (some ⟨bp, 1 + k * 2, none⟩) := hD.1 rfl
            have e11 : x 11 = .agg #[.int .u16 ((ls &&& p.active : Nat) : Int), .int .u16 ((li &&& p.active : Nat) : Int)] := hD.2.1 rfl
            have e10 : x 10 = .int .u16 ((li &&& p.active : Nat) : Int) := hD.2.2.1 rfl
            have e0 : x 0 = .int .i64 (k : Int) := hD.2.2.2.1 rfl
            have e1 : x 1 = .pointer (some ⟨bl, 0, none⟩) := hD.2.2.2.2.1 rfl
            have e2 : x 2 = .int .u16 (ls : Int) := hD.2.2.2.2.2.1 rfl
            have e3 : x 3 = .pointer (some ⟨bp, 65, none⟩) := hD.2.2.2.2.2.2.1 rfl
            have e4 : x 4 = .int .u16 (p.active : Int) := hD.2.2.2.2.2.2.2.1 rfl
            have e5 : x 5 = .int .u16 ((ls &&& p.active : Nat) : Int) := hD.2.2.2.2.2.2.2.2.1 rfl
            have e6 : x 6 = .pointer (some ⟨bl, 1, none⟩) := hD.2.2.2.2.2.2.2.2.2.1 rfl
            have e7 : x 7 = .int .u16 (li : Int) := hD.2.2.2.2.2.2.2.2.2.2.1 rfl
            have e8 : x 8 = .pointer (some ⟨bp, 65, none⟩) := hD.2.2.2.2.2.2.2.2.2.2.2.1 rfl
            have e9 : x 9 = .int .u16 (p.active : Int) := hD.2.2.2.2.2.2.2.2.2.2.2.2.1 rfl
            clear hD
            refine want_yes rfl ?_
            have k0 := hC.mw.row.s hlt
            have f0 := Blk.free hC.mw.row (1 + k * 2)
            have hS := hC.mw.row.putS hlt (ls &&& p.active)
            have k1 := hS.i hlt
            have f1 := Blk.free hS (1 + k * 2 + 1)
            exact leads_skipP (w' := (V.setCell ⟨bp, 1 + k * 2, none⟩ (.int .u16 ((ls &&& p.active : Nat) : Int))).setCell ⟨bp, 1 + k * 2 + 1, none⟩ (.int .u16 ((li &&& p.active : Nat) : Int))) (by go_simp) ⟨rfl, (hC.cell hS).cell (hS.putI hlt (li &&& p.active))⟩
          trivial
        · intro xa V hC hx
          have HV := Lib.hid (show MW w bp ((q.putS k (ls &&& p.active)).putI k (li &&& p.active)) V from hC.mw)
          clear hx hC HLW
          go_upto_region 9 with fail
          refine wp_region_S (fun n V => MW w bp (turnR ((q.putS k (ls &&& p.active)).putI k (li &&& p.active)) (((q.putS k (ls &&& p.active)).putI k (li &&& p.active)).putA k (lessN (la &&& p.live) (withN 0 k))) n) V) 2 [.val (.int .i64 (k : Int)), .val (.int .i64 (k : Int)), .val (.pointer (some ⟨bp, 33, none⟩)), .val (.pointer (some ⟨bp, 33 + k, none⟩)), .turn 0 (.int .u16 (la : Int)), .val (.pointer (some ⟨bp, 0, none⟩)), .val (.int .u16 (p.live : Int)), .val (.int .u16 ((la &&& p.live : Nat) : Int)), .val (.int .i64 (k : Int)), .val (.int .u16 ((withN 0 k : Nat) : Int)), .val (.int .u16 ((lessN (la &&& p.live) (withN 0 k) : Nat) : Int)), .val (.pointer (some ⟨bp, 33, none⟩)), .val (.pointer (some ⟨bp, 33 + k, none⟩)), .turn 1 (undef)]
            (fun x => { tmps := #[.agg (polC p), .pointer (some ⟨bp, 0, none⟩), .pointer (some ⟨bp + 1, 0, none⟩), .int .i64 (k : Int), .pointer (some ⟨bl, 0, none⟩), undef, .int .i64 (k : Int), .bool true, u8, u9, .pointer (some ⟨bp, 0, none⟩), .int .u16 (p.live : Int), .int .i64 (k : Int), .bool true, .bool false, u15, u16, u17, u18, u19, u20, u21, .int .i64 (k : Int), .pointer (some ⟨bp, 1, none⟩), .pointer (some ⟨bp, 1 + k * 2, none⟩), .agg #[.int .u16 (ls : Int), .int .u16 (li : Int)], xa 0, xa 1, xa 2, xa 3, xa 4, xa 5, xa 6, xa 7, xa 8, xa 9, xa 10, xa 11, xa 12, xa 13, x 0, x 1, x 2, x 3, x 4, x 5, x 6, x 7, x 8, x 9, x 10, x 11, x 12, undef, undef, undef, undef, undef, undef, undef, undef, undef, undef, undef, undef, undef, undef, undef, undef, undef, undef, undef, undef, undef, undef, undef, undef], defers := [] }) (fun i => ([u40, u41, u42, u43, u44, u45, u46, u47, u48, u49, u50, u51, u52, undef] : List Value).getD i undef) (by kernel_rfl) rfl rfl (by kernel_rfl) (by kernel_rfl) (by kernel_rfl) (by kernel_rfl) (HV.out.step (Below.refl _ _).drew) ?_ ?_
          · refine ⟨ObS.of_val rfl (fun x v => rfl) (fun x V kst hC hD => ?_), ?_⟩
            · clear hD
              refine want_yes rfl ?_
              exact leads_value (v := .int .i64 (k : Int)) (by go_simp) ⟨rfl, hC⟩
            refine ⟨ObS.of_val rfl (fun x v => rfl) (fun x V kst hC hD => ?_), ?_⟩
            · clear hD
              refine want_yes rfl ?_
              exact leads_value (v := .int .i64 (k : Int)) (by go_simp) ⟨rfl, hC⟩
            refine ⟨ObS.of_val rfl (fun x v => rfl) (fun x V kst hC hD => ?_), ?_⟩
            · clear hD
              refine want_yes rfl ?_
              exact leads_value (v := .pointer (some ⟨bp, 33, none⟩)) (by go_simp) ⟨rfl, hC⟩
            refine ⟨ObS.of_val rfl (fun x v => rfl) (fun x V kst hC hD => ?_), ?_⟩
            · have e2 : x 2 = .pointer (some ⟨bp, 33, none⟩) := hD.1 rfl
              have e1 : x 1 = .int .i64 (k : Int) := hD.2.1 rfl
              clear hD
              refine want_yes rfl ?_
              exact leads_value (v := .pointer (some ⟨bp, 33 + k, none⟩)) (by go_simp) ⟨rfl, hC⟩
            refine ⟨ObS.of_turn rfl (fun x v => rfl) (fun x V hC hD => ?_), ?_⟩
            · have e3 : x 3 = .pointer (some ⟨bp, 33 + k, none⟩) := hD.1 rfl
              clear hD
              refine want_yes rfl ?_
              have k0 := hC.row.acts hlt
              rw [show (turnR ((q.putS k (ls &&& p.active)).putI k (li &&& p.active)) (((q.putS k (ls &&& p.active)).putI k (li &&& p.active)).putA k (lessN (la &&& p.live) (withN 0 k))) 0).acts k = la from HA.out] at k0
              exact leads_value (v := .int .u16 (la : Int)) (by go_simp) ⟨rfl, hC⟩
            refine ⟨ObS.of_val rfl (fun x v => rfl) (fun x V kst hC hD => ?_), ?_⟩
            · clear hD
              refine want_yes rfl ?_
              exact leads_value (v := .pointer (some ⟨bp, 0, none⟩)) (by go_simp) ⟨rfl, hC⟩
            refine ⟨ObS.of_val rfl (fun x v => rfl) (fun x V kst hC hD => ?_), ?_⟩
            · have e5 : x 5 = .pointer (some ⟨bp, 0, none⟩) := hD.1 rfl
              clear hD
              refine want_yes rfl ?_
              have k0 := hC.row.live
              rw [turnR_live (a := ((q.putS k (ls &&& p.active)).putI k (li &&& p.active))) (b := (((q.putS k (ls &&& p.active)).putI k (li &&& p.active)).putA k (lessN (la &&& p.live) (withN 0 k)))) rfl, show (((q.putS k (ls &&& p.active)).putI k (li &&& p.active))).live = p.live from HL.out.1] at k0
              exact leads_value (v := .int .u16 (p.live : Int)) (by go_simp) ⟨rfl, hC⟩
            refine ⟨ObS.of_val rfl (fun x v => rfl) (fun x V kst hC hD => ?_), ?_⟩
            · have e4 : x 4 = .int .u16 (la : Int) := hD.1 rfl
              have e6 : x 6 = .int .u16 (p.live : Int) := hD.2.1 rfl
              clear hD
              refine want_yes rfl ?_
              exact leads_enter2 (by go_simp) ((HAnd3.out V).mono fun e w'' ⟨he, hB⟩ => ⟨_, he, rfl, hB ▸ hC⟩)
            refine ⟨ObS.of_val rfl (fun x v => rfl) (fun x V kst hC hD => ?_), ?_⟩
            · clear hD
              refine want_yes rfl ?_
              exact leads_value (v := .int .i64 (k : Int)) (by go_simp) ⟨rfl, hC⟩
            refine ⟨ObS.of_val rfl (fun x v => rfl) (fun x V kst hC hD => ?_), ?_⟩
            · have e8 : x 8 = .int .i64 (k : Int) := hD.1 rfl
              have e7 : x 7 = .int .u16 ((la &&& p.live : Nat) : Int) := hD.2.1 rfl
              clear hD
              refine want_yes rfl ?_
              exact leads_enter2 (by go_simp) ((HWi.out V).mono fun e w'' ⟨he, hB⟩ => ⟨_, he, rfl, hB ▸ hC⟩)
            refine ⟨ObS.of_val rfl (fun x v => rfl) (fun x V kst hC hD => ?_), ?_⟩
            · have e7 : x 7 = .int .u16 ((la &&& p.live : Nat) : Int) := hD.1 rfl
              have e9 : x 9 = .int .u16 ((withN 0 k : Nat) : Int) := hD.2.1 rfl
              clear hD
              refine want_yes rfl ?_
              exact leads_enter2 (by go_simp) ((HLe.out V).mono fun e w'' ⟨he, hB⟩ => ⟨_, he, rfl, hB ▸ hC⟩)
            refine ⟨ObS.of_val rfl (fun x v => rfl) (fun x V kst hC hD => ?_), ?_⟩
            · clear hD
              refine want_yes rfl ?_
              exact leads_value (v := .pointer (some ⟨bp, 33, none⟩)) (by go_simp) ⟨rfl, hC⟩
            refine ⟨ObS.of_val rfl (fun x v => rfl) (fun x V kst hC hD => ?_), ?_⟩
            · have e11 : x 11 = .pointer (some ⟨bp, 33, none⟩) := hD.1 rfl
              have e0 : x 0 = .int .i64 (k : Int) := hD.2.1 rfl
              have e1 : x 1 = .int .i64 (k : Int) := hD.2.2.2.1 rfl
              have e2 : x 2 = .pointer (some ⟨bp, 33, none⟩) := hD.2.2.2.2.1 rfl
              have e3 : x 3 = .pointer (some ⟨bp, 33 + k, none⟩) := hD.2.2.2.2.2.1 rfl
              have e4 : x 4 = .int .u16 (la : Int) := hD.2.2.2.2.2.2.1 rfl
              have e5 : x 5 = .pointer (some ⟨bp, 0, none⟩) := hD.2.2.2.2.2.2.2.1 rfl
              have e6 : x 6 = .int .u16 (p.live : Int) := hD.2.2.2.2.2.2.2.2.1 rfl
              have e7 : x 7 = .int .u16 ((la &&& p.live : Nat) : Int) := hD.2.2.2.2.2.2.2.2.2.1 rfl
              have e8 : x 8 = .int .i64 (k : Int) := hD.2.2.2.2.2.2.2.2.2.2.1 rfl
              have e9 : x 9 = .int .u16 ((withN 0 k : Nat) : Int) := hD.2.2.2.2.2.2.2.2.2.2.2.1 rfl
              have e10 : x 10 = .int .u16 ((lessN (la &&& p.live) (withN 0 k) : Nat) : Int) := hD.2.2.2.2.2.2.2.2.2.2.2.2.1 rfl
              clear hD
              refine want_yes rfl ?_
              exact leads_value (v := .pointer (some ⟨bp, 33 + k, none⟩)) (by go_simp) ⟨rfl, hC⟩
            refine ⟨ObS.of_turn rfl (fun x v => rfl) (fun x V hC hD => ?_), ?_⟩
            · have e12 : x 12 = .pointer (some ⟨bp, 33 + k, none⟩) := hD.1 rfl
              have e10 : x 10 = .int .u16 ((lessN (la &&& p.live) (withN 0 k) : Nat) : Int) := hD.2.1 rfl
              have e0 : x 0 = .int .i64 (k : Int) := hD.2.2.2.1 rfl
              have e1 : x 1 = .int .i64 (k : Int) := hD.2.2.2.2.1 rfl
              have e2 : x 2 = .pointer (some ⟨bp, 33, none⟩) := hD.2.2.2.2.2.1 rfl
              have e3 : x 3 = .pointer (some ⟨bp, 33 + k, none⟩) := hD.2.2.2.2.2.2.1 rfl
              have e4 : x 4 = .int .u16 (la : Int) := hD.2.2.2.2.2.2.2.1 rfl
              have e5 : x 5 = .pointer (some ⟨bp, 0, none⟩) := hD.2.2.2.2.2.2.2.2.1 rfl
              have e6 : x 6 = .int .u16 (p.live : Int) := hD.2.2.2.2.2.2.2.2.2.1 rfl
              have e7 : x 7 = .int .u16 ((la &&& p.live : Nat) : Int) := hD.2.2.2.2.2.2.2.2.2.2.1 rfl
              have e8 : x 8 = .int .i64 (k : Int) := hD.2.2.2.2.2.2.2.2.2.2.2.1 rfl
              have e9 : x 9 = .int .u16 ((withN 0 k : Nat) : Int) := hD.2.2.2.2.2.2.2.2.2.2.2.2.1 rfl
              clear hD
              refine want_yes rfl ?_
              have k0 := hC.row.acts hlt
              have f0 := Blk.free hC.row (33 + k)
              exact leads_skipP (w' := V.setCell ⟨bp, 33 + k, none⟩ (.int .u16 ((lessN (la &&& p.live) (withN 0 k) : Nat) : Int))) (by go_simp) ⟨rfl, hC.cell (hC.row.putA hlt _)⟩
            trivial
          · intro xb V' hC hx
            have HV2 := Lib.hid (show MW w bp (((q.putS k (ls &&& p.active)).putI k (li &&& p.active)).putA k (lessN (la &&& p.live) (withN 0 k))) V' from hC)
            clear hx hC HV
            rw [HE.out] at HV2
            go_wp2_with fail
            go_roundw
            case rel => first | exact ⟨k + 1, by omega, by go_num, HV2.out⟩ | ((repeat apply Exists.intro); exact ⟨⟨k + 1, by omega, by go_num, HV2.out⟩, rfl⟩)
            case measure => simp [intOf]; omega
    · obtain rfl : k = 16 := by omega
      rw [← mendT_zero p] at HG
      have HT0 := Lib.hid HG.out
      clear HG
      go_wp2_with fail
      generalize wr = w2 at *
      go_loopw [5] (fun i wr => ∃ t : Nat, t ≤ 16 ∧ i = .int .i64 (t : Int) ∧ MW w bp (mendT p t) wr) (fun i _ => 16 - (intOf i).toNat)
      case atStart => exact ⟨0, by omega, rfl, HT0.out⟩
      case round =>
        obtain ⟨t, ht, rfl, hg⟩ := hrel
        have HG := Lib.hid hg
        clear hg HT0
        by_cases htt : t < 16
        · have dt : decide ((t : Int) < 16) = true := by simp; omega
          have ht16 : (t : Int) < 16 := by omega
          have HPb := Lib.hid (HOk.out.owner t htt)
          have HPo := Lib.hid (show (mendT p t).owner t = p.owner t from uptoN_at _ _ _)
          have HH1 := Lib.hid (fun V => HHa.out V (p.owner t))
          have HH2 := Lib.hid (fun V => gHas_any p.active t V HAc.out)
          cases h1 : p.live.testBit (p.owner t) with
          | false =>
            rw [h1] at HH1
            have HE := Lib.hid (mendT_gone p t (by rw [h1]; rfl))
            clear h1
            generalize p.owner t = po at HH1 HPo HPb
            go_upto_region 13 with fail
            refine wp_region_S (fun _ V => MW w bp (mendT p t) V) 0 [.val (.pointer (some ⟨bp, 0, none⟩)), .val (.int .u16 (p.live : Int)), .val (.int .i64 (t : Int)), .val (.pointer (some ⟨bp, 49, none⟩)), .val (.pointer (some ⟨bp, 49 + t, none⟩)), .val (.int .u8 (po : Int)), .val (.int .i64 (po : Int)), .val (.bool false), .val (.bool true), .val (.bool true), .val undef, .val undef, .val undef, .val undef, .val undef, .val (.bool true)]
              (fun x => { tmps := #[.agg (polC p), .pointer (some ⟨bp, 0, none⟩), .pointer (some ⟨bp + 1, 0, none⟩), .int .i64 16, u4, .int .i64 (t : Int), .int .i64 16, .bool false, u8, u9, u10, u11, u12, u13, u14, u15, u16, u17, u18, u19, u20, u21, u22, u23, u24, u25, u26, u27, u28, u29, u30, u31, u32, u33, u34, u35, u36, u37, u38, u39, u40, u41, u42, u43, u44, u45, u46, u47, u48, u49, u50, u51, u52, .int .i64 (t : Int), .bool true, u55, u56, x 0, x 1, x 2, x 3, x 4, x 5, x 6, x 7, x 8, x 9, x 10, x 11, x 12, x 13, x 14, x 15, u73, u74, u75, undef], defers := [] }) (fun i => ([u57, u58, u59, u60, u61, u62, u63, u64, u65, u66, u67, u68, u69, u70, u71, u72] : List Value).getD i undef) (by kernel_rfl) rfl rfl (by kernel_rfl) (by kernel_rfl) (by kernel_rfl) (by kernel_rfl) (HG.out.step (Below.refl _ _).drew) ?_ ?_
            · refine ⟨ObS.of_val rfl (fun x v => rfl) (fun x V kst hC hD => ?_), ?_⟩
              · clear hD
                refine want_yes rfl ?_
                exact leads_value (v := .pointer (some ⟨bp, 0, none⟩)) (by go_simp) ⟨rfl, hC⟩
              refine ⟨ObS.of_val rfl (fun x v => rfl) (fun x V kst hC hD => ?_), ?_⟩
              · have e0 : x 0 = .pointer (some ⟨bp, 0, none⟩) := hD.1 rfl
                clear hD
                refine want_yes rfl ?_
                have k0 : V.cell? ⟨bp, 0, none⟩ = some (.int .u16 (p.live : Int)) := hC.row.live
                exact leads_value (v := .int .u16 (p.live : Int)) (by go_simp) ⟨rfl, hC⟩
              refine ⟨ObS.of_val rfl (fun x v => rfl) (fun x V kst hC hD => ?_), ?_⟩
              · clear hD
                refine want_yes rfl ?_
                exact leads_value (v := .int .i64 (t : Int)) (by go_simp) ⟨rfl, hC⟩
              refine ⟨ObS.of_val rfl (fun x v => rfl) (fun x V kst hC hD => ?_), ?_⟩
              · clear hD
                refine want_yes rfl ?_
                exact leads_value (v := .pointer (some ⟨bp, 49, none⟩)) (by go_simp) ⟨rfl, hC⟩
              refine ⟨ObS.of_val rfl (fun x v => rfl) (fun x V kst hC hD => ?_), ?_⟩
              · have e3 : x 3 = .pointer (some ⟨bp, 49, none⟩) := hD.1 rfl
                have e2 : x 2 = .int .i64 (t : Int) := hD.2.1 rfl
                clear hD
                refine want_yes rfl ?_
                exact leads_value (v := .pointer (some ⟨bp, 49 + t, none⟩)) (by go_simp) ⟨rfl, hC⟩
              refine ⟨ObS.of_val rfl (fun x v => rfl) (fun x V kst hC hD => ?_), ?_⟩
              · have e4 : x 4 = .pointer (some ⟨bp, 49 + t, none⟩) := hD.1 rfl
                clear hD
                refine want_yes rfl ?_
                have k0 := hC.row.owner htt
                rw [HPo.out] at k0
                exact leads_value (v := .int .u8 (po : Int)) (by go_simp) ⟨rfl, hC⟩
              refine ⟨ObS.of_val rfl (fun x v => rfl) (fun x V kst hC hD => ?_), ?_⟩
              · have e5 : x 5 = .int .u8 (po : Int) := hD.1 rfl
                clear hD
                refine want_yes rfl ?_
                have hw : IntKind.i64.wrap (po : Int) = (po : Int) := IntWalk.i64_in _ (by have := HPb.out; omega)
                exact leads_value (v := .int .i64 (po : Int)) (by go_simp) ⟨rfl, hC⟩
              refine ⟨ObS.of_val rfl (fun x v => rfl) (fun x V kst hC hD => ?_), ?_⟩
              · have e1 : x 1 = .int .u16 (p.live : Int) := hD.1 rfl
                have e6 : x 6 = .int .i64 (po : Int) := hD.2.1 rfl
                clear hD
                refine want_yes rfl ?_
                exact leads_enter2 (by go_simp) ((HH1.out V).mono fun e w'' ⟨he, hB⟩ => ⟨_, he, rfl, hB ▸ hC⟩)
              refine ⟨ObS.of_val rfl (fun x v => rfl) (fun x V kst hC hD => ?_), ?_⟩
              · have e7 : x 7 = .bool false := hD.1 rfl
                clear hD
                refine want_yes rfl ?_
                exact leads_value (v := .bool true) (by go_simp) ⟨rfl, hC⟩
              refine ⟨ObS.of_val rfl (fun x v => rfl) (fun x V kst hC hD => ?_), ?_⟩
              · have e8 : x 8 = .bool true := hD.1 rfl
                have e7 : x 7 = .bool false := hD.2.1 rfl
                clear hD
                refine want_yes rfl ?_
                exact leads_value (v := .bool true) (by go_simp) ⟨rfl, hC⟩
              refine ⟨ObS.of_val rfl (fun x v => rfl) (fun x V kst hC hD => ?_), ?_⟩
              · have e9 : x 9 = .bool true := hD.1 rfl
                clear hD
                exact want_no (by simp [Region.wanted, yielded, e9]) rfl
              refine ⟨ObS.of_val rfl (fun x v => rfl) (fun x V kst hC hD => ?_), ?_⟩
              · have e10 : x 10 = undef := hD.1 rfl
                have e9 : x 9 = .bool true := hD.2.1 rfl
                clear hD
                exact want_no (by simp [Region.wanted, yielded, e9]) rfl
              refine ⟨ObS.of_val rfl (fun x v => rfl) (fun x V kst hC hD => ?_), ?_⟩
              · have e9 : x 9 = .bool true := hD.1 rfl
                clear hD
                exact want_no (by simp [Region.wanted, yielded, e9]) rfl
              refine ⟨ObS.of_val rfl (fun x v => rfl) (fun x V kst hC hD => ?_), ?_⟩
              · have e11 : x 11 = undef := hD.1 rfl
                have e12 : x 12 = undef := hD.2.1 rfl
                have e9 : x 9 = .bool true := hD.2.2.1 rfl
                clear hD
                exact want_no (by simp [Region.wanted, yielded, e9]) rfl
              refine ⟨ObS.of_val rfl (fun x v => rfl) (fun x V kst hC hD => ?_), ?_⟩
              · have e13 : x 13 = undef := hD.1 rfl
                have e9 : x 9 = .bool true := hD.2.1 rfl
                clear hD
                exact want_no (by simp [Region.wanted, yielded, e9]) rfl
              refine ⟨ObS.of_val rfl (fun x v => rfl) (fun x V kst hC hD => ?_), ?_⟩
              · have e9 : x 9 = .bool true := hD.1 rfl
                have e14 : x 14 = undef := hD.2.1 rfl
                clear hD
                refine want_yes rfl ?_
                exact leads_value (v := .bool true) (by go_simp) ⟨rfl, hC⟩
              trivial
            · intro xa V hC hx
              have e15 : xa 15 = .bool true := hx 15 (by simp)
              have HV := Lib.hid (show MW w bp (mendT p t) V from hC)
              clear hx hC HG
              rw [e15]
              clear e15
              have k0 := HV.out.row.owner htt
              have f0 := Blk.free HV.out.row (49 + t)
              have hS : PRow (V.setCell ⟨bp, 49 + t, none⟩ (.int .u8 16)) bp ((mendT p t).putO t 16) := HV.out.row.putO htt 16
              have h2 := HV.out.cell hS
              rw [HE.out] at h2
              have HV2 := Lib.hid h2
              clear hS h2
              go_wp2_with fail
              go_roundw
              case rel => first | exact ⟨t + 1, by omega, by go_num, HV2.out⟩ | ((repeat apply Exists.intro); exact ⟨⟨t + 1, by omega, by go_num, HV2.out⟩, rfl⟩)
              case measure => simp [intOf]; omega
          | true =>
            rw [h1] at HH1
            cases h2 : p.active.testBit t with
            | false =>
              rw [h2] at HH2
              have HE := Lib.hid (mendT_gone p t (by rw [h1, h2]; rfl))
              clear h1 h2
              generalize p.owner t = po at HH1 HPo HPb
              go_upto_region 13 with fail
              refine wp_region_S (fun _ V => MW w bp (mendT p t) V) 0 [.val (.pointer (some ⟨bp, 0, none⟩)), .val (.int .u16 (p.live : Int)), .val (.int .i64 (t : Int)), .val (.pointer (some ⟨bp, 49, none⟩)), .val (.pointer (some ⟨bp, 49 + t, none⟩)), .val (.int .u8 (po : Int)), .val (.int .i64 (po : Int)), .val (.bool true), .val (.bool false), .val (.bool false), .val (.pointer (some ⟨bp, 65, none⟩)), .val (.int .u16 (p.active : Int)), .val (.int .i64 (t : Int)), .val (.bool false), .val (.bool true), .val (.bool true)]
                (fun x => { tmps := #[.agg (polC p), .pointer (some ⟨bp, 0, none⟩), .pointer (some ⟨bp + 1, 0, none⟩), .int .i64 16, u4, .int .i64 (t : Int), .int .i64 16, .bool false, u8, u9, u10, u11, u12, u13, u14, u15, u16, u17, u18, u19, u20, u21, u22, u23, u24, u25, u26, u27, u28, u29, u30, u31, u32, u33, u34, u35, u36, u37, u38, u39, u40, u41, u42, u43, u44, u45, u46, u47, u48, u49, u50, u51, u52, .int .i64 (t : Int), .bool true, u55, u56, x 0, x 1, x 2, x 3, x 4, x 5, x 6, x 7, x 8, x 9, x 10, x 11, x 12, x 13, x 14, x 15, u73, u74, u75, undef], defers := [] }) (fun i => ([u57, u58, u59, u60, u61, u62, u63, u64, u65, u66, u67, u68, u69, u70, u71, u72] : List Value).getD i undef) (by kernel_rfl) rfl rfl (by kernel_rfl) (by kernel_rfl) (by kernel_rfl) (by kernel_rfl) (HG.out.step (Below.refl _ _).drew) ?_ ?_
              · refine ⟨ObS.of_val rfl (fun x v => rfl) (fun x V kst hC hD => ?_), ?_⟩
                · clear hD
                  refine want_yes rfl ?_
                  exact leads_value (v := .pointer (some ⟨bp, 0, none⟩)) (by go_simp) ⟨rfl, hC⟩
                refine ⟨ObS.of_val rfl (fun x v => rfl) (fun x V kst hC hD => ?_), ?_⟩
                · have e0 : x 0 = .pointer (some ⟨bp, 0, none⟩) := hD.1 rfl
                  clear hD
                  refine want_yes rfl ?_
                  have k0 : V.cell? ⟨bp, 0, none⟩ = some (.int .u16 (p.live : Int)) := hC.row.live
                  exact leads_value (v := .int .u16 (p.live : Int)) (by go_simp) ⟨rfl, hC⟩
                refine ⟨ObS.of_val rfl (fun x v => rfl) (fun x V kst hC hD => ?_), ?_⟩
                · clear hD
                  refine want_yes rfl ?_
                  exact leads_value (v := .int .i64 (t : Int)) (by go_simp) ⟨rfl, hC⟩
                refine ⟨ObS.of_val rfl (fun x v => rfl) (fun x V kst hC hD => ?_), ?_⟩
                · clear hD
                  refine want_yes rfl ?_
                  exact leads_value (v := .pointer (some ⟨bp, 49, none⟩)) (by go_simp) ⟨rfl, hC⟩
                refine ⟨ObS.of_val rfl (fun x v => rfl) (fun x V kst hC hD => ?_), ?_⟩
                · have e3 : x 3 = .pointer (some ⟨bp, 49, none⟩) := hD.1 rfl
                  have e2 : x 2 = .int .i64 (t : Int) := hD.2.1 rfl
                  clear hD
                  refine want_yes rfl ?_
                  exact leads_value (v := .pointer (some ⟨bp, 49 + t, none⟩)) (by go_simp) ⟨rfl, hC⟩
                refine ⟨ObS.of_val rfl (fun x v => rfl) (fun x V kst hC hD => ?_), ?_⟩
                · have e4 : x 4 = .pointer (some ⟨bp, 49 + t, none⟩) := hD.1 rfl
                  clear hD
                  refine want_yes rfl ?_
                  have k0 := hC.row.owner htt
                  rw [HPo.out] at k0
                  exact leads_value (v := .int .u8 (po : Int)) (by go_simp) ⟨rfl, hC⟩
                refine ⟨ObS.of_val rfl (fun x v => rfl) (fun x V kst hC hD => ?_), ?_⟩
                · have e5 : x 5 = .int .u8 (po : Int) := hD.1 rfl
                  clear hD
                  refine want_yes rfl ?_
                  have hw : IntKind.i64.wrap (po : Int) = (po : Int) := IntWalk.i64_in _ (by have := HPb.out; omega)
                  exact leads_value (v := .int .i64 (po : Int)) (by go_simp) ⟨rfl, hC⟩
                refine ⟨ObS.of_val rfl (fun x v => rfl) (fun x V kst hC hD => ?_), ?_⟩
                · have e1 : x 1 = .int .u16 (p.live : Int) := hD.1 rfl
                  have e6 : x 6 = .int .i64 (po : Int) := hD.2.1 rfl
                  clear hD
                  refine want_yes rfl ?_
                  exact leads_enter2 (by go_simp) ((HH1.out V).mono fun e w'' ⟨he, hB⟩ => ⟨_, he, rfl, hB ▸ hC⟩)
                refine ⟨ObS.of_val rfl (fun x v => rfl) (fun x V kst hC hD => ?_), ?_⟩
                · have e7 : x 7 = .bool true := hD.1 rfl
                  clear hD
                  refine want_yes rfl ?_
                  exact leads_value (v := .bool false) (by go_simp) ⟨rfl, hC⟩
                refine ⟨ObS.of_val rfl (fun x v => rfl) (fun x V kst hC hD => ?_), ?_⟩
                · have e8 : x 8 = .bool false := hD.1 rfl
                  have e7 : x 7 = .bool true := hD.2.1 rfl
                  clear hD
                  refine want_yes rfl ?_
                  exact leads_value (v := .bool false) (by go_simp) ⟨rfl, hC⟩
                refine ⟨ObS.of_val rfl (fun x v => rfl) (fun x V kst hC hD => ?_), ?_⟩
                · have e9 : x 9 = .bool false := hD.1 rfl
                  clear hD
                  refine want_yes (by simp [Region.wanted, yielded, e9]) ?_
                  exact leads_value (v := .pointer (some ⟨bp, 65, none⟩)) (by go_simp) ⟨rfl, hC⟩
                refine ⟨ObS.of_val rfl (fun x v => rfl) (fun x V kst hC hD => ?_), ?_⟩
                · have e10 : x 10 = .pointer (some ⟨bp, 65, none⟩) := hD.1 rfl
                  have e9 : x 9 = .bool false := hD.2.1 rfl
                  clear hD
                  refine want_yes (by simp [Region.wanted, yielded, e9]) ?_
                  have k0 : V.cell? ⟨bp, 65, none⟩ = some (.int .u16 (p.active : Int)) := hC.row.active
                  exact leads_value (v := .int .u16 (p.active : Int)) (by go_simp) ⟨rfl, hC⟩
                refine ⟨ObS.of_val rfl (fun x v => rfl) (fun x V kst hC hD => ?_), ?_⟩
                · have e9 : x 9 = .bool false := hD.1 rfl
                  clear hD
                  refine want_yes (by simp [Region.wanted, yielded, e9]) ?_
                  exact leads_value (v := .int .i64 (t : Int)) (by go_simp) ⟨rfl, hC⟩
                refine ⟨ObS.of_val rfl (fun x v => rfl) (fun x V kst hC hD => ?_), ?_⟩
                · have e11 : x 11 = .int .u16 (p.active : Int) := hD.1 rfl
                  have e12 : x 12 = .int .i64 (t : Int) := hD.2.1 rfl
                  have e9 : x 9 = .bool false := hD.2.2.1 rfl
                  clear hD
                  refine want_yes (by simp [Region.wanted, yielded, e9]) ?_
                  exact leads_enter2 (by go_simp) ((HH2.out V).mono fun e w'' ⟨he, hB⟩ => ⟨_, he, rfl, hB ▸ hC⟩)
                refine ⟨ObS.of_val rfl (fun x v => rfl) (fun x V kst hC hD => ?_), ?_⟩
                · have e13 : x 13 = .bool false := hD.1 rfl
                  have e9 : x 9 = .bool false := hD.2.1 rfl
                  clear hD
                  refine want_yes (by simp [Region.wanted, yielded, e9]) ?_
                  exact leads_value (v := .bool true) (by go_simp) ⟨rfl, hC⟩
                refine ⟨ObS.of_val rfl (fun x v => rfl) (fun x V kst hC hD => ?_), ?_⟩
                · have e9 : x 9 = .bool false := hD.1 rfl
                  have e14 : x 14 = .bool true := hD.2.1 rfl
                  clear hD
                  refine want_yes rfl ?_
                  exact leads_value (v := .bool true) (by go_simp) ⟨rfl, hC⟩
                trivial
              · intro xa V hC hx
                have e15 : xa 15 = .bool true := hx 15 (by simp)
                have HV := Lib.hid (show MW w bp (mendT p t) V from hC)
                clear hx hC HG
                rw [e15]
                clear e15
                have k0 := HV.out.row.owner htt
                have f0 := Blk.free HV.out.row (49 + t)
                have hS : PRow (V.setCell ⟨bp, 49 + t, none⟩ (.int .u8 16)) bp ((mendT p t).putO t 16) := HV.out.row.putO htt 16
                have h2 := HV.out.cell hS
                rw [HE.out] at h2
                have HV2 := Lib.hid h2
                clear hS h2
                go_wp2_with fail
                go_roundw
                case rel => first | exact ⟨t + 1, by omega, by go_num, HV2.out⟩ | ((repeat apply Exists.intro); exact ⟨⟨t + 1, by omega, by go_num, HV2.out⟩, rfl⟩)
                case measure => simp [intOf]; omega
            | true =>
              rw [h2] at HH2
              have HE := Lib.hid (mendT_keep p t (by rw [h1, h2]; rfl))
              clear h1 h2
              generalize p.owner t = po at HH1 HPo HPb
              go_upto_region 13 with fail
              refine wp_region_S (fun _ V => MW w bp (mendT p t) V) 0 [.val (.pointer (some ⟨bp, 0, none⟩)), .val (.int .u16 (p.live : Int)), .val (.int .i64 (t : Int)), .val (.pointer (some ⟨bp, 49, none⟩)), .val (.pointer (some ⟨bp, 49 + t, none⟩)), .val (.int .u8 (po : Int)), .val (.int .i64 (po : Int)), .val (.bool true), .val (.bool false), .val (.bool false), .val (.pointer (some ⟨bp, 65, none⟩)), .val (.int .u16 (p.active : Int)), .val (.int .i64 (t : Int)), .val (.bool true), .val (.bool false), .val (.bool false)]
                (fun x => { tmps := #[.agg (polC p), .pointer (some ⟨bp, 0, none⟩), .pointer (some ⟨bp + 1, 0, none⟩), .int .i64 16, u4, .int .i64 (t : Int), .int .i64 16, .bool false, u8, u9, u10, u11, u12, u13, u14, u15, u16, u17, u18, u19, u20, u21, u22, u23, u24, u25, u26, u27, u28, u29, u30, u31, u32, u33, u34, u35, u36, u37, u38, u39, u40, u41, u42, u43, u44, u45, u46, u47, u48, u49, u50, u51, u52, .int .i64 (t : Int), .bool true, u55, u56, x 0, x 1, x 2, x 3, x 4, x 5, x 6, x 7, x 8, x 9, x 10, x 11, x 12, x 13, x 14, x 15, u73, u74, u75, undef], defers := [] }) (fun i => ([u57, u58, u59, u60, u61, u62, u63, u64, u65, u66, u67, u68, u69, u70, u71, u72] : List Value).getD i undef) (by kernel_rfl) rfl rfl (by kernel_rfl) (by kernel_rfl) (by kernel_rfl) (by kernel_rfl) (HG.out.step (Below.refl _ _).drew) ?_ ?_
              · refine ⟨ObS.of_val rfl (fun x v => rfl) (fun x V kst hC hD => ?_), ?_⟩
                · clear hD
                  refine want_yes rfl ?_
                  exact leads_value (v := .pointer (some ⟨bp, 0, none⟩)) (by go_simp) ⟨rfl, hC⟩
                refine ⟨ObS.of_val rfl (fun x v => rfl) (fun x V kst hC hD => ?_), ?_⟩
                · have e0 : x 0 = .pointer (some ⟨bp, 0, none⟩) := hD.1 rfl
                  clear hD
                  refine want_yes rfl ?_
                  have k0 : V.cell? ⟨bp, 0, none⟩ = some (.int .u16 (p.live : Int)) := hC.row.live
                  exact leads_value (v := .int .u16 (p.live : Int)) (by go_simp) ⟨rfl, hC⟩
                refine ⟨ObS.of_val rfl (fun x v => rfl) (fun x V kst hC hD => ?_), ?_⟩
                · clear hD
                  refine want_yes rfl ?_
                  exact leads_value (v := .int .i64 (t : Int)) (by go_simp) ⟨rfl, hC⟩
                refine ⟨ObS.of_val rfl (fun x v => rfl) (fun x V kst hC hD => ?_), ?_⟩
                · clear hD
                  refine want_yes rfl ?_
                  exact leads_value (v := .pointer (some ⟨bp, 49, none⟩)) (by go_simp) ⟨rfl, hC⟩
                refine ⟨ObS.of_val rfl (fun x v => rfl) (fun x V kst hC hD => ?_), ?_⟩
                · have e3 : x 3 = .pointer (some ⟨bp, 49, none⟩) := hD.1 rfl
                  have e2 : x 2 = .int .i64 (t : Int) := hD.2.1 rfl
                  clear hD
                  refine want_yes rfl ?_
                  exact leads_value (v := .pointer (some ⟨bp, 49 + t, none⟩)) (by go_simp) ⟨rfl, hC⟩
                refine ⟨ObS.of_val rfl (fun x v => rfl) (fun x V kst hC hD => ?_), ?_⟩
                · have e4 : x 4 = .pointer (some ⟨bp, 49 + t, none⟩) := hD.1 rfl
                  clear hD
                  refine want_yes rfl ?_
                  have k0 := hC.row.owner htt
                  rw [HPo.out] at k0
                  exact leads_value (v := .int .u8 (po : Int)) (by go_simp) ⟨rfl, hC⟩
                refine ⟨ObS.of_val rfl (fun x v => rfl) (fun x V kst hC hD => ?_), ?_⟩
                · have e5 : x 5 = .int .u8 (po : Int) := hD.1 rfl
                  clear hD
                  refine want_yes rfl ?_
                  have hw : IntKind.i64.wrap (po : Int) = (po : Int) := IntWalk.i64_in _ (by have := HPb.out; omega)
                  exact leads_value (v := .int .i64 (po : Int)) (by go_simp) ⟨rfl, hC⟩
                refine ⟨ObS.of_val rfl (fun x v => rfl) (fun x V kst hC hD => ?_), ?_⟩
                · have e1 : x 1 = .int .u16 (p.live : Int) := hD.1 rfl
                  have e6 : x 6 = .int .i64 (po : Int) := hD.2.1 rfl
                  clear hD
                  refine want_yes rfl ?_
                  exact leads_enter2 (by go_simp) ((HH1.out V).mono fun e w'' ⟨he, hB⟩ => ⟨_, he, rfl, hB ▸ hC⟩)
                refine ⟨ObS.of_val rfl (fun x v => rfl) (fun x V kst hC hD => ?_), ?_⟩
                · have e7 : x 7 = .bool true := hD.1 rfl
                  clear hD
                  refine want_yes rfl ?_
                  exact leads_value (v := .bool false) (by go_simp) ⟨rfl, hC⟩
                refine ⟨ObS.of_val rfl (fun x v => rfl) (fun x V kst hC hD => ?_), ?_⟩
                · have e8 : x 8 = .bool false := hD.1 rfl
                  have e7 : x 7 = .bool true := hD.2.1 rfl
                  clear hD
                  refine want_yes rfl ?_
                  exact leads_value (v := .bool false) (by go_simp) ⟨rfl, hC⟩
                refine ⟨ObS.of_val rfl (fun x v => rfl) (fun x V kst hC hD => ?_), ?_⟩
                · have e9 : x 9 = .bool false := hD.1 rfl
                  clear hD
                  refine want_yes (by simp [Region.wanted, yielded, e9]) ?_
                  exact leads_value (v := .pointer (some ⟨bp, 65, none⟩)) (by go_simp) ⟨rfl, hC⟩
                refine ⟨ObS.of_val rfl (fun x v => rfl) (fun x V kst hC hD => ?_), ?_⟩
                · have e10 : x 10 = .pointer (some ⟨bp, 65, none⟩) := hD.1 rfl
                  have e9 : x 9 = .bool false := hD.2.1 rfl
                  clear hD
                  refine want_yes (by simp [Region.wanted, yielded, e9]) ?_
                  have k0 : V.cell? ⟨bp, 65, none⟩ = some (.int .u16 (p.active : Int)) := hC.row.active
                  exact leads_value (v := .int .u16 (p.active : Int)) (by go_simp) ⟨rfl, hC⟩
                refine ⟨ObS.of_val rfl (fun x v => rfl) (fun x V kst hC hD => ?_), ?_⟩
                · have e9 : x 9 = .bool false := hD.1 rfl
                  clear hD
                  refine want_yes (by simp [Region.wanted, yielded, e9]) ?_
                  exact leads_value (v := .int .i64 (t : Int)) (by go_simp) ⟨rfl, hC⟩
                refine ⟨ObS.of_val rfl (fun x v => rfl) (fun x V kst hC hD => ?_), ?_⟩
                · have e11 : x 11 = .int .u16 (p.active : Int) := hD.1 rfl
                  have e12 : x 12 = .int .i64 (t : Int) := hD.2.1 rfl
                  have e9 : x 9 = .bool false := hD.2.2.1 rfl
                  clear hD
                  refine want_yes (by simp [Region.wanted, yielded, e9]) ?_
                  exact leads_enter2 (by go_simp) ((HH2.out V).mono fun e w'' ⟨he, hB⟩ => ⟨_, he, rfl, hB ▸ hC⟩)
                refine ⟨ObS.of_val rfl (fun x v => rfl) (fun x V kst hC hD => ?_), ?_⟩
                · have e13 : x 13 = .bool true := hD.1 rfl
                  have e9 : x 9 = .bool false := hD.2.1 rfl
                  clear hD
                  refine want_yes (by simp [Region.wanted, yielded, e9]) ?_
                  exact leads_value (v := .bool false) (by go_simp) ⟨rfl, hC⟩
                refine ⟨ObS.of_val rfl (fun x v => rfl) (fun x V kst hC hD => ?_), ?_⟩
                · have e9 : x 9 = .bool false := hD.1 rfl
                  have e14 : x 14 = .bool false := hD.2.1 rfl
                  clear hD
                  refine want_yes rfl ?_
                  exact leads_value (v := .bool false) (by go_simp) ⟨rfl, hC⟩
                trivial
              · intro xa V hC hx
                have e15 : xa 15 = .bool false := hx 15 (by simp)
                have HV := Lib.hid (show MW w bp (mendT p t) V from hC)
                clear hx hC HG
                rw [e15]
                clear e15
                rw [HE.out] at HV
                go_wp2_with fail
                go_roundw
                case rel => first | exact ⟨t + 1, by omega, by go_num, HV.out⟩ | ((repeat apply Exists.intro); exact ⟨⟨t + 1, by omega, by go_num, HV.out⟩, rfl⟩)
                case measure => simp [intOf]; omega
        · obtain rfl : t = 16 := by omega
          go_upto_region 15 with fail
          have HM := Lib.hid (show MW w bp (mendN p) wr from HG.out)
          clear HG
          have hR := HM.out.row
          have hA := HM.out.res
          go_wp2_with (first
            | (refine wpList_load_arr rfl _ _ rfl rfl hR Tryd.underlying29 rfl (infoPol _) ?_)
            | (refine wpList_store_arr rfl rfl _ _ _ rfl rfl rfl hA (infoPol _) (by rw [polC_size, polC_size]) (polC_one _) ?_; intro w5 hw5))
          exact bodyPost_ret (results_arr rfl rfl hw5.blk Tryd.underlying29 rfl (infoPol _)) rfl ⟨rfl, HM.out.at_ ▸ HM.out.below.trans (hw5.below (HM.out.at_ ▸ HM.out.below.size) (by omega))⟩
end Go.Proofs.YtoieodlpoglmfaaDoor

/-! PolY -/
namespace Go.Proofs.YtoieodlpoglmfaaDoor
open Go.RowKit

/-- A policy without the roles outside S. -/
def cSet (S : Nat) (f : Nat → Nat) (r : Nat) : Nat := if S.testBit r = true then f r else 0
def cOwn (p : Pol) (S t : Nat) : Nat := if S.testBit (p.owner t) = true then p.owner t else 16
def cutK (p : Pol) (S k : Nat) : Pol := ⟨p.live, uptoN (cSet S p.s) p.s k, uptoN (cSet S p.i) p.i k, cutF p.acts S, p.owner, p.active⟩
def cutO (p : Pol) (S k : Nat) : Pol := { cutK p S 16 with owner := uptoN (cOwn p S) p.owner k }
def cutP (p : Pol) (S : Nat) : Pol := { cutO p S 16 with live := S }
def Pol.putL (p : Pol) (S : Nat) : Pol := { p with live := S }
def Pol.putG (p : Pol) (f : Nat → Nat) : Pol := { p with acts := f }
theorem cutK_zero (p : Pol) (S : Nat) : cutK p S 0 = p.putG (cutF p.acts S) := by unfold cutK; rw [uptoN_zero, uptoN_zero]; rfl
theorem cutO_zero (p : Pol) (S : Nat) : cutO p S 0 = cutK p S 16 := by unfold cutO; rw [uptoN_zero]; rfl
theorem cutK_yes (p : Pol) (S k : Nat) (h : S.testBit k = true) : cutK p S k = cutK p S (k + 1) := by
  unfold cutK
  rw [← uptoN_step (cSet S p.s) p.s k, ← uptoN_step (cSet S p.i) p.i k]
  have e1 : upd (uptoN (cSet S p.s) p.s k) k (cSet S p.s k) = uptoN (cSet S p.s) p.s k := by
    funext r; unfold upd
    by_cases e : r = k
    · subst e; rw [if_pos rfl, uptoN_at]; exact if_pos h
    · rw [if_neg e]
  have e2 : upd (uptoN (cSet S p.i) p.i k) k (cSet S p.i k) = uptoN (cSet S p.i) p.i k := by
    funext r; unfold upd
    by_cases e : r = k
    · subst e; rw [if_pos rfl, uptoN_at]; exact if_pos h
    · rw [if_neg e]
  rw [e1, e2]
theorem cutK_no (p : Pol) (S k : Nat) (h : S.testBit k = false) : ((cutK p S k).putS k 0).putI k 0 = cutK p S (k + 1) := by
  have hn : ¬ S.testBit k = true := by rw [h]; simp
  have e1 : (0 : Nat) = cSet S p.s k := (if_neg hn).symm
  have e2 : (0 : Nat) = cSet S p.i k := (if_neg hn).symm
  have e : ((cutK p S k).putS k 0).putI k 0 = ((cutK p S k).putS k (cSet S p.s k)).putI k (cSet S p.i k) := by rw [← e1, ← e2]
  rw [e]
  unfold Pol.putS Pol.putI cutK
  simp only [uptoN_step]
theorem cutO_yes (p : Pol) (S t : Nat) (h : S.testBit (p.owner t) = true) : cutO p S t = cutO p S (t + 1) := by
  unfold cutO
  rw [← uptoN_step (cOwn p S) p.owner t]
  have e1 : upd (uptoN (cOwn p S) p.owner t) t (cOwn p S t) = uptoN (cOwn p S) p.owner t := by
    funext r; unfold upd
    by_cases e : r = t
    · subst e; rw [if_pos rfl, uptoN_at]; exact if_pos h
    · rw [if_neg e]
  rw [e1]
theorem cutO_no (p : Pol) (S t : Nat) (h : S.testBit (p.owner t) = false) : (cutO p S t).putO t 16 = cutO p S (t + 1) := by
  have hn : ¬ S.testBit (p.owner t) = true := by rw [h]; simp
  have e1 : (16 : Nat) = cOwn p S t := (if_neg hn).symm
  have e : (cutO p S t).putO t 16 = (cutO p S t).putO t (cOwn p S t) := by rw [← e1]
  rw [e]
  unfold Pol.putO cutO
  simp only [uptoN_step]
theorem cutO_owner (p : Pol) (S t : Nat) : (cutO p S t).owner t = p.owner t := uptoN_at _ _ _
theorem PRow.putL {w : World} {b : Nat} {p : Pol} (h : PRow w b p) (S : Nat) : PRow (w.setCell ⟨b, 0, none⟩ (.int .u16 (S : Int))) b (p.putL S) := by
  refine h.put fun j _ => ?_
  by_cases e : j = 0
  · subst e; rfl
  · rw [if_neg e]
    show polAt (p.putL S) j = polAt p j
    unfold polAt
    rw [if_neg e, if_neg e]; rfl
/-- The graph in the middle of a policy is written. -/
theorem polC_graph (p : Pol) (f : Nat → Nat) : midC (polC p) 33 (grC f) = polC (p.putG f) := by
  have hs : 33 + (grC f).size ≤ (polC p).size := by rw [grC_size, polC_size]; decide
  apply Array.ext_getElem?
  intro j
  rw [midC_get hs, grC_size]
  by_cases hj : j < 66
  · rw [polC_get (p.putG f) hj]
    by_cases h : 33 ≤ j ∧ j < 33 + 16
    · rw [if_pos h, grC_get f (by omega)]
      unfold polAt
      rw [if_neg (by omega), if_neg (by omega), if_pos (by omega)]; rfl
    · rw [if_neg h, polC_get _ hj]
      unfold polAt
      by_cases h0 : j = 0
      · rw [if_pos h0, if_pos h0]; rfl
      · rw [if_neg h0, if_neg h0]
        by_cases h1 : j < 33
        · rw [if_pos h1, if_pos h1]; rfl
        · have h2 : ¬ j < 49 := by omega
          rw [if_neg h1, if_neg h1, if_neg h2, if_neg h2]; rfl
  · rw [if_neg (by omega), Array.getElem?_eq_none (by rw [polC_size]; omega), Array.getElem?_eq_none (by rw [polC_size]; omega)]
theorem polC_acts_at (p : Pol) (i : Nat) (h : i < (grC p.acts).size) : (polC p)[33 + i]? = (grC p.acts)[i]? := by
  rw [grC_size] at h
  rw [pol_acts p h, grC_get _ h]
theorem cutK_ok {p : Pol} (h : PolOk p) (S k : Nat) : PolOk (cutK p S k) := by
  refine ⟨h.live, h.active, fun r hr => ?_, fun r hr => ?_, fun r hr => cutF_lt S (h.acts r hr), h.owner⟩
  · show uptoN _ _ _ _ < _
    unfold uptoN cSet; split
    · split
      · exact h.s r hr
      · decide
    · exact h.s r hr
  · show uptoN _ _ _ _ < _
    unfold uptoN cSet; split
    · split
      · exact h.i r hr
      · decide
    · exact h.i r hr
theorem cutP_ok {p : Pol} (h : PolOk p) {S : Nat} (hS : S < 65536) : PolOk (cutP p S) := by
  have hk := cutK_ok h S 16
  refine ⟨hS, h.active, hk.s, hk.i, hk.acts, fun t ht => ?_⟩
  show uptoN (cOwn p S) p.owner 16 t < 256
  unfold uptoN cOwn
  rw [if_pos ht]
  split
  · exact h.owner t ht
  · decide

/-- The policy that is cut, a label beside it, and the place for the answer. -/
structure KW (w : World) (b : Nat) (q : Pol) (x y : Nat) (V : World) : Prop where
  below : Below b w V
  row : PRow V b q
  lab : Blk V (b + 1) #[.int .u16 (x : Int), .int .u16 (y : Int)] 24
  res : PRow V (b + 1 + 1) zeroP
  at_ : b = w.heap.size
theorem KW.step {w : World} {b : Nat} {q : Pol} {x y : Nat} {V V' : World} (h : KW w b q x y V) (hB : Below V.heap.size V V') : KW w b q x y V' :=
  ⟨h.below.trans (hB.mono (by rw [h.at_]; exact h.below.size)), h.row.step hB, h.lab.below hB h.lab.lt, h.res.step hB, h.at_⟩
theorem KW.new (w : World) (p : Pol) (x y : Nat) : KW w w.heap.size p x y (((w.alloc (.cells (polC p) 29)).alloc (.cells #[.int .u16 (x : Int), .int .u16 (y : Int)] 24)).alloc (.cells (polC zeroP) 29)) := by
  refine ⟨((belowNew w _).alloc (by simp) _).alloc (by simp; omega) _, ((PRow.new w p).alloc _).alloc _, ?_, ?_, rfl⟩
  · have h := Blk.new (w.alloc (.cells (polC p) 29)) #[.int .u16 (x : Int), .int .u16 (y : Int)] 24
    simp only [World.size_alloc] at h
    exact h.alloc _
  have h := PRow.new ((w.alloc (.cells (polC p) 29)).alloc (.cells #[.int .u16 (x : Int), .int .u16 (y : Int)] 24)) zeroP
  simp only [World.size_alloc] at h
  exact h
theorem KW.cell {w : World} {b : Nat} {q q2 : Pol} {x y : Nat} {V : World} (h : KW w b q x y V) {k : Nat} {u : Value} (hr : PRow (V.setCell ⟨b, k, none⟩ u) b q2) : KW w b q2 x y (V.setCell ⟨b, k, none⟩ u) :=
  ⟨h.below.setCell (by simp) _, hr, Blk.set_other h.lab (by show b ≠ b + 1; omega) _, Blk.set_other h.res (by show b ≠ b + 1 + 1; omega) _, h.at_⟩
theorem KW.put {w : World} {b : Nat} {q q2 : Pol} {x y : Nat} {V V' : World} (h : KW w b q x y V) (hp : Put V V' b (polC q2) 29) : KW w b q2 x y V' :=
  ⟨h.below.trans (hp.below (by rw [h.at_]; exact h.below.size) (Nat.le_refl _)), hp.blk, hp.chg.kept h.lab (by show ¬ b + 1 = b; omega), hp.chg.kept h.res (by show ¬ b + 1 + 1 = b; omega), h.at_⟩
theorem KW.all {w : World} {b : Nat} {q : Pol} {x y : Nat} {V : World} (h : KW w b q x y V) : Below w.heap.size w V := by rw [← h.at_]; exact h.below
set_option maxRecDepth 100000 in
set_option maxHeartbeats 3200000 in
theorem rpCut_any (p : Pol) (lx ly : Nat) (w : World) (hp : PolOk p) (hlx : lx < 65536) (hly : ly < 65536) :
    Calls Tryd.prog 34 #[.agg (polC p), .agg #[.int .u16 (lx : Int), .int .u16 (ly : Int)]] w fun e w' => e = .returned (.agg (polC (cutP p (seenN p lx ly)))) ∧ Below w.heap.size w w' := by
  have HG0 := Lib.hid (KW.new w p lx ly)
  have HSn := Lib.hid (fun V => rpSeen_any p lx ly V hp hlx hly)
  have HSl := Lib.hid (seenN_lt p lx ly)
  have HCu := Lib.hid (fun V S (hS : S < 65536) => raCut_any p.acts S V (fun t ht => hp.acts t ht) hS)
  have HHa := Lib.hid (fun V S (hS : S < 65536) (r : Nat) => gHas_any S r V hS)
  have HOk := Lib.hid hp
  clear hp hlx hly
  go_enter Tryd.func34, Tryd.ntmps34
  go_upto_region 1 with (simp only [zeroPol, Result.andThen_ok])
  generalize ((w.alloc (.cells (polC p) 29)).alloc _).alloc _ = w1 at *
  generalize hbp : w.heap.size = bp at *
  have HBp := Lib.hid hbp
  clear hbp
  generalize hSe : seenN p lx ly = S at *
  have HSe := Lib.hid hSe
  clear hSe
  have hrow := HG0.out.row
  have l0 := HG0.out.lab.cell 0
  have l1 := HG0.out.lab.cell 1
  go_wp2_with (refine wpList_load_arr rfl _ _ rfl rfl hrow Tryd.underlying29 rfl (infoPol _) ?_)
  refine (HSn.out _).mono ?_
  rintro e w2 ⟨rfl, hB2⟩
  have HG2 := Lib.hid (HG0.out.step hB2)
  clear hB2 hrow l0 l1 HG0
  have hrow := HG2.out.row
  go_wp2_with (refine wpList_load_mid rfl _ _ rfl (new := grC p.acts) rfl hrow (polC_acts_at p) Tryd.underlying26 rfl (infoGr _) ?_)
  refine (HCu.out _ _ HSl.out).mono ?_
  rintro e w3 ⟨rfl, hB3⟩
  have HG3 := Lib.hid (HG2.out.step hB3)
  clear hB3 hrow HG2
  have hrow := HG3.out.row
  go_upto_region 3 with (refine wpList_store_mid rfl rfl _ _ _ rfl rfl rfl hrow (by rw [grC_size, polC_size]; decide) (grC_one _) (infoGr _) ?_; intro w4 hw4)
  rw [polC_graph] at hw4
  have HG4 := Lib.hid (HG3.out.put hw4)
  rw [← cutK_zero] at HG4
  clear hw4 hrow HG3 HSn HCu
  have HHs := Lib.hid (fun V (r : Nat) => HHa.out V S HSl.out r)
  clear HHa
  go_wp2_with fail
  go_loopw [6] (fun i wr => ∃ k : Nat, k ≤ 16 ∧ i = .int .i64 (k : Int) ∧ KW w bp (cutK p S k) lx ly wr) (fun i _ => 16 - (intOf i).toNat)
  case atStart => exact ⟨0, by omega, rfl, HG4.out⟩
  case round =>
    obtain ⟨k, hk, rfl, hg⟩ := hrel
    have HG := Lib.hid hg
    clear hg HG4
    by_cases hlt : k < 16
    · have dk : decide ((k : Int) < 16) = true := by simp; omega
      have hk16 : (k : Int) < 16 := by omega
      have HHk := Lib.hid (fun V => HHs.out V k)
      cases hl : S.testBit k with
      | true =>
        rw [hl] at HHk
        have HE := Lib.hid (cutK_yes p S k hl)
        clear hl
        go_wp2_with fail
        refine (HHk.out _).mono ?_
        rintro e wx ⟨rfl, rfl⟩
        go_wp2_with fail
        rw [HE.out] at HG
        go_roundw
        case rel => first | exact ⟨k + 1, by omega, by go_num, HG.out⟩ | ((repeat apply Exists.intro); exact ⟨⟨k + 1, by omega, by go_num, HG.out⟩, rfl⟩)
        case measure => simp [intOf]; omega
      | false =>
        rw [hl] at HHk
        have HE := Lib.hid (cutK_no p S k hl)
        clear hl
        have k0 := HG.out.row.s hlt
        have f0 := Blk.free HG.out.row (1 + k * 2)
        have hS : PRow (wr.setCell ⟨bp, 1 + k * 2, none⟩ (.int .u16 0)) bp ((cutK p S k).putS k 0) := HG.out.row.putS hlt 0
        have k1 := hS.i hlt
        have f1 := Blk.free hS (1 + k * 2 + 1)
        have h2 := (HG.out.cell hS).cell (hS.putI hlt 0)
        rw [HE.out] at h2
        have HG2 : Hid (KW w bp (cutK p S (k + 1)) lx ly ((wr.setCell ⟨bp, 1 + k * 2, none⟩ (.int .u16 0)).setCell ⟨bp, 1 + k * 2 + 1, none⟩ (.int .u16 0))) := Lib.hid h2
        clear hS h2
        go_wp2_with fail
        refine (HHk.out _).mono ?_
        rintro e wx ⟨rfl, rfl⟩
        go_wp2_with fail
        go_roundw
        case rel => first | exact ⟨k + 1, by omega, by go_num, HG2.out⟩ | ((repeat apply Exists.intro); exact ⟨⟨k + 1, by omega, by go_num, HG2.out⟩, rfl⟩)
        case measure => simp [intOf]; omega
    · obtain rfl : k = 16 := by omega
      have HG5 := Lib.hid (show KW w bp (cutO p S 0) lx ly wr by rw [cutO_zero]; exact HG.out)
      clear HG
      go_wp2_with fail
      go_loopw [7] (fun i wr => ∃ t : Nat, t ≤ 16 ∧ i = .int .i64 (t : Int) ∧ KW w bp (cutO p S t) lx ly wr) (fun i _ => 16 - (intOf i).toNat)
      case atStart => exact ⟨0, by omega, rfl, HG5.out⟩
      case round =>
        obtain ⟨t, ht, rfl, hg⟩ := hrel
        have HG := Lib.hid hg
        clear hg HG5
        by_cases htt : t < 16
        · have dk : decide ((t : Int) < 16) = true := by simp; omega
          have ht16 : (t : Int) < 16 := by omega
          have k0 := HG.out.row.owner htt
          rw [cutO_owner] at k0
          have hob := HOk.out.owner t htt
          have hw : IntKind.i64.wrap (p.owner t : Int) = (p.owner t : Int) := IntWalk.i64_in _ (by omega)
          have HHk := Lib.hid (fun V => HHs.out V (p.owner t))
          cases hl : S.testBit (p.owner t) with
          | true =>
            rw [hl] at HHk
            have HE := Lib.hid (cutO_yes p S t hl)
            clear hl hob
            generalize p.owner t = po at k0 hw HHk
            go_wp2_with fail
            refine (HHk.out _).mono ?_
            rintro e wx ⟨rfl, rfl⟩
            go_wp2_with fail
            rw [HE.out] at HG
            go_roundw
            case rel => first | exact ⟨t + 1, by omega, by go_num, HG.out⟩ | ((repeat apply Exists.intro); exact ⟨⟨t + 1, by omega, by go_num, HG.out⟩, rfl⟩)
            case measure => simp [intOf]; omega
          | false =>
            rw [hl] at HHk
            have HE := Lib.hid (cutO_no p S t hl)
            clear hl hob
            generalize p.owner t = po at k0 hw HHk
            have f0 := Blk.free HG.out.row (49 + t)
            have hS : PRow (wr.setCell ⟨bp, 49 + t, none⟩ (.int .u8 16)) bp ((cutO p S t).putO t 16) := HG.out.row.putO htt 16
            have h2 := HG.out.cell hS
            rw [HE.out] at h2
            have HG2 : Hid (KW w bp (cutO p S (t + 1)) lx ly (wr.setCell ⟨bp, 49 + t, none⟩ (.int .u8 16))) := Lib.hid h2
            clear hS h2
            go_wp2_with fail
            refine (HHk.out _).mono ?_
            rintro e wx ⟨rfl, rfl⟩
            go_wp2_with fail
            go_roundw
            case rel => first | exact ⟨t + 1, by omega, by go_num, HG2.out⟩ | ((repeat apply Exists.intro); exact ⟨⟨t + 1, by omega, by go_num, HG2.out⟩, rfl⟩)
            case measure => simp [intOf]; omega
        · obtain rfl : t = 16 := by omega
          have k0 := HG.out.row.live
          have f0 := Blk.free HG.out.row 0
          have hS : PRow (wr.setCell ⟨bp, 0, none⟩ (.int .u16 (S : Int))) bp (cutP p S) := HG.out.row.putL S
          have HG2 : Hid (KW w bp (cutP p S) lx ly (wr.setCell ⟨bp, 0, none⟩ (.int .u16 (S : Int)))) := Lib.hid (HG.out.cell hS)
          clear hS HG
          go_upto_region 14 with fail
          generalize wr.setCell _ _ = w5 at *
          have hrow := HG2.out.row
          have hres := HG2.out.res
          go_wp2_with (first
            | (refine wpList_load_arr rfl _ _ rfl rfl hrow Tryd.underlying29 rfl (infoPol _) ?_)
            | (refine wpList_store_arr rfl rfl _ _ _ rfl rfl rfl hres (infoPol _) (by rw [polC_size, polC_size]) (polC_one _) ?_; intro w6 hw6))
          refine bodyPost_ret (results_arr rfl rfl hw6.blk Tryd.underlying29 rfl (infoPol _)) rfl ⟨by rw [HSe.out], ?_⟩
          exact HG2.out.all.trans (hw6.below HG2.out.all.size (by rw [HBp.out]; omega))
end Go.Proofs.YtoieodlpoglmfaaDoor

/-! PolN -/
namespace Go.Proofs.YtoieodlpoglmfaaDoor

theorem uptoN_in {f g : Nat → Nat} {k r : Nat} (h : r < k) : uptoN f g k r = f r := if_pos h
theorem fine_iff {p : Pol} : fineP p = true ↔ (∀ k, k < 16 → roleB p k = true) ∧ (∀ t, t < 16 → ownerB p t = true) := by
  refine ⟨fun h => ?_, fun h => fine_yes h.1 h.2⟩
  unfold fineP at h
  rw [Bool.and_eq_true] at h
  exact ⟨fun k hk => List.all_eq_true.1 h.1 k (List.mem_range.2 hk), fun t ht => List.all_eq_true.1 h.2 t (List.mem_range.2 ht)⟩
theorem mendN_ok {p : Pol} (h : PolOk p) : PolOk (mendN p) := by
  have hk := mendK_ok h 16
  refine ⟨h.live, h.active, hk.s, hk.i, hk.acts, fun t ht => ?_⟩
  show uptoN (mOwn p) p.owner 16 t < 256
  rw [uptoN_in ht]; unfold mOwn; split
  · exact h.owner t ht
  · decide
theorem mend_fine {p : Pol} (h : PolOk p) : fineP (mendN p) = true := by
  refine fine_yes (fun k hk => ?_) fun t ht => ?_
  · have es : (mendN p).s k = mSet p p.s k := uptoN_in hk
    have ei : (mendN p).i k = mSet p p.i k := uptoN_in hk
    have ea : (mendN p).acts k = mAct p k := uptoN_in hk
    have el : (mendN p).live = p.live := rfl
    have ec : (mendN p).active = p.active := rfl
    unfold roleB nilB
    rw [es, ei, ea, el, ec]
    unfold mSet mAct
    cases hl : p.live.testBit k with
    | false =>
      rw [if_neg (by simp), if_neg (by simp), if_neg (by simp)]
      simp [subB_zero]
    | true =>
      rw [if_pos rfl, if_pos rfl, if_pos rfl]
      have h1 : subB (p.s k &&& p.active ||| p.i k &&& p.active) p.active = true := by
        rw [subB_or_iff, subB_and_right, subB_and_right]; rfl
      have h2 : subB (lessN (p.acts k &&& p.live) (withN 0 k)) p.live = true := by
        rw [subB_iff]; intro t _ ht
        rw [lessN_bit (and_lt _ (h.acts k hk)) (withN_lt (by decide) hk), Nat.testBit_and] at ht
        simp at ht; exact ht.1.2
      have h3 : (lessN (p.acts k &&& p.live) (withN 0 k)).testBit k = false := by
        rw [lessN_bit (and_lt _ (h.acts k hk)) (withN_lt (by decide) hk), one_bit]; simp
      rw [h1, h2, h3]; rfl
  · have eo : (mendN p).owner t = mOwn p t := uptoN_in ht
    have el : (mendN p).live = p.live := rfl
    have ec : (mendN p).active = p.active := rfl
    unfold ownerB
    rw [eo, el, ec]
    unfold mOwn
    split
    · rename_i hx
      rw [hx]
      rw [Bool.and_eq_true] at hx
      have := bit_lt h.live hx.1
      simp; omega
    · simp

/-! Cut. -/
section
variable {p : Pol} {S : Nat}
theorem cut_s {r : Nat} (hr : r < 16) : (cutP p S).s r = cSet S p.s r := uptoN_in hr
theorem cut_i {r : Nat} (hr : r < 16) : (cutP p S).i r = cSet S p.i r := uptoN_in hr
theorem cut_acts (r : Nat) : (cutP p S).acts r = cutF p.acts S r := rfl
theorem cut_owner {t : Nat} (ht : t < 16) : (cutP p S).owner t = cOwn p S t := uptoN_in ht
theorem cut_fine (hf : fineP p = true) : fineP (cutP p S) = true := by
  obtain ⟨h1, h2⟩ := fine_iff.1 hf
  refine fine_yes (fun k hk => ?_) fun t ht => ?_
  · have hr := h1 k hk
    unfold roleB nilB at *
    rw [cut_s hk, cut_i hk, cut_acts, show (cutP p S).live = S from rfl, show (cutP p S).active = p.active from rfl]
    unfold cSet
    have hself : (cutF p.acts S k).testBit k = false := by
      rw [cutF_bit]; unfold edgeB
      simp only [Bool.and_eq_true] at hr
      have h3 := hr.2.2
      simp at h3
      rw [h3]; simp
    have hsub : subB (cutF p.acts S k) S = true := by
      rw [subB_iff]; intro t _ hb
      rw [cutF_bit] at hb
      exact (edge_both hb).2.1
    rw [hself, hsub]
    cases hs : S.testBit k with
    | true =>
      simp only [Bool.and_eq_true] at hr
      rw [if_pos rfl, if_pos rfl, hr.2.1.1]; rfl
    | false =>
      rw [if_neg (by simp), if_neg (by simp)]
      have : cutF p.acts S k = 0 := by unfold cutF; rw [if_neg (by rw [hs]; simp)]
      rw [this]; simp [subB_zero]
  · have ho := h2 t ht
    unfold ownerB at *
    rw [cut_owner ht, show (cutP p S).live = S from rfl, show (cutP p S).active = p.active from rfl]
    unfold cOwn
    split
    · rename_i hs
      rw [hs]
      rw [Bool.and_eq_true] at ho
      rw [ho.1]
      rcases Bool.or_eq_true _ _ ▸ ho.2 with h3 | h3
      · rw [h3]; rfl
      · rw [Bool.and_eq_true] at h3
        rw [h3.2]; simp
    · simp
theorem seenN_bit (q : Pol) (x y t : Nat) : (seenN q x y).testBit t = (decide (t < 16) && seenB q x y t) := by unfold seenN; rw [setG_bit]
theorem seen_live {x y t : Nat} (h : (seenN p x y).testBit t = true) : p.live.testBit t = true := by
  rw [seenN_bit] at h; unfold seenB at h; simp at h; exact h.2.1
theorem cut_seen (p : Pol) (x y : Nat) : seenN (cutP p (seenN p x y)) x y = seenN p x y := by
  apply Nat.eq_of_testBit_eq
  intro t
  rw [seenN_bit]
  cases hd : decide (t < 16) with
  | false => rw [seenN_bit, hd, Bool.false_and, Bool.false_and]
  | true =>
    have ht : t < 16 := by simpa using hd
    unfold seenB
    rw [show (cutP p (seenN p x y)).live = seenN p x y from rfl, cut_s ht, cut_i ht]
    unfold cSet
    cases hs : (seenN p x y).testBit t with
    | false => rfl
    | true =>
      rw [if_pos rfl, if_pos rfl]
      rw [seenN_bit] at hs
      unfold seenB at hs
      simp at hs
      simp [hs.2.2]
end
theorem down_congr {f g : Nat → Nat} {s W : Nat} (hW : W < 65536) (h : ∀ a b, edgeB f W a b = edgeB g W a b) : downN f s W = downN g s W := by
  apply Nat.eq_of_testBit_eq
  intro t
  rw [Bool.eq_iff_iff, downN_bit hW, downN_bit hW]
  exact ⟨fun ⟨a, h1, h2⟩ => ⟨a, h1, h2.mono (fun x y hx => by rw [← h]; exact hx) fun _ hx => hx⟩, fun ⟨a, h1, h2⟩ => ⟨a, h1, h2.mono (fun x y hx => by rw [h]; exact hx) fun _ hx => hx⟩⟩
theorem cut_edge (f : Nat → Nat) (W a b : Nat) : edgeB (cutF f W) W a b = edgeB f W a b := by
  unfold edgeB
  rw [cutF_bit]; unfold edgeB
  cases W.testBit a <;> cases W.testBit b <;> simp
theorem cut_actsB (p : Pol) (a b : Int) (x y : Nat) : actsB (cutP p (seenN p x y)) a b x y = actsB p a b x y := by
  unfold actsB
  split
  · rfl
  · rw [cut_seen, show (cutP p (seenN p x y)).acts = cutF p.acts (seenN p x y) from rfl, down_congr (g := p.acts) (seenN_lt p x y) (cut_edge p.acts _)]
theorem acts_seen {p : Pol} {a b : Int} {x y : Nat} (h : actsB p a b x y = true) : ∃ c : Nat, b = (c : Int) ∧ (seenN p x y).testBit c = true := by
  unfold actsB at h
  split at h
  · cases h
  · rename_i ha
    have hlt := downN_lt p.acts (s := withN 0 a.toNat) (seenN p x y) (withN_lt (by decide) (by omega))
    by_cases hb : 0 ≤ b ∧ b < 16
    · obtain ⟨c, rfl⟩ := Int.eq_ofNat_of_zero_le hb.1
      refine ⟨c, rfl, ?_⟩
      rw [hasB_bit, downN_bit (seenN_lt p x y)] at h
      obtain ⟨d, -, h2⟩ := h
      exact h2.both.2
    · rw [hasB_out (by omega) (by omega) hb] at h; cases h
theorem cut_capB (p : Pol) (a : Int) (x y t : Nat) (ht : t < 16) : capB (cutP p (seenN p x y)) a x y t = capB p a x y t := by
  unfold capB
  rw [cut_actsB, cut_owner ht, show (cutP p (seenN p x y)).active = p.active from rfl]
  unfold cOwn
  split
  · rfl
  · rename_i hs
    have h1 : actsB p a ((p.owner t : Nat) : Int) x y = false := by
      cases hc : actsB p a ((p.owner t : Nat) : Int) x y with
      | false => rfl
      | true =>
        obtain ⟨c, hc1, hc2⟩ := acts_seen hc
        have : p.owner t = c := by omega
        rw [← this] at hc2
        exact absurd hc2 hs
    rw [h1]; simp
theorem cut_caps (p : Pol) (a : Int) (x y : Nat) : capsN (cutP p (seenN p x y)) a x y = capsN p a x y := by
  apply Nat.eq_of_testBit_eq
  intro t
  unfold capsN
  rw [setG_bit, setG_bit]
  cases hd : decide (t < 16) with
  | false => rw [Bool.false_and, Bool.false_and]
  | true => rw [cut_capB p a x y t (by simpa using hd)]

/-! More is seen. -/
theorem seen_more {p : Pol} {x y u v : Nat} (h : flowsB x y u v = true) : ∀ t, (seenN p x y).testBit t = true → (seenN p u v).testBit t = true := by
  intro t ht
  rw [seenN_bit] at *
  unfold seenB at *
  rw [Bool.and_eq_true, Bool.and_eq_true] at *
  exact ⟨ht.1, ht.2.1, flowsB_trans ht.2.2 h⟩
theorem acts_more {p : Pol} {x y u v : Nat} {a b : Int} (h : flowsB x y u v = true) (hc : actsB p a b x y = true) : actsB p a b u v = true := by
  obtain ⟨c, rfl, -⟩ := acts_seen hc
  unfold actsB at *
  split at hc
  · cases hc
  · rename_i ha
    rw [if_neg ha]
    rw [hasB_bit, downN_bit (seenN_lt p x y)] at hc
    rw [hasB_bit, downN_bit (seenN_lt p u v)]
    obtain ⟨d, h1, h2⟩ := hc
    refine ⟨d, h1, h2.mono (fun e f he => ?_) (seen_more h)⟩
    obtain ⟨k1, k2, k3⟩ := edge_both he
    unfold edgeB
    rw [seen_more h _ k1, seen_more h _ k2, k3]; rfl
theorem caps_bit (p : Pol) (a : Int) (x y t : Nat) : (capsN p a x y).testBit t = (decide (t < 16) && capB p a x y t) := by unfold capsN; rw [setG_bit]
theorem caps_more {p : Pol} {x y u v : Nat} {a : Int} (h : flowsB x y u v = true) : ∀ t, (capsN p a x y).testBit t = true → (capsN p a u v).testBit t = true := by
  intro t ht
  rw [caps_bit, Bool.and_eq_true] at ht
  rw [caps_bit, Bool.and_eq_true]
  refine ⟨ht.1, ?_⟩
  have h2 := ht.2
  unfold capB at h2 ⊢
  rw [Bool.and_eq_true] at h2
  rw [Bool.and_eq_true]
  exact ⟨h2.1, acts_more h h2.2⟩
theorem capsN_lt (p : Pol) (a : Int) (x y : Nat) : capsN p a x y < 65536 := setG_lt _ (Nat.le_refl _)
end Go.Proofs.YtoieodlpoglmfaaDoor

/-! PolZ -/
namespace Go.Proofs.YtoieodlpoglmfaaDoor
open Go.RowKit

/-- A policy's bytes: the roles that are there, those below k; then the tags, those below t. -/
def roleL (p : Pol) (r : Nat) : List UInt8 := if p.live.testBit r = true then be (p.s r) 2 ++ be (p.i r) 2 ++ be (p.acts r) 2 else []
def bytR (p : Pol) : Nat → List UInt8
  | 0 => be p.live 2
  | k + 1 => bytR p k ++ roleL p k
def bytO (p : Pol) : Nat → List UInt8
  | 0 => bytR p 16 ++ be p.active 2
  | t + 1 => bytO p t ++ [UInt8.ofNat (p.owner t)]
def bytesP (p : Pol) : List UInt8 := bytO p 16
theorem roleL_le (p : Pol) (r : Nat) : (roleL p r).length ≤ 6 := by
  unfold roleL; split
  · simp [be_length]
  · simp
theorem bytR_le (p : Pol) (k : Nat) : (bytR p k).length ≤ 2 + 6 * k := by
  induction k with
  | zero => simp [bytR, be_length]
  | succ k ih => unfold bytR; rw [List.length_append]; have := roleL_le p k; omega
theorem bytO_le (p : Pol) (t : Nat) : (bytO p t).length ≤ 100 + t := by
  induction t with
  | zero => unfold bytO; rw [List.length_append, be_length]; have := bytR_le p 16; omega
  | succ t ih => unfold bytO; rw [List.length_append]; simp; omega
theorem be_two (s : Nat) : be s 2 = [UInt8.ofNat (s / 256), UInt8.ofNat s] := by simp [be]
/-- A row of its own is the block that was just made. -/
theorem own_lit {w : World} {B g : Nat} {l : List UInt8} {t : TypeId} (h : Blk w g (bvA l) t) (hB : B ≤ g) (hn : l.length ≤ maxLen) : w.ownsRow B t 1 (.slice (some ⟨g, 0, none⟩) l.length l.length) l.length (bvs l) :=
  ⟨by rw [bvs_length]; omega, .inr ⟨g, l.length, bvA l, rfl, hB, h, Nat.le_refl _, hn, by rw [bvA_size, Nat.mul_one], by rw [Nat.mul_one, List.take_of_length_le (by simp [bvA, bvs_length])]; rfl⟩⟩
def TwoIs (w : World) (s : Nat) (e : Ending) (w' : World) : Prop := ∃ g, e = .returned (.slice (some ⟨g, 0, none⟩) 2 2) ∧ w'.ownsRow w.heap.size 5 1 (.slice (some ⟨g, 0, none⟩) 2 2) 2 (bvs (be s 2)) ∧ Below w.heap.size w w'
theorem rpTwo_any (s : Nat) (w : World) (hs : s < 65536) : Calls Tryd.prog 64 #[.int .u16 (s : Int)] w (TwoIs w s) := by
  have HE := Lib.hid (show (#[.int .u8 ((s : Int) / 256), .int .u8 ((s : Int) % 256)] : Array Value) = bvA (be s 2) by
    rw [be_two]; simp [bvA, bvs]; omega)
  have e1 : IntKind.u8.wrap ((s : Int) / 256) = (s : Int) / 256 := by unfold IntKind.wrap; simp [IntKind.signed, IntKind.bits]; omega
  go_enter Tryd.func64, Tryd.ntmps64
  go_wp2_with fail
  refine bodyPost_ret (results_tmp rfl _ _ _) rfl ?_
  have hb := Blk.new w (#[.int .u8 ((s : Int) / 256), .int .u8 ((s : Int) % 256)]) 5
  rw [HE.out] at hb ⊢
  have h2 : (be s 2).length = 2 := be_length s 2
  have h3 := own_lit hb (Nat.le_refl _) (by rw [h2]; decide)
  rw [h2] at h3
  exact ⟨w.heap.size, rfl, h3, belowNew w _⟩
theorem PW.grow {w : World} {b : Nat} {p : Pol} {V V' : World} {row : Option Nat} (h : PW w b p V) (hg : V.grownBy V' row) (hr : ∀ k, row = some k → b < k) : PW w b p V' :=
  ⟨h.below.grown hg (by rw [h.at_]; exact h.below.size) (fun k hk => Nat.le_of_lt (hr k hk)), (hg.block b h.row.lt (fun e => by have := hr b e.symm; omega)).trans h.row, h.at_⟩
/-- What is written so far, in a row of its own. -/
structure ZW (w : World) (b : Nat) (p : Pol) (l : List UInt8) (v : Value) (V : World) : Prop where
  pw : PW w b p V
  row : V.ownsRow (b + 1) 5 1 v l.length (bvs l)
theorem ZW.step {w : World} {b : Nat} {p : Pol} {l : List UInt8} {v : Value} {V V' : World} (h : ZW w b p l v V) (hB : Below V.heap.size V V') : ZW w b p l v V' := ⟨h.pw.step hB, own_below h.row hB (Nat.le_refl _)⟩
theorem ZW.more {w : World} {b : Nat} {p : Pol} {l m : List UInt8} {v v' : Value} {V V' : World} (h : ZW w b p l v V) (hr : V'.ownsRow (b + 1) 5 1 v' (l ++ m).length (bvs (l ++ m))) (hg : V.grownBy V' v.ownBlock) : ZW w b p (l ++ m) v' V' :=
  ⟨h.pw.grow hg (fun k hk => (h.row.lt k hk).1), hr⟩
theorem ZW.base {w : World} {b : Nat} {p : Pol} {l : List UInt8} {v : Value} {V : World} (h : ZW w b p l v V) : b + 1 ≤ V.heap.size := h.pw.row.lt
theorem two_bs {w : World} {B g s : Nat} (h : w.ownsRow B 5 1 (.slice (some ⟨g, 0, none⟩) 2 2) 2 (bvs (be s 2))) : BsAt w (some ⟨g, 0, none⟩) 2 2 (be s 2) := by
  have h2 : (be s 2).length = 2 := be_length s 2
  have h3 : w.ownsRow B 5 1 (.slice (some ⟨g, 0, none⟩) 2 2) (be s 2).length (bvs (be s 2)) := by rw [h2]; exact h
  obtain ⟨p, c, e, hb⟩ := BsAt.ofRow h3
  rw [h2, Value.slice.injEq] at e
  obtain ⟨rfl, -, rfl⟩ := e
  rw [h2] at hb; exact hb
set_option maxRecDepth 100000 in
set_option maxHeartbeats 3200000 in
theorem rpBytes_any (p : Pol) (w : World) (hp : PolOk p) :
    Calls Tryd.prog 30 #[.agg (polC p)] w fun e w' => ∃ v, e = .returned v ∧ w'.ownsRow w.heap.size 5 1 v (bytesP p).length (bvs (bytesP p)) ∧ Below w.heap.size w w' := by
  have HG0 := Lib.hid (show PW w w.heap.size p (w.alloc (.cells (polC p) 29)) from ⟨belowNew w _, PRow.new w p, rfl⟩)
  have HHl := Lib.hid (fun V (r : Nat) => gHas_any p.live r V hp.live)
  have HOk := Lib.hid hp
  have HLr := Lib.hid (bytR_le p)
  have HLo := Lib.hid (bytO_le p)
  clear hp
  go_enter Tryd.func30, Tryd.ntmps30
  go_upto_region 1 with fail
  generalize w.alloc _ = w1 at *
  generalize hbp : w.heap.size = bp at *
  have HBp := Lib.hid hbp
  clear hbp
  have k0 := HG0.out.row.live
  go_wp2_with fail
  refine (rpTwo_any p.live w1 HOk.out.live).mono ?_
  rintro e w2 ⟨g, rfl, hrow, hB⟩
  have HZ := Lib.hid (show ZW w bp p (bytR p 0) (.slice (some ⟨g, 0, none⟩) 2 2) w2 from ⟨HG0.out.step hB, by
    have h1 : bp + 1 ≤ w1.heap.size := HG0.out.row.lt
    have h2 : (bytR p 0).length = 2 := be_length _ 2
    rw [h2]
    obtain ⟨h3, h4⟩ := hrow
    refine ⟨h3, ?_⟩
    rcases h4 with h4 | ⟨g', cap, cur, h5, h6, h7⟩
    · exact .inl h4
    · exact .inr ⟨g', cap, cur, h5, Nat.le_trans h1 h6, h7⟩⟩)
  clear hrow hB k0 HG0
  generalize Value.slice (some ⟨g, 0, none⟩) 2 2 = v0 at *
  go_wp2_with fail
  go_loopw [4, 3] (fun i v wr => ∃ k : Nat, k ≤ 16 ∧ i = .int .i64 (k : Int) ∧ ZW w bp p (bytR p k) v wr) (fun i _ _ => 16 - (intOf i).toNat)
  case atStart => exact ⟨0, by omega, rfl, HZ.out⟩
  case round =>
    obtain ⟨k, hk, rfl, hz⟩ := hrel
    have HG := Lib.hid hz
    obtain ⟨pv, cv, rfl⟩ := own_form hz.row
    clear hz HZ
    by_cases hlt : k < 16
    · have dk : decide ((k : Int) < 16) = true := by simp; omega
      have hk16 : (k : Int) < 16 := by omega
      have HHk := Lib.hid (fun V => HHl.out V k)
      have k0 := HG.out.pw.row.live
      have HLk := Lib.hid (HLr.out k)
      cases hl : p.live.testBit k with
      | false =>
        rw [hl] at HHk
        have HE := Lib.hid (show bytR p k = bytR p (k + 1) by
          show _ = bytR p k ++ roleL p k
          unfold roleL; rw [if_neg (by rw [hl]; simp), List.append_nil])
        clear hl
        go_wp2_with fail
        refine (HHk.out _).mono ?_
        rintro e wx ⟨rfl, rfl⟩
        go_wp2_with fail
        rw [HE.out] at HG
        go_roundw
        case rel => exact ⟨k + 1, by omega, by go_num, by rw [HE.out]; exact HG.out⟩
        case measure => simp [intOf]; omega
      | true =>
        rw [hl] at HHk
        have HE := Lib.hid (show bytR p k ++ be (p.s k) 2 ++ be (p.i k) 2 ++ be (p.acts k) 2 = bytR p (k + 1) by
          show _ = bytR p k ++ roleL p k
          unfold roleL; rw [if_pos hl, ← List.append_assoc, ← List.append_assoc])
        clear hl
        have ks := HG.out.pw.row.s hlt
        have HSb := Lib.hid (HOk.out.s k hlt)
        have HIb := Lib.hid (HOk.out.i k hlt)
        have HAb := Lib.hid (HOk.out.acts k hlt)
        go_wp2_with fail
        refine (HHk.out _).mono ?_
        rintro e wx ⟨rfl, rfl⟩
        go_wp2_with fail
        refine (rpTwo_any _ wr HSb.out).mono ?_
        rintro e w3 ⟨g3, rfl, hrow3, hB3⟩
        have HG3 := Lib.hid (HG.out.step hB3)
        have hown := HG3.out.row
        have hbs := two_bs hrow3
        have hq : (bytR p k).length + (be (p.s k) 2).length ≤ 140737488355328 := by rw [be_length]; have := HLk.out; omega
        clear hrow3 hB3 k0 ks
        go_upto_region 7 with (at_builtin; refine wpList_append_bytes rfl _ _ 48 rfl (bp + 1) 5 Tryd.underlying48 infoU8 rfl hown rfl hbs hq HG3.out.base ?_; intro p4 n4 c4 w4 hrow4 hg4 hn4; have HG4 := Lib.hid (HG3.out.more hrow4 hg4); clear hrow4 hg4 hn4 hown hbs hq)
        have ks := HG4.out.pw.row.i hlt
        go_wp2_with fail
        refine (rpTwo_any _ w4 HIb.out).mono ?_
        rintro e w5 ⟨g5, rfl, hrow5, hB5⟩
        have HG5 := Lib.hid (HG4.out.step hB5)
        have hown := HG5.out.row
        have hbs := two_bs hrow5
        have hq : (bytR p k ++ be (p.s k) 2).length + (be (p.i k) 2).length ≤ 140737488355328 := by simp only [List.length_append, be_length]; have := HLk.out; omega
        clear hrow5 hB5 ks
        go_upto_region 8 with (at_builtin; refine wpList_append_bytes rfl _ _ 48 rfl (bp + 1) 5 Tryd.underlying48 infoU8 rfl hown rfl hbs hq HG5.out.base ?_; intro p6 n6 c6 w6 hrow6 hg6 hn6; have HG6 := Lib.hid (HG5.out.more hrow6 hg6); clear hrow6 hg6 hn6 hown hbs hq)
        have ks := HG6.out.pw.row.acts hlt
        go_wp2_with fail
        refine (rpTwo_any _ w6 HAb.out).mono ?_
        rintro e w7 ⟨g7, rfl, hrow7, hB7⟩
        have HG7 := Lib.hid (HG6.out.step hB7)
        have hown := HG7.out.row
        have hbs := two_bs hrow7
        have hq : (bytR p k ++ be (p.s k) 2 ++ be (p.i k) 2).length + (be (p.acts k) 2).length ≤ 140737488355328 := by simp only [List.length_append, be_length]; have := HLk.out; omega
        clear hrow7 hB7 ks
        go_wp2_with (at_builtin; refine wpList_append_bytes rfl _ _ 48 rfl (bp + 1) 5 Tryd.underlying48 infoU8 rfl hown rfl hbs hq HG7.out.base ?_; intro p8 n8 c8 w8 hrow8 hg8 hn8; have HG8 := Lib.hid (HG7.out.more hrow8 hg8); clear hrow8 hg8 hn8 hown hbs hq)
        rw [HE.out] at HG8
        go_roundw
        case rel => exact ⟨k + 1, by omega, by go_num, HG8.out⟩
        case measure => simp [intOf]; omega
    · obtain rfl : k = 16 := by omega
      have HLk := Lib.hid (HLr.out 16)
      have k0 := HG.out.pw.row.active
      go_wp2_with fail
      refine (rpTwo_any _ wr HOk.out.active).mono ?_
      rintro e w3 ⟨g3, rfl, hrow3, hB3⟩
      have HG3 := Lib.hid (HG.out.step hB3)
      have hown := HG3.out.row
      have hbs := two_bs hrow3
      have hq : (bytR p 16).length + (be p.active 2).length ≤ 140737488355328 := by rw [be_length]; have := HLk.out; omega
      clear hrow3 hB3 k0 HG
      go_upto_region 10 with (at_builtin; refine wpList_append_bytes rfl _ _ 48 rfl (bp + 1) 5 Tryd.underlying48 infoU8 rfl hown rfl hbs hq HG3.out.base ?_; intro p4 n4 c4 w4 hrow4 hg4 hn4; have HG4 := Lib.hid (show ZW w bp p (bytO p 0) (.slice p4 n4 c4) w4 from HG3.out.more hrow4 hg4); clear hrow4 hg4 hn4 hown hbs hq)
      clear HG3 HLk
      generalize Value.slice p4 n4 c4 = v4 at *
      go_wp2_with fail
      go_loopw [5, 3] (fun i v wr => ∃ t : Nat, t ≤ 16 ∧ i = .int .i64 (t : Int) ∧ ZW w bp p (bytO p t) v wr) (fun i _ _ => 16 - (intOf i).toNat)
      case atStart => exact ⟨0, by omega, rfl, HG4.out⟩
      case round =>
        obtain ⟨t, ht, rfl, hz⟩ := hrel
        have HG := Lib.hid hz
        obtain ⟨pv, cv, rfl⟩ := own_form hz.row
        clear hz HG4
        by_cases htt : t < 16
        · have dk : decide ((t : Int) < 16) = true := by simp; omega
          have ht16 : (t : Int) < 16 := by omega
          have k0 := HG.out.pw.row.owner htt
          have HLt := Lib.hid (HLo.out t)
          have hob := HOk.out.owner t htt
          have HGa := Lib.hid (HG.out.step (belowNew wr (.cells #[.int .u8 (p.owner t : Int)] 5)))
          have hown := HGa.out.row
          have hbs : BsAt (wr.alloc (.cells #[.int .u8 (p.owner t : Int)] 5)) (some ⟨wr.heap.size, 0, none⟩) 1 1 [UInt8.ofNat (p.owner t)] :=
            bsAt_new wr _ _ 0 [UInt8.ofNat (p.owner t)] (show 1 ≤ maxLen by decide) (fun i hi => by
              obtain rfl : i = 0 := by simpa using hi
              simp; omega)
          have hq : (bytO p t).length + [UInt8.ofNat (p.owner t)].length ≤ 140737488355328 := by have := HLt.out; simp; omega
          have HSz := Lib.hid HGa.out.base
          clear hob
          go_wp2_with (at_builtin; refine wpList_append_bytes rfl _ _ 48 rfl (bp + 1) 5 Tryd.underlying48 infoU8 rfl hown rfl hbs hq HSz.out ?_; intro p5 n5 c5 w5 hrow5 hg5 hn5; have HG5 := Lib.hid (show ZW w bp p (bytO p (t + 1)) (.slice p5 n5 c5) w5 from HGa.out.more hrow5 hg5); clear hrow5 hg5 hn5 hown hbs hq)
          go_roundw
          case rel => exact ⟨t + 1, by omega, by go_num, HG5.out⟩
          case measure => simp [intOf]; omega
        · obtain rfl : t = 16 := by omega
          go_wp2_with fail
          refine bodyPost_ret (results_tmp rfl _ _ _) rfl ?_
          refine ⟨_, rfl, ?_, HG.out.pw.all⟩
          have h1 := HG.out.row
          obtain ⟨h3, h4⟩ := h1
          refine ⟨h3, ?_⟩
          rcases h4 with h4 | ⟨g', cap, cur, h5, h6, h7⟩
          · exact .inl h4
          · exact .inr ⟨g', cap, cur, h5, by rw [HBp.out]; omega, h7⟩
end Go.Proofs.YtoieodlpoglmfaaDoor

/-! PolW -/
namespace Go.Proofs.YtoieodlpoglmfaaDoor
open Go.RowKit

/-! Reading in plain terms: a policy and what is left. -/
abbrev RdSt := Pol × WSt
def rdLive (s : WSt) : RdSt := ({ zeroP with live := (dNum s 2 65535).1.toNat }, (dNum s 2 65535).2)
def rdS (x : RdSt) (k : Nat) : RdSt := (x.1.putS k (dNum x.2 2 65535).1.toNat, (dNum x.2 2 65535).2)
def rdI (x : RdSt) (k : Nat) : RdSt := (x.1.putI k (dNum x.2 2 65535).1.toNat, (dNum x.2 2 65535).2)
def rdG (x : RdSt) (k : Nat) : RdSt := (x.1.putA k (dNum x.2 2 65535).1.toNat, (dNum x.2 2 65535).2)
def rdA (x : RdSt) : RdSt := ({ x.1 with active := (dNum x.2 2 65535).1.toNat }, (dNum x.2 2 65535).2)
def rdO (x : RdSt) (t : Nat) : RdSt := (x.1.putO t (dNum x.2 1 16).1.toNat, (dNum x.2 1 16).2)
def rdRole (x : RdSt) (k : Nat) : RdSt := if x.1.live.testBit k = true then rdG (rdI (rdS x k) k) k else x
def rdR (s : WSt) : Nat → RdSt
  | 0 => rdLive s
  | k + 1 => rdRole (rdR s k) k
def rdT (s : WSt) : Nat → RdSt
  | 0 => rdA (rdR s 16)
  | t + 1 => rdO (rdT s t) t
/-- The error at the end, and the policy that is answered. -/
def rdE (s : WSt) : WSt := if (rdT s 16).2.2 = 0 ∧ fineP (rdT s 16).1 = false then ([], 3) else (rdT s 16).2
def rdPo (s : WSt) : Pol := if (rdE s).2 = 0 then (rdT s 16).1 else zeroP
theorem dNum_most (s : WSt) (size : Int) {most : Nat} : (dNum s size most).1.toNat ≤ most := by
  unfold dNum; split
  · split
    · simp
    · simp only [Int.toNat_natCast]; omega
  · simp
theorem dNum_cast (s : WSt) (size most : Int) : (((dNum s size most).1.toNat : Nat) : Int) = (dNum s size most).1 := Int.toNat_of_nonneg (by
  unfold dNum; split
  · split
    · exact Int.le_refl _
    · exact Int.natCast_nonneg _
  · exact Int.le_refl _)
theorem zeroP_ok : PolOk zeroP := ⟨by decide, by decide, fun _ _ => by show (0 : Nat) < 65536; decide, fun _ _ => by show (0 : Nat) < 65536; decide, fun _ _ => by show (0 : Nat) < 65536; decide, fun _ _ => by show (0 : Nat) < 256; decide⟩
theorem dNum_lt (s : WSt) : (dNum s 2 65535).1.toNat < 65536 := Nat.lt_succ_of_le (dNum_most s 2 (most := 65535))
theorem rdRole_ok {x : RdSt} (h : PolOk x.1) (k : Nat) : PolOk (rdRole x k).1 := by
  unfold rdRole; split
  · exact ⟨h.live, h.active, upd_lt h.s (dNum_lt _), upd_lt h.i (dNum_lt _), upd_lt h.acts (dNum_lt _), h.owner⟩
  · exact h
theorem rdR_ok (s : WSt) (k : Nat) : PolOk (rdR s k).1 := by
  induction k with
  | zero => exact ⟨dNum_lt _, zeroP_ok.active, zeroP_ok.s, zeroP_ok.i, zeroP_ok.acts, zeroP_ok.owner⟩
  | succ k ih => exact rdRole_ok ih k
theorem rdT_ok (s : WSt) (t : Nat) : PolOk (rdT s t).1 := by
  induction t with
  | zero =>
    have h := rdR_ok s 16
    exact ⟨h.live, dNum_lt _, h.s, h.i, h.acts, h.owner⟩
  | succ t ih => exact ⟨ih.live, ih.active, ih.s, ih.i, ih.acts, upd_lt ih.owner (Nat.lt_of_le_of_lt (dNum_most _ 1 (most := 16)) (by decide))⟩
theorem rdPo_ok (s : WSt) : PolOk (rdPo s) := by
  unfold rdPo; split
  · exact rdT_ok s 16
  · exact zeroP_ok
theorem rdR_live (s : WSt) (k : Nat) : (rdR s k).1.live = (dNum s 2 65535).1.toNat := by
  induction k with
  | zero => rfl
  | succ k ih =>
    rw [← ih]
    show (rdRole _ _).1.live = _
    unfold rdRole; split <;> rfl

/-- A Reader, the policy that is read, and the place for the answer. -/
structure QW (w : World) (b : Nat) (ty : TypeId) (g : Nat) (L : List UInt8) (c : Nat) (x : RdSt) (V : World) : Prop where
  rd : XRd V b ty g L x.2
  row : PRow V c x.1
  res : PRow V w.heap.size zeroP
  chg : Chg (fun k => k = b) w V
  lt : w.heap.size < c
theorem QW.read {w : World} {b : Nat} {ty : TypeId} {g : Nat} {L : List UInt8} {c : Nat} {x : RdSt} {V V' : World} {s : WSt} (h : QW w b ty g L c x V) (hb : b < w.heap.size) (hx : XTo V b ty g L s V') : QW w b ty g L c (x.1, s) V' :=
  ⟨hx.1, hx.2.kept h.row (by have := h.lt; omega), hx.2.kept h.res (by omega), h.chg.trans hx.2, h.lt⟩
theorem QW.step {w : World} {b : Nat} {ty : TypeId} {g : Nat} {L : List UInt8} {c : Nat} {x : RdSt} {V V' : World} (h : QW w b ty g L c x V) (hB : Below V.heap.size V V') : QW w b ty g L c x V' :=
  ⟨h.rd.below hB (Nat.le_refl _), h.row.step hB, h.res.step hB, h.chg.trans (Chg.ofBelow hB), h.lt⟩
theorem QW.cell {w : World} {b : Nat} {ty : TypeId} {g : Nat} {L : List UInt8} {c : Nat} {x : RdSt} {q : Pol} {V : World} (h : QW w b ty g L c x V) (hb : b < w.heap.size) (hg : g < w.heap.size) {k : Nat} {u : Value} (hr : PRow (V.setCell ⟨c, k, none⟩ u) c q) : QW w b ty g L c (q, x.2) (V.setCell ⟨c, k, none⟩ u) := by
  have h1 := h.lt
  have hc := (Chg.refl (fun k => k = c) V).setCell (p := ⟨c, k, none⟩) (fun _ => rfl) u
  exact ⟨h.rd.kept hc (by show ¬ b = c; omega) (by show ¬ g = c; omega), hr, Blk.set_other h.res (by show c ≠ _; omega) _, h.chg.setCell (fun hk => by have h2 : c < w.heap.size := hk; omega) u, h.lt⟩
theorem PRow.putV {w : World} {b : Nat} {p : Pol} (h : PRow w b p) (v : Nat) : PRow (w.setCell ⟨b, 65, none⟩ (.int .u16 (v : Int))) b { p with active := v } := by
  refine h.put fun j hj => ?_
  by_cases e : j = 65
  · subst e; rfl
  · rw [if_neg e]
    unfold polAt
    by_cases h0 : j = 0
    · rw [if_pos h0, if_pos h0]
    · rw [if_neg h0, if_neg h0]
      by_cases h1 : j < 33
      · rw [if_pos h1, if_pos h1]
      · rw [if_neg h1, if_neg h1]
        by_cases h2 : j < 49
        · rw [if_pos h2, if_pos h2]
        · rw [if_neg h2, if_neg h2, if_pos (by omega : j < 65), if_pos (by omega : j < 65)]
theorem XRd.err {w : World} {b : Nat} {t : TypeId} {g : Nat} {L : List UInt8} {s : List UInt8 × Int} (h : XRd w b t g L s) : w.cell? ⟨b, 2, none⟩ = some (.int .i64 s.2) ∧ w.frozen? ⟨b, 2, none⟩ = false := by
  obtain ⟨p, c, k, h1, -⟩ := h
  exact ⟨h1.cell 2, h1.free 2⟩
theorem live_pol (v : Nat) : (polC zeroP).toList.set 0 (.int .u16 (v : Int)) = (polC { zeroP with live := v }).toList := by
  rw [← Array.toList_setIfInBounds, polC_put (q := { zeroP with live := v }) (fun j _ => by
    by_cases e : j = 0
    · subst e; rfl
    · rw [if_neg e]; unfold polAt; rw [if_neg e, if_neg e])]
theorem QW.out {w : World} {b : Nat} {ty : TypeId} {g : Nat} {L : List UInt8} {c : Nat} {x : RdSt} {V V' : World} {cs : Array Value} {t : TypeId} (h : QW w b ty g L c x V) (hb : b < w.heap.size) (hg : g < w.heap.size) (hp : Put V V' w.heap.size cs t) : XTo w b ty g L x.2 V' :=
  ⟨h.rd.kept hp.chg (by show ¬ b = _; omega) (by show ¬ g = _; omega), h.chg.then hp.chg (fun i hi he => by have h2 : i = w.heap.size := he; omega)⟩
def ReadIs (w : World) (b : Nat) (ty : TypeId) (g : Nat) (L : List UInt8) (s : WSt) (e : Ending) (w' : World) : Prop := e = .returned (.agg (polC (rdPo s))) ∧ XTo w b ty g L (rdE s) w'
set_option maxRecDepth 100000 in
set_option maxHeartbeats 1600000 in
theorem rpRead_any (b : Nat) (ty : TypeId) (g : Nat) (L : List UInt8) (s : WSt) (w : World) (h : XRd w b ty g L s) (hg : g ≠ b) (hgl : g < w.heap.size) (hL : L.length ≤ 1000000) :
    Calls Tryd.prog 29 #[.pointer (some ⟨b, 0, none⟩)] w (ReadIs w b ty g L s) := by
  have hbl : b < w.heap.size := by obtain ⟨p, c, k, h1, -⟩ := h; exact h1.lt
  have HX := Lib.hid h
  have HH := Lib.hid (And.intro hg (And.intro hgl (And.intro hL hbl)))
  have HB0 := Lib.hid (belowNew w (.cells (polC zeroP) 29))
  have HR0 := Lib.hid (PRow.new w zeroP)
  have HNm := Lib.hid (fun V s2 (size most : Int) (hx : XRd V b ty g L s2) => xnum_any b ty g L s2 size most V hx hg hL)
  clear h hg hgl hL hbl
  go_enter Tryd.func29, Tryd.ntmps29
  go_upto_region 1 with (simp only [zeroPol, Result.andThen_ok])
  have HX1 := Lib.hid (HX.out.below HB0.out (Nat.le_refl _))
  go_wp2_with fail
  refine (HNm.out _ _ _ _ HX1.out).mono ?_
  rintro e w2 ⟨rfl, hX2⟩
  have hv := dNum_lt s
  have hs2 : (rdLive s).2 = (dNum s 2 65535).2 := rfl
  have hp2 : (rdLive s).1 = { zeroP with live := (dNum s 2 65535).1.toNat } := rfl
  rw [← hs2] at hX2
  rw [← dNum_cast s 2 65535]
  have HW2 := Lib.hid hX2
  have HL2 := Lib.hid hp2
  have HR2 := Lib.hid (show PRow w2 w.heap.size zeroP from hX2.2.kept HR0.out (by have := HH.out.2.2.2; omega))
  have HC2 := Lib.hid ((Chg.ofBelow (S := fun k => k = b) HB0.out).trans hX2.2)
  have HS2 := Lib.hid (show w.heap.size < w2.heap.size from HR2.out.lt)
  clear hX2 hs2 hp2 HX1
  generalize (dNum s 2 65535).1.toNat = v at *
  have hw1 : IntKind.u16.wrap (v : Int) = (v : Int) := by unfold IntKind.wrap; simp [IntKind.signed, IntKind.bits]; omega
  go_wp2_with fail
  have hB := PRow.new w2 zeroP
  simp only [store_pol hB (live_pol v), Result.andThen_ok]
  have hM : PRow ((w2.alloc (.cells (polC zeroP) 29)).setRow w2.heap.size (polC { zeroP with live := v })) w2.heap.size { zeroP with live := v } := setRow_heap _ _ _ _ _ _ hB
  have hbl2 : Below w2.heap.size w2 ((w2.alloc (.cells (polC zeroP) 29)).setRow w2.heap.size (polC { zeroP with live := v })) := (belowNew w2 _).trans (below_row (Nat.le_refl _))
  have HQ := Lib.hid (show QW w b ty g L w2.heap.size (rdR s 0) ((w2.alloc (.cells (polC zeroP) 29)).setRow w2.heap.size (polC { zeroP with live := v })) from
    ⟨HW2.out.1.below hbl2 (Nat.le_refl _), by show PRow _ _ (rdLive s).1; rw [HL2.out]; exact hM, HR2.out.step hbl2, HC2.out.trans (Chg.ofBelow hbl2), HS2.out⟩)
  have HLv := Lib.hid (show ∀ k, (rdR s k).1.live = v from fun k => by rw [rdR_live]; exact congrArg (fun q : Pol => q.live) HL2.out)
  clear hM hB hbl2 HW2 HL2 HR2 HC2 HS2 hw1 HX HB0 HR0
  generalize (w2.alloc (.cells (polC zeroP) 29)).setRow _ _ = w3 at *
  generalize w2.heap.size = c at *
  have HHl := Lib.hid (fun V (r : Nat) => gHas_any v r V hv)
  go_wp2_with fail
  go_loopw [4] (fun i wr => ∃ k : Nat, k ≤ 16 ∧ i = .int .i64 (k : Int) ∧ QW w b ty g L c (rdR s k) wr) (fun i _ => 16 - (intOf i).toNat)
  case atStart => exact ⟨0, by omega, rfl, HQ.out⟩
  case round =>
    obtain ⟨k, hk, rfl, hz⟩ := hrel
    have HG := Lib.hid hz
    clear hz HQ
    by_cases hlt : k < 16
    · have dk : decide ((k : Int) < 16) = true := by simp; omega
      have hk16 : (k : Int) < 16 := by omega
      have HHk := Lib.hid (fun V => HHl.out V k)
      have k0 := HG.out.row.live
      rw [HLv.out k] at k0
      have HLk := Lib.hid (HLv.out k)
      cases hl : v.testBit k with
      | false =>
        rw [hl] at HHk
        have HE := Lib.hid (show rdR s (k + 1) = rdR s k by
          show rdRole (rdR s k) k = _
          unfold rdRole; rw [HLk.out, if_neg (by rw [hl]; simp)])
        clear hl
        go_wp2_with fail
        refine (HHk.out _).mono ?_
        rintro e wx ⟨rfl, rfl⟩
        go_wp2_with fail
        rw [← HE.out] at HG
        go_roundw
        case rel => first | exact ⟨k + 1, by omega, by go_num, HG.out⟩ | ((repeat apply Exists.intro); exact ⟨⟨k + 1, by omega, by go_num, HG.out⟩, rfl⟩)
        case measure => simp [intOf]; omega
      | true =>
        rw [hl] at HHk
        have HE := Lib.hid (show rdG (rdI (rdS (rdR s k) k) k) k = rdR s (k + 1) by
          show _ = rdRole (rdR s k) k
          unfold rdRole; rw [HLk.out, if_pos hl])
        clear hl
        go_wp2_with fail
        refine (HHk.out _).mono ?_
        rintro e wx ⟨rfl, rfl⟩
        clear k0 HLk
        generalize rdR s k = x at *
        go_wp2_with fail
        refine (HNm.out _ _ _ _ HG.out.rd).mono ?_
        rintro e w4 ⟨rfl, hX4⟩
        have HG4 := Lib.hid (HG.out.read HH.out.2.2.2 hX4)
        have hv4 := dNum_lt x.2
        rw [← dNum_cast x.2 2 65535]
        clear hX4
        have k4 := HG4.out.row.s hlt
        have f4 := Blk.free HG4.out.row (1 + k * 2)
        have HG5 := Lib.hid (show QW w b ty g L c (rdS x k) (w4.setCell ⟨c, 1 + k * 2, none⟩ (.int .u16 ((dNum x.2 2 65535).1.toNat : Int))) from HG4.out.cell HH.out.2.2.2 HH.out.2.1 (HG4.out.row.putS hlt _))
        generalize hvv : (dNum x.2 2 65535).1.toNat = v4 at hv4 HG5 ⊢
        have hw4 : IntKind.u16.wrap (v4 : Int) = (v4 : Int) := by unfold IntKind.wrap; simp [IntKind.signed, IntKind.bits]; omega
        clear hvv HG4 HG
        go_upto_region 7 with fail
        clear k4 f4 hw4
        generalize w4.setCell _ _ = V5 at *
        go_wp2_with fail
        refine (HNm.out _ _ _ _ HG5.out.rd).mono ?_
        rintro e w6 ⟨rfl, hX6⟩
        have HG6 := Lib.hid (HG5.out.read HH.out.2.2.2 hX6)
        have hv6 := dNum_lt (rdS x k).2
        rw [← dNum_cast (rdS x k).2 2 65535]
        clear hX6
        have k6 := HG6.out.row.i hlt
        have f6 := Blk.free HG6.out.row (1 + k * 2 + 1)
        have HG7 := Lib.hid (show QW w b ty g L c (rdI (rdS x k) k) (w6.setCell ⟨c, 1 + k * 2 + 1, none⟩ (.int .u16 ((dNum (rdS x k).2 2 65535).1.toNat : Int))) from HG6.out.cell HH.out.2.2.2 HH.out.2.1 (HG6.out.row.putI hlt _))
        generalize hvv : (dNum (rdS x k).2 2 65535).1.toNat = v6 at hv6 HG7 ⊢
        have hw6 : IntKind.u16.wrap (v6 : Int) = (v6 : Int) := by unfold IntKind.wrap; simp [IntKind.signed, IntKind.bits]; omega
        clear hvv HG6 HG5
        go_upto_region 8 with fail
        clear k6 f6 hw6
        generalize w6.setCell _ _ = V7 at *
        go_wp2_with fail
        refine (HNm.out _ _ _ _ HG7.out.rd).mono ?_
        rintro e w8 ⟨rfl, hX8⟩
        have HG8 := Lib.hid (HG7.out.read HH.out.2.2.2 hX8)
        have hv8 := dNum_lt (rdI (rdS x k) k).2
        rw [← dNum_cast (rdI (rdS x k) k).2 2 65535]
        clear hX8
        have k8 := HG8.out.row.acts hlt
        have f8 := Blk.free HG8.out.row (33 + k)
        have HG9 := Lib.hid (show QW w b ty g L c (rdG (rdI (rdS x k) k) k) (w8.setCell ⟨c, 33 + k, none⟩ (.int .u16 ((dNum (rdI (rdS x k) k).2 2 65535).1.toNat : Int))) from HG8.out.cell HH.out.2.2.2 HH.out.2.1 (HG8.out.row.putA hlt _))
        generalize hvv : (dNum (rdI (rdS x k) k).2 2 65535).1.toNat = v8 at hv8 HG9 ⊢
        have hw8 : IntKind.u16.wrap (v8 : Int) = (v8 : Int) := by unfold IntKind.wrap; simp [IntKind.signed, IntKind.bits]; omega
        clear hvv HG8 HG7
        go_wp2_with fail
        rw [HE.out] at HG9
        go_roundw
        case rel => first | exact ⟨k + 1, by omega, by go_num, HG9.out⟩ | ((repeat apply Exists.intro); exact ⟨⟨k + 1, by omega, by go_num, HG9.out⟩, rfl⟩)
        case measure => simp [intOf]; omega
    · obtain rfl : k = 16 := by omega
      go_wp2_with fail
      refine (HNm.out _ _ _ _ HG.out.rd).mono ?_
      rintro e w4 ⟨rfl, hX4⟩
      have HG4 := Lib.hid (HG.out.read HH.out.2.2.2 hX4)
      have hv4 := dNum_lt (rdR s 16).2
      rw [← dNum_cast (rdR s 16).2 2 65535]
      clear hX4
      have k4 := HG4.out.row.active
      have f4 := Blk.free HG4.out.row 65
      have HG5 := Lib.hid (show QW w b ty g L c (rdT s 0) (w4.setCell ⟨c, 65, none⟩ (.int .u16 ((dNum (rdR s 16).2 2 65535).1.toNat : Int))) from HG4.out.cell HH.out.2.2.2 HH.out.2.1 (HG4.out.row.putV _))
      generalize hvv : (dNum (rdR s 16).2 2 65535).1.toNat = v4 at hv4 HG5 ⊢
      have hw4 : IntKind.u16.wrap (v4 : Int) = (v4 : Int) := by unfold IntKind.wrap; simp [IntKind.signed, IntKind.bits]; omega
      clear hvv HG4 HG
      go_upto_region 10 with fail
      clear k4 f4 hw4
      generalize w4.setCell _ _ = V5 at *
      go_wp2_with fail
      go_loopw [5] (fun i wr => ∃ t : Nat, t ≤ 16 ∧ i = .int .i64 (t : Int) ∧ QW w b ty g L c (rdT s t) wr) (fun i _ => 16 - (intOf i).toNat)
      case atStart => exact ⟨0, by omega, rfl, HG5.out⟩
      case round =>
        obtain ⟨t, ht, rfl, hz⟩ := hrel
        have HG := Lib.hid hz
        clear hz HG5
        by_cases htt : t < 16
        · have dk : decide ((t : Int) < 16) = true := by simp; omega
          have ht16 : (t : Int) < 16 := by omega
          have HE := Lib.hid (show rdO (rdT s t) t = rdT s (t + 1) from rfl)
          generalize rdT s t = x at *
          go_wp2_with fail
          refine (HNm.out _ _ _ _ HG.out.rd).mono ?_
          rintro e w6 ⟨rfl, hX6⟩
          have HG6 := Lib.hid (HG.out.read HH.out.2.2.2 hX6)
          have hv6 : (dNum x.2 1 16).1.toNat ≤ 16 := dNum_most x.2 1 (most := 16)
          rw [← dNum_cast x.2 1 16]
          clear hX6
          have k6 := HG6.out.row.owner htt
          have f6 := Blk.free HG6.out.row (49 + t)
          have HG7 := Lib.hid (show QW w b ty g L c (rdO x t) (w6.setCell ⟨c, 49 + t, none⟩ (.int .u8 ((dNum x.2 1 16).1.toNat : Int))) from HG6.out.cell HH.out.2.2.2 HH.out.2.1 (HG6.out.row.putO htt _))
          generalize hvv : (dNum x.2 1 16).1.toNat = v6 at hv6 HG7 ⊢
          have hw6 : IntKind.u8.wrap (v6 : Int) = (v6 : Int) := by unfold IntKind.wrap; simp [IntKind.signed, IntKind.bits]; omega
          clear hvv HG6 HG
          go_wp2_with fail
          rw [HE.out] at HG7
          go_roundw
          case rel => first | exact ⟨t + 1, by omega, by go_num, HG7.out⟩ | ((repeat apply Exists.intro); exact ⟨⟨t + 1, by omega, by go_num, HG7.out⟩, rfl⟩)
          case measure => simp [intOf]; omega
        · obtain rfl : t = 16 := by omega
          have HOk := Lib.hid (rdT_ok s 16)
          have HFi := Lib.hid (fun V => rpFine_any (rdT s 16).1 V HOk.out)
          have HEe := Lib.hid (show rdE s = if (rdT s 16).2.2 = 0 ∧ fineP (rdT s 16).1 = false then ([], 3) else (rdT s 16).2 from rfl)
          have HEp := Lib.hid (show rdPo s = if (rdE s).2 = 0 then (rdT s 16).1 else zeroP from rfl)
          clear HOk
          generalize rdT s 16 = x at *
          obtain ⟨k2, f2⟩ := HG.out.rd.err
          have hrow := HG.out.row
          have hres := HG.out.res
          by_cases he : x.2.2 = 0
          · cases hf : fineP x.1 with
            | true =>
              have hE : rdE s = x.2 := by rw [HEe.out, if_neg (by rw [hf]; simp)]
              have HE2 := Lib.hid (show rdE s = x.2 ∧ rdPo s = x.1 from ⟨hE, by rw [HEp.out, hE, if_pos he]⟩)
              rw [hf] at HFi
              rw [he] at k2
              have HKe := Lib.hid he
              clear hE hf he
              go_upto_region 14 with fail
              go_wp2_with (refine wpList_load_mid (by kernel_rfl) _ _ rfl (new := polC x.1) rfl hrow (fun i _ => by rw [Nat.zero_add]) Tryd.underlying29 rfl (infoPol _) ?_)
              refine (HFi.out _).mono ?_
              rintro e w7 ⟨rfl, hB7⟩
              have HG7 := Lib.hid (HG.out.step hB7)
              obtain ⟨k7, -⟩ := HG7.out.rd.err
              rw [HKe.out] at k7
              have hrow2 := HG7.out.row
              have hres2 := HG7.out.res
              clear hB7 k2 f2 hrow hres HG
              go_wp2_with (first
                | (refine wpList_load_mid (by kernel_rfl) _ _ rfl (new := polC x.1) rfl hrow2 (fun i _ => by rw [Nat.zero_add]) Tryd.underlying29 rfl (infoPol _) ?_)
                | (refine wpList_store_arr rfl rfl _ _ _ rfl rfl rfl hres2 (infoPol _) (by rw [polC_size, polC_size]) (polC_one _) ?_; intro w8 hw8))
              refine bodyPost_ret (results_arr rfl rfl hw8.blk Tryd.underlying29 rfl (infoPol _)) rfl ⟨by rw [HE2.out.2], by rw [HE2.out.1]; exact HG7.out.out HH.out.2.2.2 HH.out.2.1 hw8⟩
            | false =>
              have hE : rdE s = ([], 3) := by rw [HEe.out, if_pos ⟨he, hf⟩]
              have HE2 := Lib.hid (show rdE s = ([], 3) ∧ rdPo s = zeroP from ⟨hE, by rw [HEp.out, hE, if_neg (by decide)]⟩)
              rw [hf] at HFi
              rw [he] at k2
              clear hE hf he
              go_upto_region 14 with fail
              go_wp2_with (refine wpList_load_mid (by kernel_rfl) _ _ rfl (new := polC x.1) rfl hrow (fun i _ => by rw [Nat.zero_add]) Tryd.underlying29 rfl (infoPol _) ?_)
              refine (HFi.out _).mono ?_
              rintro e w7 ⟨rfl, hB7⟩
              have HG7 := Lib.hid (HG.out.step hB7)
              obtain ⟨k7, f7⟩ := HG7.out.rd.err
              have hX8 := HG7.out.rd.set HH.out.1 (c := 3) (by decide)
              have HG8 := Lib.hid (show QW w b ty g L c (x.1, ([], 3)) (w7.setCell ⟨b, 2, none⟩ (.int .i64 3)) from HG7.out.read HH.out.2.2.2 hX8)
              obtain ⟨k8, -⟩ := HG8.out.rd.err
              have hres2 := HG8.out.res
              clear hB7 k2 f2 hrow hres HG hX8
              go_upto_region 16 with fail
              clear k7 f7 HG7
              generalize w7.setCell _ _ = V8 at *
              go_wp2_with fail
              simp only [store_pol hres2 rfl, Result.andThen_ok]
              have hw8 : Put V8 (V8.setRow w.heap.size (polC zeroP)) w.heap.size (polC zeroP) 29 := ⟨⟨rfl, rfl, rfl, by simp, fun k _ hk => setRow_other V8 w.heap.size k _ hk⟩, setRow_heap V8 w.heap.size _ _ _ _ hres2⟩
              generalize V8.setRow _ _ = V9 at *
              go_wp2_with fail
              refine bodyPost_ret (results_arr rfl rfl hw8.blk Tryd.underlying29 rfl (infoPol _)) rfl ⟨by rw [HE2.out.2], by rw [HE2.out.1]; exact HG8.out.out HH.out.2.2.2 HH.out.2.1 hw8⟩
          · have hE : rdE s = x.2 := by rw [HEe.out, if_neg (fun h => he h.1)]
            have HE2 := Lib.hid (show rdE s = x.2 ∧ rdPo s = zeroP from ⟨hE, by rw [HEp.out, hE, if_neg he]⟩)
            have d1 : (x.2.2 == 0) = false := by simpa using he
            have d2 : (x.2.2 != 0) = true := by simpa using he
            clear hE he
            go_upto_region 14 with fail
            go_wp2_with fail
            simp only [store_pol hres rfl, Result.andThen_ok]
            have hw8 : Put wr (wr.setRow w.heap.size (polC zeroP)) w.heap.size (polC zeroP) 29 := ⟨⟨rfl, rfl, rfl, by simp, fun k _ hk => setRow_other wr w.heap.size k _ hk⟩, setRow_heap wr w.heap.size _ _ _ _ hres⟩
            generalize wr.setRow _ _ = V9 at *
            go_wp2_with fail
            refine bodyPost_ret (results_arr rfl rfl hw8.blk Tryd.underlying29 rfl (infoPol _)) rfl ⟨by rw [HE2.out.2], by rw [HE2.out.1]; exact HG.out.out HH.out.2.2.2 HH.out.2.1 hw8⟩
end Go.Proofs.YtoieodlpoglmfaaDoor

/-! PolB -/
namespace Go.Proofs.YtoieodlpoglmfaaDoor

theorem be_valB : ∀ (n : Nat) (l : List UInt8), l.length = n → be (valB l) n = l := by
  intro n
  induction n with
  | zero => intro l h; rw [List.eq_nil_of_length_eq_zero h]; rfl
  | succ n ih =>
    intro l h
    have hne : l ≠ [] := by intro e; rw [e] at h; cases h
    have e := List.dropLast_concat_getLast hne
    have hd : l.dropLast.length = n := by rw [List.length_dropLast]; omega
    generalize l.dropLast = d at *
    generalize l.getLast hne = c at *
    rw [← e, valB_snoc]
    show be ((256 * valB d + c.toNat) / 256) n ++ [UInt8.ofNat (256 * valB d + c.toNat)] = d ++ [c]
    have h := c.toNat_lt
    rw [show (256 * valB d + c.toNat) / 256 = valB d by omega, ih d hd]
    have e : UInt8.ofNat (256 * valB d + c.toNat) = c := by
      apply UInt8.toNat_inj.1
      rw [UInt8.toNat_ofNat']; omega
    rw [e]
/-- A number that was written is read. -/
theorem dNum_be {n z most : Nat} (h1 : 1 ≤ z) (h4 : z ≤ 4) (hn : n < 256 ^ z) (hm : n ≤ most) (r : List UInt8) : dNum (be n z ++ r, 0) (z : Int) (most : Int) = ((n : Int), (r, 0)) := by
  have hz : sizedB (z : Int) = true := by unfold sizedB; simp; omega
  rw [dNum_long hz (by rw [List.length_append, be_length]; omega), List.take_left' (be_length n z), List.drop_left' (be_length n z), valB_be n z hn, if_neg (by omega)]
/-- What is read without an error is the number that is written so. -/
theorem dNum_zero {s : WSt} {z most : Nat} (h1 : 1 ≤ z) (h4 : z ≤ 4) (h : (dNum s (z : Int) (most : Int)).2.2 = 0) : s.2 = 0 ∧ s.1 = be (dNum s (z : Int) (most : Int)).1.toNat z ++ (dNum s (z : Int) (most : Int)).2.1 := by
  have hz : sizedB (z : Int) = true := by unfold sizedB; simp; omega
  obtain ⟨l, e⟩ := s
  by_cases he : e = 0
  · subst he
    refine ⟨rfl, ?_⟩
    by_cases hl : l.length < z
    · rw [dNum_short hz hl] at h; cases h
    · rw [dNum_long hz (by omega)] at h ⊢
      split at h
      · cases h
      · rename_i hm
        rw [if_neg hm]
        simp only [Int.toNat_natCast]
        have ht : (l.take z).length = z := by rw [List.length_take]; omega
        rw [be_valB z _ ht, List.take_append_drop]
  · exfalso
    have hf : ∀ (t : WSt) (c : Int), t.2 ≠ 0 → (failS t c).2 ≠ 0 := fun t c ht => by unfold failS; rw [if_neg (fun k => ht k.1)]; exact ht
    have ht : (takeS (l, e) z).2 ≠ 0 := by
      unfold takeS; split
      · exact hf _ _ he
      · exact he
    unfold dNum at h
    rw [if_pos hz, Int.toNat_natCast] at h
    split at h
    · exact hf _ _ ht h
    · exact ht h

theorem dNum_be2 {n : Nat} (hn : n < 65536) (r : List UInt8) : dNum (be n 2 ++ r, 0) 2 65535 = ((n : Int), (r, 0)) := dNum_be (z := 2) (most := 65535) (by decide) (by decide) hn (by omega) r
theorem dNum_be1 {n : Nat} (hn : n ≤ 16) (r : List UInt8) : dNum (be n 1 ++ r, 0) 1 16 = ((n : Int), (r, 0)) := dNum_be (z := 1) (most := 16) (by decide) (by decide) (by omega) hn r

/-! Written, then read. -/
def qR (p : Pol) (k : Nat) : Pol := ⟨p.live, uptoN p.s (fun _ => 0) k, uptoN p.i (fun _ => 0) k, uptoN p.acts (fun _ => 0) k, fun _ => 0, 0⟩
def qT (p : Pol) (t : Nat) : Pol := { qR p 16 with owner := uptoN p.owner (fun _ => 0) t, active := p.active }
theorem uptoN_null {f : Nat → Nat} {k : Nat} (h : f k = 0) : uptoN f (fun _ => 0) (k + 1) = uptoN f (fun _ => 0) k := by
  rw [← uptoN_step]
  funext r; unfold upd
  by_cases e : r = k
  · subst e; rw [if_pos rfl, uptoN_at]; exact h
  · rw [if_neg e]
theorem role_nil {p : Pol} {k : Nat} (h : roleB p k = true) (hl : p.live.testBit k = false) : p.s k = 0 ∧ p.i k = 0 ∧ p.acts k = 0 := by
  unfold roleB nilB at h
  rw [hl] at h
  simp at h
  exact ⟨h.1.1.1, h.1.1.2, h.1.2⟩
theorem wr_rdR {p : Pol} (hp : PolOk p) (hf : ∀ k, k < 16 → roleB p k = true) (k : Nat) (hk : k ≤ 16) : ∀ rest, rdR (bytR p k ++ rest, 0) k = (qR p k, (rest, 0)) := by
  induction k with
  | zero =>
    intro rest
    show rdLive (be p.live 2 ++ rest, 0) = _
    unfold rdLive
    rw [dNum_be2 hp.live]
    unfold qR
    rw [uptoN_zero, uptoN_zero, uptoN_zero]
    rfl
  | succ k ih =>
    intro rest
    show rdRole (rdR (bytR p k ++ roleL p k ++ rest, 0) k) k = _
    rw [List.append_assoc, ih (by omega)]
    unfold rdRole
    rw [show (qR p k).live = p.live from rfl]
    cases hl : p.live.testBit k with
    | false =>
      obtain ⟨e1, e2, e3⟩ := role_nil (hf k (by omega)) hl
      rw [if_neg (by simp)]
      unfold roleL
      rw [if_neg (by rw [hl]; simp), List.nil_append]
      unfold qR
      rw [uptoN_null e1, uptoN_null e2, uptoN_null e3]
    | true =>
      have hk16 : k < 16 := by omega
      rw [if_pos rfl]
      unfold roleL
      rw [if_pos hl]
      unfold rdS
      simp only
      rw [List.append_assoc, List.append_assoc, dNum_be2 (hp.s k hk16)]
      unfold rdI
      simp only
      rw [dNum_be2 (hp.i k hk16)]
      unfold rdG
      simp only
      rw [dNum_be2 (hp.acts k hk16)]
      simp only [Int.toNat_natCast]
      unfold Pol.putS Pol.putI Pol.putA qR
      simp only [uptoN_step]
theorem wr_rdT {p : Pol} (hp : PolOk p) (hf : fineP p = true) (t : Nat) (ht : t ≤ 16) : ∀ rest, rdT (bytO p t ++ rest, 0) t = (qT p t, (rest, 0)) := by
  obtain ⟨h1, h2⟩ := fine_iff.1 hf
  induction t with
  | zero =>
    intro rest
    show rdA (rdR (bytR p 16 ++ be p.active 2 ++ rest, 0) 16) = _
    rw [List.append_assoc, wr_rdR hp h1 16 (Nat.le_refl _)]
    unfold rdA
    simp only
    rw [dNum_be2 hp.active]
    unfold qT
    rw [uptoN_zero]
    rfl
  | succ t ih =>
    intro rest
    show rdO (rdT (bytO p t ++ [UInt8.ofNat (p.owner t)] ++ rest, 0) t) t = _
    rw [List.append_assoc, ih (by omega)]
    have ho : p.owner t ≤ 16 := by
      have := h2 t (by omega)
      unfold ownerB at this
      rw [Bool.and_eq_true] at this
      simpa using this.1
    have e : [UInt8.ofNat (p.owner t)] = be (p.owner t) 1 := rfl
    rw [e]
    unfold rdO
    simp only
    rw [dNum_be1 ho]
    simp only [Int.toNat_natCast]
    unfold Pol.putO qT
    simp only [uptoN_step]
theorem polC_congr {p q : Pol} (h0 : p.live = q.live) (h1 : ∀ r, r < 16 → p.s r = q.s r ∧ p.i r = q.i r ∧ p.acts r = q.acts r) (h2 : ∀ t, t < 16 → p.owner t = q.owner t) (h3 : p.active = q.active) : polC p = polC q := by
  unfold polC
  congr 1
  apply List.map_congr_left
  intro k hk
  have hk := List.mem_range.1 hk
  unfold polAt
  split
  · rw [h0]
  · split
    · split
      · rw [(h1 (k / 2) (by omega)).1]
      · rw [(h1 (k / 2 - 1) (by omega)).2.1]
    · split
      · rw [(h1 (k - 33) (by omega)).2.2]
      · split
        · rw [h2 (k - 49) (by omega)]
        · rw [h3]
theorem qT_role (p : Pol) {r : Nat} (hr : r < 16) : (qT p 16).s r = p.s r ∧ (qT p 16).i r = p.i r ∧ (qT p 16).acts r = p.acts r :=
  ⟨uptoN_in (f := p.s) (g := fun _ => 0) hr, uptoN_in (f := p.i) (g := fun _ => 0) hr, uptoN_in (f := p.acts) (g := fun _ => 0) hr⟩
theorem qT_own (p : Pol) {t : Nat} (ht : t < 16) : (qT p 16).owner t = p.owner t := uptoN_in (f := p.owner) (g := fun _ => 0) ht
theorem qT_cells (p : Pol) : polC (qT p 16) = polC p :=
  polC_congr rfl (fun _ hr => qT_role p hr) (fun _ ht => qT_own p ht) rfl
theorem fine_congr {p q : Pol} (h0 : p.live = q.live) (h1 : ∀ r, r < 16 → p.s r = q.s r ∧ p.i r = q.i r ∧ p.acts r = q.acts r) (h2 : ∀ t, t < 16 → p.owner t = q.owner t) (h3 : p.active = q.active) (h : fineP p = true) : fineP q = true := by
  obtain ⟨k1, k2⟩ := fine_iff.1 h
  refine fine_yes (fun r hr => ?_) fun t ht => ?_
  · have := k1 r hr
    unfold roleB nilB at *
    rw [← h0, ← h3, ← (h1 r hr).1, ← (h1 r hr).2.1, ← (h1 r hr).2.2]; exact this
  · have := k2 t ht
    unfold ownerB at *
    rw [← h0, ← h3, ← h2 t ht]; exact this
theorem rd_wr {p : Pol} (hp : PolOk p) (hf : fineP p = true) (rest : List UInt8) : polC (rdPo (bytesP p ++ rest, 0)) = polC p ∧ rdE (bytesP p ++ rest, 0) = (rest, 0) := by
  have h := wr_rdT hp hf 16 (Nat.le_refl _) rest
  have hq : fineP (qT p 16) = true := fine_congr (p := p) rfl (fun _ hr => ⟨(qT_role p hr).1.symm, (qT_role p hr).2.1.symm, (qT_role p hr).2.2.symm⟩) (fun _ ht => (qT_own p ht).symm) rfl hf
  have hE : rdE (bytesP p ++ rest, 0) = (rest, 0) := by
    unfold rdE bytesP; rw [h, if_neg (by rw [hq]; simp)]
  refine ⟨?_, hE⟩
  unfold rdPo
  rw [hE, if_pos rfl]
  unfold bytesP
  rw [h]
  exact qT_cells p

/-! Read, then written. -/
theorem rdS_snd (x : RdSt) (k : Nat) : (rdS x k).2 = (dNum x.2 2 65535).2 := rfl
theorem rdI_snd (x : RdSt) (k : Nat) : (rdI x k).2 = (dNum x.2 2 65535).2 := rfl
theorem rdG_snd (x : RdSt) (k : Nat) : (rdG x k).2 = (dNum x.2 2 65535).2 := rfl
theorem dNum_zero2 {s : WSt} (h : (dNum s 2 65535).2.2 = 0) : s.2 = 0 ∧ s.1 = be (dNum s 2 65535).1.toNat 2 ++ (dNum s 2 65535).2.1 := dNum_zero (s := s) (z := 2) (most := 65535) (by decide) (by decide) h
theorem dNum_zero1 {s : WSt} (h : (dNum s 1 16).2.2 = 0) : s.2 = 0 ∧ s.1 = be (dNum s 1 16).1.toNat 1 ++ (dNum s 1 16).2.1 := dNum_zero (s := s) (z := 1) (most := 16) (by decide) (by decide) h
theorem bytR_congr {p q : Pol} (k : Nat) (h0 : p.live = q.live) (h : ∀ r, r < k → p.s r = q.s r ∧ p.i r = q.i r ∧ p.acts r = q.acts r) : bytR p k = bytR q k := by
  induction k with
  | zero => show be p.live 2 = be q.live 2; rw [h0]
  | succ k ih =>
    show bytR p k ++ roleL p k = bytR q k ++ roleL q k
    rw [ih (fun r hr => h r (by omega))]
    unfold roleL
    obtain ⟨e1, e2, e3⟩ := h k (by omega)
    rw [h0, e1, e2, e3]
theorem bytO_congr {p q : Pol} (t : Nat) (h0 : bytR p 16 = bytR q 16) (h1 : p.active = q.active) (h : ∀ r, r < t → p.owner r = q.owner r) : bytO p t = bytO q t := by
  induction t with
  | zero => show bytR p 16 ++ _ = bytR q 16 ++ _; rw [h0, h1]
  | succ t ih =>
    show bytO p t ++ _ = bytO q t ++ _
    rw [ih (fun r hr => h r (by omega)), h t (by omega)]
theorem rdR_wr (b : List UInt8) (k : Nat) (h : (rdR (b, 0) k).2.2 = 0) : b = bytR (rdR (b, 0) k).1 k ++ (rdR (b, 0) k).2.1 := by
  induction k with
  | zero => exact (dNum_zero (s := (b, 0)) (z := 2) (most := 65535) (by decide) (by decide) h).2
  | succ k ih =>
    have hx : rdR (b, 0) (k + 1) = rdRole (rdR (b, 0) k) k := rfl
    rw [hx] at h ⊢
    generalize rdR (b, 0) k = x at *
    cases hl : x.1.live.testBit k with
    | false =>
      have e : rdRole x k = x := by unfold rdRole; rw [if_neg (by rw [hl]; simp)]
      rw [e] at h ⊢
      show b = bytR x.1 k ++ roleL x.1 k ++ x.2.1
      unfold roleL
      rw [if_neg (by rw [hl]; simp), List.append_nil]
      exact ih h
    | true =>
      have e : rdRole x k = rdG (rdI (rdS x k) k) k := by unfold rdRole; rw [if_pos hl]
      rw [e] at h ⊢
      rw [rdG_snd] at h
      have h3 := dNum_zero2 h
      have h31 := h3.1
      rw [rdI_snd] at h31
      have h2 := dNum_zero2 h31
      have h21 := h2.1
      rw [rdS_snd] at h21
      have h1 := dNum_zero2 h21
      have hb := ih h1.1
      have ec : bytR (rdG (rdI (rdS x k) k) k).1 k = bytR x.1 k := bytR_congr k rfl (fun r hr => by
        have hne : r ≠ k := by omega
        exact ⟨upd_other (j := r) x.1.s _ hne, upd_other (j := r) x.1.i _ hne, upd_other (j := r) x.1.acts _ hne⟩)
      have es : (rdG (rdI (rdS x k) k) k).1.s k = (dNum x.2 2 65535).1.toNat := upd_same x.1.s k _
      have ei : (rdG (rdI (rdS x k) k) k).1.i k = (dNum (rdS x k).2 2 65535).1.toNat := upd_same x.1.i k _
      have ea : (rdG (rdI (rdS x k) k) k).1.acts k = (dNum (rdI (rdS x k) k).2 2 65535).1.toNat := upd_same x.1.acts k _
      have el : (rdG (rdI (rdS x k) k) k).1.live.testBit k = true := hl
      have ez : (rdG (rdI (rdS x k) k) k).2.1 = (dNum (rdI (rdS x k) k).2 2 65535).2.1 := by rw [rdG_snd]
      have e1 : (rdS x k).2.1 = (dNum x.2 2 65535).2.1 := by rw [rdS_snd]
      have e2 : (rdI (rdS x k) k).2.1 = (dNum (rdS x k).2 2 65535).2.1 := by rw [rdI_snd]
      have h12 := h1.2
      have h22 := h2.2
      have h32 := h3.2
      clear h h1 h2 h3 ih h31 h21
      rw [e1] at h22
      rw [e2] at h32
      unfold bytR
      rw [ec]
      unfold roleL
      rw [if_pos el, es, ei, ea, ez]
      generalize rdG (rdI (rdS x k) k) k = G at *
      generalize dNum (rdI (rdS x k) k).2 2 65535 = D3 at *
      generalize dNum (rdS x k).2 2 65535 = D2 at *
      generalize dNum x.2 2 65535 = D1 at *
      rw [hb, h12, h22, h32]
      simp only [List.append_assoc]
theorem rdT_wr (b : List UInt8) (t : Nat) (h : (rdT (b, 0) t).2.2 = 0) : b = bytO (rdT (b, 0) t).1 t ++ (rdT (b, 0) t).2.1 := by
  induction t with
  | zero =>
    have h1 := dNum_zero2 (s := (rdR (b, 0) 16).2) h
    have hb := rdR_wr b 16 h1.1
    have h12 := h1.2
    have e0 : rdT (b, 0) 0 = rdA (rdR (b, 0) 16) := rfl
    rw [e0]
    generalize rdR (b, 0) 16 = x at *
    have ec : bytR (rdA x).1 16 = bytR x.1 16 := bytR_congr 16 rfl (fun r _ => ⟨rfl, rfl, rfl⟩)
    have ea : (rdA x).1.active = (dNum x.2 2 65535).1.toNat := rfl
    have ez : (rdA x).2.1 = (dNum x.2 2 65535).2.1 := rfl
    unfold bytO
    rw [ec, ea, ez]
    clear ec ea ez h1 h e0
    generalize dNum x.2 2 65535 = D at *
    rw [hb, h12, List.append_assoc]
  | succ t ih =>
    have hx : rdT (b, 0) (t + 1) = rdO (rdT (b, 0) t) t := rfl
    rw [hx] at h ⊢
    generalize rdT (b, 0) t = x at *
    have h1 := dNum_zero1 (s := x.2) h
    have hb := ih h1.1
    have h12 := h1.2
    have ec : bytO (rdO x t).1 t = bytO x.1 t := bytO_congr t (bytR_congr 16 rfl (fun r _ => ⟨rfl, rfl, rfl⟩)) rfl (fun r hr => by
      have hne : r ≠ t := by omega
      exact upd_other (j := r) x.1.owner _ hne)
    have eo : (rdO x t).1.owner t = (dNum x.2 1 16).1.toNat := upd_same x.1.owner t _
    have ez : (rdO x t).2.1 = (dNum x.2 1 16).2.1 := rfl
    have e1 : [UInt8.ofNat (dNum x.2 1 16).1.toNat] = be (dNum x.2 1 16).1.toNat 1 := rfl
    unfold bytO
    rw [ec, eo, ez, e1]
    clear ec eo ez e1 h1 h ih
    generalize dNum x.2 1 16 = D at *
    rw [hb, h12, List.append_assoc]
theorem wr_rd (b : List UInt8) (h : (rdE (b, 0)).2 = 0) : fineP (rdPo (b, 0)) = true ∧ b = bytesP (rdPo (b, 0)) ++ (rdE (b, 0)).1 := by
  have hP : rdPo (b, 0) = (rdT (b, 0) 16).1 := by unfold rdPo; rw [if_pos h]
  unfold rdE at h
  split at h
  · cases h
  · rename_i hc
    have hE : rdE (b, 0) = (rdT (b, 0) 16).2 := by unfold rdE; rw [if_neg hc]
    rw [hP, hE]
    refine ⟨?_, rdT_wr b 16 h⟩
    cases hf : fineP (rdT (b, 0) 16).1 with
    | true => rfl
    | false => exact absurd ⟨h, hf⟩ hc
end Go.Proofs.YtoieodlpoglmfaaDoor

/-! PolSm -/
namespace Go.Proofs.YtoieodlpoglmfaaDoor
open Go.RowKit

theorem cell_int {q : IntKind} {a b : Nat} (h : Value.int q (a : Int) = .int q (b : Int)) : a = b := by
  have := (Value.int.injEq _ _ _ _).mp h
  omega
theorem polAt_same {p q : Pol} (h : polC p = polC q) {k : Nat} (hk : k < 66) : polAt p k = polAt q k := by
  have h1 := polC_get p hk
  rw [h, polC_get q hk] at h1
  exact (Option.some.inj h1).symm
theorem same_live {p q : Pol} (h : polC p = polC q) : p.live = q.live := cell_int (q := .u16) (polAt_same h (k := 0) (by decide))
theorem same_active {p q : Pol} (h : polC p = polC q) : p.active = q.active := cell_int (q := .u16) (polAt_same h (k := 65) (by decide))
theorem same_s {p q : Pol} (h : polC p = polC q) {r : Nat} (hr : r < 16) : p.s r = q.s r := by
  have h1 := polAt_same h (k := 1 + r * 2) (by omega)
  unfold polAt at h1
  rw [if_neg (by omega), if_pos (by omega), if_pos (by omega), show (1 + r * 2) / 2 = r by omega, if_neg (by omega), if_pos (by omega), if_pos (by omega)] at h1
  exact cell_int h1
theorem same_i {p q : Pol} (h : polC p = polC q) {r : Nat} (hr : r < 16) : p.i r = q.i r := by
  have h1 := polAt_same h (k := 1 + r * 2 + 1) (by omega)
  unfold polAt at h1
  rw [if_neg (by omega), if_pos (by omega), if_neg (by omega), show (1 + r * 2 + 1) / 2 - 1 = r by omega, if_neg (by omega), if_pos (by omega), if_neg (by omega)] at h1
  exact cell_int h1
theorem same_acts {p q : Pol} (h : polC p = polC q) {r : Nat} (hr : r < 16) : p.acts r = q.acts r := by
  have h1 := polAt_same h (k := 33 + r) (by omega)
  unfold polAt at h1
  rw [if_neg (by omega), if_neg (by omega), if_pos (by omega), show 33 + r - 33 = r by omega, if_neg (by omega), if_neg (by omega), if_pos (by omega)] at h1
  exact cell_int h1
theorem same_owner {p q : Pol} (h : polC p = polC q) {t : Nat} (ht : t < 16) : p.owner t = q.owner t := by
  have h1 := polAt_same h (k := 49 + t) (by omega)
  unfold polAt at h1
  rw [if_neg (by omega), if_neg (by omega), if_neg (by omega), if_pos (by omega), show 49 + t - 49 = t by omega, if_neg (by omega), if_neg (by omega), if_neg (by omega), if_pos (by omega)] at h1
  exact cell_int h1
theorem fine_cells {p q : Pol} (h : polC p = polC q) : fineP p = fineP q := by
  have e : ∀ {p q : Pol}, polC p = polC q → fineP p = true → fineP q = true := by
    intro p q h hf
    obtain ⟨h1, h2⟩ := fine_iff.1 hf
    refine fine_iff.2 ⟨fun k hk => ?_, fun t ht => ?_⟩
    · have := h1 k hk
      unfold roleB nilB at this ⊢
      rw [← same_live h, ← same_active h, ← same_s h hk, ← same_i h hk, ← same_acts h hk]; exact this
    · have := h2 t ht
      unfold ownerB at this ⊢
      rw [← same_live h, ← same_active h, ← same_owner h ht]; exact this
  exact Bool.eq_iff_iff.2 ⟨e h, e h.symm⟩
end Go.Proofs.YtoieodlpoglmfaaDoor

/-! PolC -/
namespace Go.Proofs.YtoieodlpoglmfaaDoor
open Go.RowKit

/-- Memory that was only made since. -/
def Since (w V : World) : Prop := Below w.heap.size w V
theorem TabOk.since {w V : World} (h : TabOk w) (hV : Since w V) : TabOk V := h.below hV

def PFineC : Prop := ∀ (p : Pol) (w : World), TabOk w → PolOk p → Calls Tryd.prog 8 #[.agg (polC p)] w fun e w' => e = .returned (.bool (fineP p)) ∧ Below w.heap.size w w'
def PFirstC : Prop := ∀ (w : World), Calls Tryd.prog 10 #[] w fun e w' => e = .returned (.agg (polC firstP)) ∧ Below w.heap.size w w'
def PSeenC : Prop := ∀ (p : Pol) (x y : Nat) (w : World), PolOk p → fineP p = true → x < 65536 → y < 65536 → Calls Tryd.prog 13 #[.agg (polC p), .agg #[.int .u16 (x : Int), .int .u16 (y : Int)]] w fun e w' => e = .returned (.int .u16 (seenN p x y : Nat)) ∧ Below w.heap.size w w'
def PActsC : Prop := ∀ (p : Pol) (a b : Int) (x y : Nat) (w : World), TabOk w → PolOk p → fineP p = true → x < 65536 → y < 65536 → -9223372036854775808 ≤ a → a ≤ 9223372036854775807 → -9223372036854775808 ≤ b → b ≤ 9223372036854775807 → Calls Tryd.prog 15 #[.agg (polC p), .int .i64 a, .int .i64 b, .agg #[.int .u16 (x : Int), .int .u16 (y : Int)]] w fun e w' => e = .returned (.bool (actsB p a b x y)) ∧ Below w.heap.size w w'
def PCapsC : Prop := ∀ (p : Pol) (a : Int) (x y : Nat) (w : World), TabOk w → PolOk p → fineP p = true → x < 65536 → y < 65536 → -9223372036854775808 ≤ a → a ≤ 9223372036854775807 → Calls Tryd.prog 17 #[.agg (polC p), .int .i64 a, .agg #[.int .u16 (x : Int), .int .u16 (y : Int)]] w fun e w' => e = .returned (.int .u16 (capsN p a x y : Nat)) ∧ Below w.heap.size w w'
def POwnedC : Prop := ∀ (p : Pol) (R : Nat) (w : World), PolOk p → fineP p = true → R < 65536 → Calls Tryd.prog 19 #[.agg (polC p), .int .u16 (R : Int)] w fun e w' => e = .returned (.int .u16 (ownedN p R : Nat)) ∧ Below w.heap.size w w'
def PBytesC : Prop := ∀ (p : Pol) (w : World), PolOk p → fineP p = true → Calls Tryd.prog 26 #[.agg (polC p)] w fun e w' => ∃ v, e = .returned v ∧ w'.ownsRow w.heap.size 5 1 v (bytesP p).length (bvs (bytesP p)) ∧ Below w.heap.size w w'
def PReadC : Prop := ∀ (b : Nat) (t : TypeId) (g : Nat) (s : WSt) (w : World), TabOk w → RAt w b t g s → g ≠ b → s.1.length ≤ 1000000 → Fit s → Calls Tryd.prog 28 #[.pointer (some ⟨b, 0, none⟩)] w fun e w' => e = .returned (.agg (polC (rdPo s))) ∧ RTo w b t g (rdE s) w'
def PAliveC : Prop := ∀ (w : World), TabOk w → Calls Tryd.prog 21 #[] w fun e w' => e = .returned (.bool true) ∧ Below w.heap.size w w'
/-! Of policies that may be, only. -/
def PFineYC : Prop := ∀ (p : Pol) (w : World), TabOk w → PolOk p → fineP p = true → Calls Tryd.prog 8 #[.agg (polC p)] w fun e w' => e = .returned (.bool true) ∧ Below w.heap.size w w'
def PReadYC : Prop := ∀ (b : Nat) (t : TypeId) (g : Nat) (s : WSt) (w : World), TabOk w → fineP (rdT s 16).1 = true → RAt w b t g s → g ≠ b → s.1.length ≤ 1000000 → Fit s → Calls Tryd.prog 28 #[.pointer (some ⟨b, 0, none⟩)] w fun e w' => e = .returned (.agg (polC (rdPo s))) ∧ RTo w b t g (rdE s) w'
theorem PFineC.yes (h : PFineC) : PFineYC := fun p w hT hp hf => by
  have h1 := h p w hT hp
  rw [hf] at h1
  exact h1
theorem PReadC.yes (h : PReadC) : PReadYC := fun b t g s w hT _ => h b t g s w hT
end Go.Proofs.YtoieodlpoglmfaaDoor

/-! LawPTells -/
namespace Go.Proofs.YtoieodlpoglmfaaDoor
open Go.RowKit

/-! A policy, two roles, a label and some roles, as one struct. -/
def askT (a b : Int) (lx ly R : Nat) : Array Value := #[.int .i64 a, .int .i64 b, .int .u16 (lx : Int), .int .u16 (ly : Int), .int .u16 (R : Int)]
def askC (p : Pol) (a b : Int) (lx ly R : Nat) : Array Value := polC p ++ askT a b lx ly R
theorem ask_pol (p : Pol) (a b : Int) (lx ly R : Nat) : ∀ i, i < (polC p).size → (askC p a b lx ly R)[0 + i]? = (polC p)[i]? := by
  intro i hi
  unfold askC
  rw [Nat.zero_add, Array.getElem?_append_left hi]
theorem ask_tail (p : Pol) (a b : Int) (lx ly R k : Nat) : (askC p a b lx ly R)[66 + k]? = (askT a b lx ly R)[k]? := by
  unfold askC
  rw [Array.getElem?_append_right (by rw [polC_size]; omega), polC_size]
  congr 1; omega
def labC (lx ly : Nat) : Array Value := #[.int .u16 (lx : Int), .int .u16 (ly : Int)]
theorem ask_lab (p : Pol) (a b : Int) (lx ly R : Nat) : ∀ i, i < (labC lx ly).size → (askC p a b lx ly R)[68 + i]? = (labC lx ly)[i]? := by
  intro i hi
  have hi2 : i < 2 := hi
  rw [show 68 + i = 66 + (2 + i) by omega, ask_tail]
  rcases i with _ | _ | i
  · rfl
  · rfl
  · omega
def polO (p : Pol) : Obj := .cells (polC p) 29
def labO (lx ly : Nat) : Obj := .cells (labC lx ly) 24
theorem infoLabC (lx ly : Nat) : (Tryd.prog.info? 24).map (·.size) = some (labC lx ly).size := by show _ = some 2; kernel_rfl
theorem labC_one (lx ly : Nat) : (labC lx ly).all (·.oneCell') = true := by simp [labC, Value.oneCell']
theorem leads_alloc_pol {o : Oper} {a : Act} {w : World} (ho : o.op = .alloc 29) : leads Tryd.prog o a w (fun u V' => u = .pointer (some ⟨w.heap.size, 0, none⟩) ∧ Below w.heap.size w V' ∧ w.heap.size < V'.heap.size ∧ V'.heap[w.heap.size]? = some (polO zeroP)) := by
  refine leads_value (v := .pointer (some ⟨w.heap.size, 0, none⟩)) (w' := w.alloc (polO zeroP)) ?_ ⟨rfl, belowNew w _, by simp, PRow.new w zeroP⟩
  unfold execOp
  rw [ho]
  kernel_rfl
theorem leads_alloc_lab {o : Oper} {a : Act} {w : World} (ho : o.op = .alloc 24) : leads Tryd.prog o a w (fun u V' => u = .pointer (some ⟨w.heap.size, 0, none⟩) ∧ Below w.heap.size w V' ∧ w.heap.size < V'.heap.size ∧ V'.heap[w.heap.size]? = some (labO 0 0)) := by
  refine leads_value (v := .pointer (some ⟨w.heap.size, 0, none⟩)) (w' := w.alloc (labO 0 0)) ?_ ⟨rfl, belowNew w _, by simp, Blk.new w _ _⟩
  unfold execOp
  rw [ho]
  kernel_rfl
/-- What the law asks, its policy and its label: memory of the law's own. -/
structure TPW (w : World) (bx b1 b2 : Nat) (A : Array Value) (p : Pol) (lx ly : Nat) (V : World) : Prop where
  all : Below w.heap.size w V
  ask : Blk V bx A 31
  row : PRow V b1 p
  lab : Blk V b2 (labC lx ly) 24
theorem TPW.step {w : World} {bx b1 b2 : Nat} {A : Array Value} {p : Pol} {lx ly : Nat} {V V' : World} (h : TPW w bx b1 b2 A p lx ly V) (hB : Below V.heap.size V V') : TPW w bx b1 b2 A p lx ly V' :=
  ⟨h.all.trans (hB.mono h.all.size), h.ask.below hB h.ask.lt, h.row.step hB, h.lab.below hB h.lab.lt⟩
set_option maxRecDepth 100000 in
set_option maxHeartbeats 1600000 in
theorem ptells_any (cF : PFineC) (cI : PFirstC) (cS : PSeenC) (cA : PActsC) (cC : PCapsC) (cO : POwnedC) (hA : PAliveC) (p : Pol) (a b : Int) (lx ly R : Nat) (w : World) (hT : TabOk w) (hp : PolOk p) (hx : lx < 65536) (hy : ly < 65536) (hR : R < 65536) (ha1 : -9223372036854775808 ≤ a) (ha2 : a ≤ 9223372036854775807) (hb1 : -9223372036854775808 ≤ b) (hb2 : b ≤ 9223372036854775807) :
    Calls Tryd.prog 3 #[.agg (askC p a b lx ly R)] w fun e w' => e = .returned (.bool true) ∧ Below w.heap.size w w' := by
  have hmo := mendN_ok hp
  have hmf := mend_fine hp
  have HF0 := Lib.hid (fun V (hV : Since w V) => cF p V (hT.since hV) hp)
  have HRF := Lib.hid (fun V => rpFine_any p V hp)
  have HI := Lib.hid cI
  have HRI := Lib.hid rpFirst_any
  have HMe := Lib.hid (fun V => rpMend_any p V hp)
  have HF := Lib.hid (fun V (hV : Since w V) => cF _ V (hT.since hV) hmo)
  rw [hmf] at HF
  have HS := Lib.hid (fun V => cS _ lx ly V hmo hmf hx hy)
  have HRS := Lib.hid (fun V => rpSeen_any (mendN p) lx ly V hmo hx hy)
  have HA1 := Lib.hid (fun V (hV : Since w V) => cA _ a b lx ly V (hT.since hV) hmo hmf hx hy ha1 ha2 hb1 hb2)
  have HRA := Lib.hid (fun V => rpActs_any (mendN p) a b lx ly V hmo hx hy)
  have HC := Lib.hid (fun V (hV : Since w V) => cC _ a lx ly V (hT.since hV) hmo hmf hx hy ha1 ha2)
  have HRC := Lib.hid (fun V => rpCaps_any (mendN p) a lx ly V hmo hx hy)
  have HO := Lib.hid (fun V => cO _ R V hmo hmf hR)
  have HRO := Lib.hid (fun V => rpOwned_any (mendN p) R V hmo hR)
  have HAl := Lib.hid (fun V (hV : Since w V) => hA V (hT.since hV))
  have T1 := Lib.hid (show Blk (w.alloc (.cells (askC p a b lx ly R) 31)) w.heap.size (askC p a b lx ly R) 31 from Blk.new w _ _)
  have HB1 := Lib.hid (belowNew w (.cells (askC p a b lx ly R) 31))
  have HTp := Lib.hid (ask_pol p a b lx ly R)
  have HTl := Lib.hid (ask_lab p a b lx ly R)
  have HTt := Lib.hid (ask_tail p a b lx ly R)
  clear cF cI cS cA cC cO hA hT hp hx hy hmo hmf hR
  generalize seenN (mendN p) lx ly = S at *
  generalize capsN (mendN p) a lx ly = cs at *
  generalize actsB (mendN p) a b lx ly = ab at *
  generalize ownedN (mendN p) R = ow at *
  generalize mendN p = m at *
  generalize fineP p = fb at *
  generalize askC p a b lx ly R = A at *
  go_enter Tryd.func3, Tryd.ntmps3
  go_upto_region 1 with fail
  generalize w.alloc (.cells A 31) = w1 at *
  obtain ⟨bx, hbx⟩ : ∃ bx, bx = w.heap.size := ⟨_, rfl⟩
  rw [← hbx] at T1 ⊢
  clear hbx
  have T0 := Lib.hid (T1.out.below (Below.refl w1.heap.size w1).drew T1.out.lt)
  refine wp_region_M [.val (.pointer (some ⟨bx, 0, none⟩)), .val (.agg (polC p)), .val (.pointer (some ⟨bx, 66, none⟩)), .val (.int .i64 a), .val (.pointer (some ⟨bx, 67, none⟩)), .val (.int .i64 b), .val (.pointer (some ⟨bx, 68, none⟩)), .val (.agg #[.int .u16 (lx : Int), .int .u16 (ly : Int)]), .mk (polO zeroP) 10 (polO p), .mk (labO 0 0) 13 (labO lx ly), .st 8, .val (.int .i64 a), .val (.int .i64 b), .st 9]
    (fun x => { tmps := #[.agg A, .pointer (some ⟨bx, 0, none⟩), .bool false, x 8, x 11, x 12, x 9, x 0, x 1, x 2, x 3, x 4, x 5, x 6, x 7, undef, undef, undef, undef, undef, undef, undef, undef, undef, undef, undef, undef, undef, undef, undef, undef, undef, undef, undef, undef, undef, undef, undef, undef, undef, undef, undef, undef, undef, undef, undef, undef, undef, undef, undef, undef, undef, undef, undef, undef, undef, undef, undef, undef, undef, undef, undef, undef, undef, undef, undef, undef, undef, undef, undef, undef, undef, undef, undef, undef, undef], defers := [] }) (fun _ => undef) (by kernel_rfl) rfl rfl rfl (by kernel_rfl) ?_ ?_
  · refine ⟨ObM.of_val rfl (fun x v => rfl) (fun x V hC hD => ?_), ?_⟩
    · clear hD
      have hH := T0.out.below hC T0.out.lt
      refine want_yes rfl ?_
      exact leads_value (v := .pointer (some ⟨bx, 0, none⟩)) (by go_simp) ⟨rfl, Below.refl _ _⟩
    refine ⟨ObM.of_val rfl (fun x v => rfl) (fun x V hC hD => ?_), ?_⟩
    · have e0 : x 0 = .pointer (some ⟨bx, 0, none⟩) := hD.1 _ rfl rfl
      clear hD
      have hH := T0.out.below hC T0.out.lt
      refine want_yes rfl ?_
      exact leads_value (exec_load_mid2 rfl e0 hH HTp.out Tryd.underlying29 rfl (infoPol _)) ⟨rfl, Below.refl _ _⟩
    refine ⟨ObM.of_val rfl (fun x v => rfl) (fun x V hC hD => ?_), ?_⟩
    · clear hD
      have hH := T0.out.below hC T0.out.lt
      refine want_yes rfl ?_
      exact leads_value (v := .pointer (some ⟨bx, 66, none⟩)) (by go_simp) ⟨rfl, Below.refl _ _⟩
    refine ⟨ObM.of_val rfl (fun x v => rfl) (fun x V hC hD => ?_), ?_⟩
    · have e2 : x 2 = .pointer (some ⟨bx, 66, none⟩) := hD.1 _ rfl rfl
      clear hD
      have hH := T0.out.below hC T0.out.lt
      refine want_yes rfl ?_
      have k0 := ((hH.cell 66).trans (HTt.out 0)).trans (show _ = some (.int .i64 a) from rfl)
      exact leads_value (v := .int .i64 a) (by go_simp) ⟨rfl, Below.refl _ _⟩
    refine ⟨ObM.of_val rfl (fun x v => rfl) (fun x V hC hD => ?_), ?_⟩
    · clear hD
      have hH := T0.out.below hC T0.out.lt
      refine want_yes rfl ?_
      exact leads_value (v := .pointer (some ⟨bx, 67, none⟩)) (by go_simp) ⟨rfl, Below.refl _ _⟩
    refine ⟨ObM.of_val rfl (fun x v => rfl) (fun x V hC hD => ?_), ?_⟩
    · have e4 : x 4 = .pointer (some ⟨bx, 67, none⟩) := hD.1 _ rfl rfl
      clear hD
      have hH := T0.out.below hC T0.out.lt
      refine want_yes rfl ?_
      have k0 := ((hH.cell 67).trans (HTt.out 1)).trans (show _ = some (.int .i64 b) from rfl)
      exact leads_value (v := .int .i64 b) (by go_simp) ⟨rfl, Below.refl _ _⟩
    refine ⟨ObM.of_val rfl (fun x v => rfl) (fun x V hC hD => ?_), ?_⟩
    · clear hD
      have hH := T0.out.below hC T0.out.lt
      refine want_yes rfl ?_
      exact leads_value (v := .pointer (some ⟨bx, 68, none⟩)) (by go_simp) ⟨rfl, Below.refl _ _⟩
    refine ⟨ObM.of_val rfl (fun x v => rfl) (fun x V hC hD => ?_), ?_⟩
    · have e6 : x 6 = .pointer (some ⟨bx, 68, none⟩) := hD.1 _ rfl rfl
      clear hD
      have hH := T0.out.below hC T0.out.lt
      refine want_yes rfl ?_
      exact leads_value (exec_load_mid2 (new := labC lx ly) rfl e6 hH HTl.out Tryd.underlying24 rfl (infoLabC _ _)) ⟨rfl, Below.refl _ _⟩
    refine ⟨ObM.of_mk rfl (fun x v => rfl) rfl (fun x V => ?_), ?_⟩
    · exact leads_alloc_pol rfl
    refine ⟨ObM.of_mk rfl (fun x v => rfl) rfl (fun x V => ?_), ?_⟩
    · exact leads_alloc_lab rfl
    refine ⟨ObM.of_st rfl rfl (fun x v => rfl) rfl (by kernel_rfl) (fun x V gb hC hx hg hD => ?_), ?_⟩
    · have e1 : x 1 = .agg (polC p) := hD.2.1 _ rfl rfl
      have e0 : x 0 = .pointer (some ⟨bx, 0, none⟩) := hD.2.2.1 _ rfl rfl
      clear hD
      have hH := T0.out.below hC T0.out.lt
      exact leads_store_row rfl hx e1 hg (infoPol _) (by rw [polC_size, polC_size]) (polC_one _)
    refine ⟨ObM.of_val rfl (fun x v => rfl) (fun x V hC hD => ?_), ?_⟩
    · have e3 : x 3 = .int .i64 a := hD.1 _ rfl rfl
      have e0 : x 0 = .pointer (some ⟨bx, 0, none⟩) := hD.2.2.1 _ rfl rfl
      have e1 : x 1 = .agg (polC p) := hD.2.2.2.1 _ rfl rfl
      have e2 : x 2 = .pointer (some ⟨bx, 66, none⟩) := hD.2.2.2.2.1 _ rfl rfl
      clear hD
      have hH := T0.out.below hC T0.out.lt
      refine want_yes rfl ?_
      exact leads_value (v := .int .i64 a) (by go_simp) ⟨rfl, Below.refl _ _⟩
    refine ⟨ObM.of_val rfl (fun x v => rfl) (fun x V hC hD => ?_), ?_⟩
    · have e5 : x 5 = .int .i64 b := hD.1 _ rfl rfl
      have e11 : x 11 = .int .i64 a := hD.2.1 _ rfl rfl
      have e0 : x 0 = .pointer (some ⟨bx, 0, none⟩) := hD.2.2.1 _ rfl rfl
      have e1 : x 1 = .agg (polC p) := hD.2.2.2.1 _ rfl rfl
      have e2 : x 2 = .pointer (some ⟨bx, 66, none⟩) := hD.2.2.2.2.1 _ rfl rfl
      have e3 : x 3 = .int .i64 a := hD.2.2.2.2.2.1 _ rfl rfl
      have e4 : x 4 = .pointer (some ⟨bx, 67, none⟩) := hD.2.2.2.2.2.2.1 _ rfl rfl
      clear hD
      have hH := T0.out.below hC T0.out.lt
      refine want_yes rfl ?_
      exact leads_value (v := .int .i64 b) (by go_simp) ⟨rfl, Below.refl _ _⟩
    refine ⟨ObM.of_st rfl rfl (fun x v => rfl) rfl (by kernel_rfl) (fun x V gb hC hx hg hD => ?_), ?_⟩
    · have e7 : x 7 = .agg #[.int .u16 (lx : Int), .int .u16 (ly : Int)] := hD.2.1 _ rfl rfl
      have e12 : x 12 = .int .i64 b := hD.2.2.1 _ rfl rfl
      have e0 : x 0 = .pointer (some ⟨bx, 0, none⟩) := hD.2.2.2.1 _ rfl rfl
      have e1 : x 1 = .agg (polC p) := hD.2.2.2.2.1 _ rfl rfl
      have e2 : x 2 = .pointer (some ⟨bx, 66, none⟩) := hD.2.2.2.2.2.1 _ rfl rfl
      have e3 : x 3 = .int .i64 a := hD.2.2.2.2.2.2.1 _ rfl rfl
      have e4 : x 4 = .pointer (some ⟨bx, 67, none⟩) := hD.2.2.2.2.2.2.2.1 _ rfl rfl
      have e5 : x 5 = .int .i64 b := hD.2.2.2.2.2.2.2.2.1 _ rfl rfl
      have e6 : x 6 = .pointer (some ⟨bx, 68, none⟩) := hD.2.2.2.2.2.2.2.2.2.1 _ rfl rfl
      have e11 : x 11 = .int .i64 a := hD.2.2.2.2.2.2.2.2.2.2.2.2.2.2.1 _ rfl rfl
      clear hD
      have hH := T0.out.below hC T0.out.lt
      exact leads_store_row (new := labC lx ly) rfl hx e7 hg (infoLabC _ _) rfl (labC_one _ _)
    trivial
  · intro x V hF
    obtain ⟨hx0, hx1, hx2⟩ := hF.made 8 _ _ _ (by simp) rfl rfl
    obtain ⟨hy0, hy1, hy2⟩ := hF.made 9 _ _ _ (by simp) rfl rfl
    have h11 : x 11 = .int .i64 a := hF.val 11 _ (by simp) rfl rfl
    have h12 : x 12 = .int .i64 b := hF.val 12 _ (by simp) rfl rfl
    have hne := hF.apart 8 9 _ _ _ _ _ _ (by simp) (by simp) rfl rfl rfl rfl (by decide)
    have hsz : w.heap.size ≤ w1.drew.heap.size := HB1.out.size
    have HL := Lib.hid (show TPW w bx (blkOf (x 8)) (blkOf (x 9)) A p lx ly V from ⟨(HB1.out.drew).trans (hF.below.mono hsz), T0.out.below hF.below T0.out.lt, hx2, hy2⟩)
    have HG1 := Lib.hid (And.intro (Nat.le_trans hsz hx0) (And.intro (Nat.ne_of_gt (Nat.lt_of_lt_of_le T0.out.lt hx0)) hne))
    clear hF hx2 hy2 hne hx0 hy0 hsz T0 T1 HTp HTl HB1
    generalize blkOf (x 8) = b1 at *
    generalize blkOf (x 9) = b2 at *
    rw [hx1, hy1, h11, h12]
    clear hx1 hy1 h11 h12
    generalize x 0 = y7
    generalize x 1 = y8
    generalize x 2 = y9
    generalize x 3 = y10
    generalize x 4 = y11
    generalize x 5 = y12
    generalize x 6 = y13
    generalize x 7 = y14
    go_upto_region 2 with fail
    refine wp_region_S (fun _ V => TPW w bx b1 b2 A p lx ly V) 0 [.val (.agg (polC p)), .val (.bool fb), .val (.agg (polC p)), .val (.bool fb), .val (.bool false), .val (.bool false), .val (.agg (polC firstP)), .val (.agg (polC firstP)), .val (.bool false), .val (.bool false)]
      (fun x => { tmps := #[.agg A, .pointer (some ⟨bx, 0, none⟩), .bool false, .pointer (some ⟨b1, 0, none⟩), .int .i64 a, .int .i64 b, .pointer (some ⟨b2, 0, none⟩), y7, y8, y9, y10, y11, y12, y13, y14, x 0, x 1, x 2, x 3, x 4, x 5, x 6, x 7, x 8, x 9, undef, undef, undef, undef, undef, undef, undef, undef, undef, undef, undef, undef, undef, undef, undef, undef, undef, undef, undef, undef, undef, undef, undef, undef, undef, undef, undef, undef, undef, undef, undef, undef, undef, undef, undef, undef, undef, undef, undef, undef, undef, undef, undef, undef, undef, undef, undef, undef, undef, undef, undef], defers := [] }) (fun i => ([undef, undef, undef, undef, undef, undef, undef, undef, undef, undef] : List Value).getD i undef) (by kernel_rfl) rfl rfl (by kernel_rfl) (by kernel_rfl) (by kernel_rfl) (by kernel_rfl) (HL.out.step (Below.refl _ _).drew) ?_ ?_
    · refine ⟨ObS.of_val rfl (fun x v => rfl) (fun x V kst hC hD => ?_), ?_⟩
      · clear hD
        refine want_yes rfl ?_
        exact leads_value (exec_load_pol rfl rfl hC.row) ⟨rfl, hC⟩
      refine ⟨ObS.of_val rfl (fun x v => rfl) (fun x V kst hC hD => ?_), ?_⟩
      · have e0 : x 0 = .agg (polC p) := hD.1 rfl
        clear hD
        refine want_yes rfl ?_
        exact leads_enter2 (by go_simp) ((HF0.out V hC.all).mono fun e w'' ⟨he, hB⟩ => ⟨_, he, rfl, hC.step hB⟩)
      refine ⟨ObS.of_val rfl (fun x v => rfl) (fun x V kst hC hD => ?_), ?_⟩
      · clear hD
        refine want_yes rfl ?_
        exact leads_value (exec_load_pol rfl rfl hC.row) ⟨rfl, hC⟩
      refine ⟨ObS.of_val rfl (fun x v => rfl) (fun x V kst hC hD => ?_), ?_⟩
      · have e2 : x 2 = .agg (polC p) := hD.1 rfl
        have e1 : x 1 = .bool fb := hD.2.1 rfl
        clear hD
        refine want_yes rfl ?_
        exact leads_enter2 (by go_simp) ((HRF.out V).mono fun e w'' ⟨he, hB⟩ => ⟨_, he, rfl, hC.step hB⟩)
      refine ⟨ObS.of_val rfl (fun x v => rfl) (fun x V kst hC hD => ?_), ?_⟩
      · have e1 : x 1 = .bool fb := hD.1 rfl
        have e3 : x 3 = .bool fb := hD.2.1 rfl
        clear hD
        refine want_yes rfl ?_
        exact leads_value (v := .bool false) (by go_simp) ⟨rfl, hC⟩
      refine ⟨ObS.of_val rfl (fun x v => rfl) (fun x V kst hC hD => ?_), ?_⟩
      · have e4 : x 4 = .bool false := hD.1 rfl
        have e3 : x 3 = .bool fb := hD.2.1 rfl
        clear hD
        refine want_yes rfl ?_
        exact leads_value (v := .bool false) (by go_simp) ⟨rfl, hC⟩
      refine ⟨ObS.of_val rfl (fun x v => rfl) (fun x V kst hC hD => ?_), ?_⟩
      · have e5 : x 5 = .bool false := hD.1 rfl
        clear hD
        refine want_yes (by simp [Region.wanted, yielded, e5]) ?_
        exact leads_enter2 (by go_simp) ((HI.out V).mono fun e w'' ⟨he, hB⟩ => ⟨_, he, rfl, hC.step hB⟩)
      refine ⟨ObS.of_val rfl (fun x v => rfl) (fun x V kst hC hD => ?_), ?_⟩
      · have e6 : x 6 = .agg (polC firstP) := hD.1 rfl
        have e5 : x 5 = .bool false := hD.2.1 rfl
        clear hD
        refine want_yes (by simp [Region.wanted, yielded, e5]) ?_
        exact leads_enter2 (by go_simp) ((HRI.out V).mono fun e w'' ⟨he, hB⟩ => ⟨_, he, rfl, hC.step hB⟩)
      refine ⟨ObS.of_val rfl (fun x v => rfl) (fun x V kst hC hD => ?_), ?_⟩
      · have e6 : x 6 = .agg (polC firstP) := hD.1 rfl
        have e7 : x 7 = .agg (polC firstP) := hD.2.1 rfl
        have e5 : x 5 = .bool false := hD.2.2.1 rfl
        clear hD
        refine want_yes (by simp [Region.wanted, yielded, e5]) ?_
        exact leads_value (exec_neq_pol firstP_ok rfl e6 e7) ⟨rfl, hC⟩
      refine ⟨ObS.of_val rfl (fun x v => rfl) (fun x V kst hC hD => ?_), ?_⟩
      · have e5 : x 5 = .bool false := hD.1 rfl
        have e8 : x 8 = .bool false := hD.2.1 rfl
        clear hD
        refine want_yes rfl ?_
        exact leads_value (v := .bool false) (by go_simp) ⟨rfl, hC⟩
      trivial
    · intro xa V2 hC hx
      have e9 : xa 9 = .bool false := hx 9 (by simp)
      have HL2 := Lib.hid (show TPW w bx b1 b2 A p lx ly V2 from hC)
      clear hx hC HL HF0 HRF HI HRI
      rw [e9]
      clear e9
      generalize xa 0 = z15
      generalize xa 1 = z16
      generalize xa 2 = z17
      generalize xa 3 = z18
      generalize xa 4 = z19
      generalize xa 5 = z20
      generalize xa 6 = z21
      generalize xa 7 = z22
      generalize xa 8 = z23
      have hrow := HL2.out.row
      go_wp2_with (refine wpList_load_arr rfl _ _ rfl rfl hrow Tryd.underlying29 rfl (infoPol _) ?_)
      refine (HMe.out _).mono ?_
      rintro e w2 ⟨rfl, hB2⟩
      have HL3 := Lib.hid (HL2.out.step hB2)
      have hrow2 := HL3.out.row
      clear hB2 hrow HL2 HMe
      go_upto_region 5 with (refine wpList_store_arr rfl rfl _ _ _ rfl rfl rfl hrow2 (infoPol _) (by rw [polC_size, polC_size]) (polC_one _) ?_; intro w3 hw3)
      have HL4 := Lib.hid (show TPW w bx b1 b2 A m lx ly w3 from ⟨HL3.out.all.trans (hw3.below HL3.out.all.size HG1.out.1), hw3.chg.kept HL3.out.ask (fun h => HG1.out.2.1 h.symm), hw3.blk, hw3.chg.kept HL3.out.lab (fun h => HG1.out.2.2 h.symm)⟩)
      clear hw3 hrow2 HL3 HG1
      refine wp_region_S (fun _ V => TPW w bx b1 b2 A m lx ly V) 0 [.val (.agg (polC m)), .val (.bool true), .val (.bool true), .val (.agg (polC m)), .val (.agg #[.int .u16 (lx : Int), .int .u16 (ly : Int)]), .val (.int .u16 (S : Int)), .val (.agg (polC m)), .val (.agg #[.int .u16 (lx : Int), .int .u16 (ly : Int)]), .val (.int .u16 (S : Int)), .val (.bool true), .val (.bool true), .val (.bool true), .val (.agg (polC m)), .val (.int .i64 a), .val (.int .i64 b), .val (.agg #[.int .u16 (lx : Int), .int .u16 (ly : Int)]), .val (.bool ab), .val (.agg (polC m)), .val (.int .i64 a), .val (.int .i64 b), .val (.agg #[.int .u16 (lx : Int), .int .u16 (ly : Int)]), .val (.bool ab), .val (.bool true), .val (.bool true), .val (.bool true), .val (.agg (polC m)), .val (.int .i64 a), .val (.agg #[.int .u16 (lx : Int), .int .u16 (ly : Int)]), .val (.int .u16 (cs : Int)), .val (.agg (polC m)), .val (.int .i64 a), .val (.agg #[.int .u16 (lx : Int), .int .u16 (ly : Int)]), .val (.int .u16 (cs : Int)), .val (.bool true), .val (.bool true), .val (.bool true), .val (.agg (polC m)), .val (.pointer (some ⟨bx, 70, none⟩)), .val (.int .u16 (R : Int)), .val (.int .u16 (ow : Int)), .val (.agg (polC m)), .val (.pointer (some ⟨bx, 70, none⟩)), .val (.int .u16 (R : Int)), .val (.int .u16 (ow : Int)), .val (.bool true), .val (.bool true), .val (.bool true), .val (.bool true), .val (.bool true), .val (.bool true)]
        (fun x => { tmps := #[.agg A, .pointer (some ⟨bx, 0, none⟩), x 49, .pointer (some ⟨b1, 0, none⟩), .int .i64 a, .int .i64 b, .pointer (some ⟨b2, 0, none⟩), y7, y8, y9, y10, y11, y12, y13, y14, z15, z16, z17, z18, z19, z20, z21, z22, z23, .bool false, .agg (polC p), .agg (polC m), x 0, x 1, x 2, x 3, x 4, x 5, x 6, x 7, x 8, x 9, x 10, x 11, x 12, x 13, x 14, x 15, x 16, x 17, x 18, x 19, x 20, x 21, x 22, x 23, x 24, x 25, x 26, x 27, x 28, x 29, x 30, x 31, x 32, x 33, x 34, x 35, x 36, x 37, x 38, x 39, x 40, x 41, x 42, x 43, x 44, x 45, x 46, x 47, x 48], defers := [] }) (fun i => ([undef, undef, undef, undef, undef, undef, undef, undef, undef, undef, undef, undef, undef, undef, undef, undef, undef, undef, undef, undef, undef, undef, undef, undef, undef, undef, undef, undef, undef, undef, undef, undef, undef, undef, undef, undef, undef, undef, undef, undef, undef, undef, undef, undef, undef, undef, undef, undef, undef, .bool false] : List Value).getD i undef) (by kernel_rfl) rfl rfl (by kernel_rfl) (by kernel_rfl) (by kernel_rfl) (by kernel_rfl) (HL4.out.step (Below.refl _ _).drew) ?_ ?_
      · refine ⟨ObS.of_val rfl (fun x v => rfl) (fun x V kst hC hD => ?_), ?_⟩
        · clear hD
          refine want_yes rfl ?_
          exact leads_value (exec_load_pol rfl rfl hC.row) ⟨rfl, hC⟩
        refine ⟨ObS.of_val rfl (fun x v => rfl) (fun x V kst hC hD => ?_), ?_⟩
        · have e0 : x 0 = .agg (polC m) := hD.1 rfl
          clear hD
          refine want_yes rfl ?_
          exact leads_enter2 (by go_simp) ((HF.out V hC.all).mono fun e w'' ⟨he, hB⟩ => ⟨_, he, rfl, hC.step hB⟩)
        refine ⟨ObS.of_val rfl (fun x v => rfl) (fun x V kst hC hD => ?_), ?_⟩
        · have e1 : x 1 = .bool true := hD.1 rfl
          clear hD
          refine want_yes rfl ?_
          exact leads_value (v := .bool true) (by go_simp) ⟨rfl, hC⟩
        refine ⟨ObS.of_val rfl (fun x v => rfl) (fun x V kst hC hD => ?_), ?_⟩
        · have e2 : x 2 = .bool true := hD.1 rfl
          clear hD
          refine want_yes (by simp [Region.wanted, yielded, e2]) ?_
          exact leads_value (exec_load_pol rfl rfl hC.row) ⟨rfl, hC⟩
        refine ⟨ObS.of_val rfl (fun x v => rfl) (fun x V kst hC hD => ?_), ?_⟩
        · have e2 : x 2 = .bool true := hD.1 rfl
          clear hD
          refine want_yes (by simp [Region.wanted, yielded, e2]) ?_
          exact leads_value (exec_load_mid2 (new := labC lx ly) (off := 0) rfl rfl hC.lab (fun i _ => by rw [Nat.zero_add]) Tryd.underlying24 rfl (infoLabC _ _)) ⟨rfl, hC⟩
        refine ⟨ObS.of_val rfl (fun x v => rfl) (fun x V kst hC hD => ?_), ?_⟩
        · have e3 : x 3 = .agg (polC m) := hD.1 rfl
          have e4 : x 4 = .agg #[.int .u16 (lx : Int), .int .u16 (ly : Int)] := hD.2.1 rfl
          have e2 : x 2 = .bool true := hD.2.2.1 rfl
          clear hD
          refine want_yes (by simp [Region.wanted, yielded, e2]) ?_
          exact leads_enter2 (by go_simp) ((HS.out V).mono fun e w'' ⟨he, hB⟩ => ⟨_, he, rfl, hC.step hB⟩)
        refine ⟨ObS.of_val rfl (fun x v => rfl) (fun x V kst hC hD => ?_), ?_⟩
        · have e2 : x 2 = .bool true := hD.1 rfl
          clear hD
          refine want_yes (by simp [Region.wanted, yielded, e2]) ?_
          exact leads_value (exec_load_pol rfl rfl hC.row) ⟨rfl, hC⟩
        refine ⟨ObS.of_val rfl (fun x v => rfl) (fun x V kst hC hD => ?_), ?_⟩
        · have e2 : x 2 = .bool true := hD.1 rfl
          clear hD
          refine want_yes (by simp [Region.wanted, yielded, e2]) ?_
          exact leads_value (exec_load_mid2 (new := labC lx ly) (off := 0) rfl rfl hC.lab (fun i _ => by rw [Nat.zero_add]) Tryd.underlying24 rfl (infoLabC _ _)) ⟨rfl, hC⟩
        refine ⟨ObS.of_val rfl (fun x v => rfl) (fun x V kst hC hD => ?_), ?_⟩
        · have e6 : x 6 = .agg (polC m) := hD.1 rfl
          have e7 : x 7 = .agg #[.int .u16 (lx : Int), .int .u16 (ly : Int)] := hD.2.1 rfl
          have e5 : x 5 = .int .u16 (S : Int) := hD.2.2.1 rfl
          have e2 : x 2 = .bool true := hD.2.2.2.1 rfl
          clear hD
          refine want_yes (by simp [Region.wanted, yielded, e2]) ?_
          exact leads_enter2 (by go_simp) ((HRS.out V).mono fun e w'' ⟨he, hB⟩ => ⟨_, he, rfl, hC.step hB⟩)
        refine ⟨ObS.of_val rfl (fun x v => rfl) (fun x V kst hC hD => ?_), ?_⟩
        · have e5 : x 5 = .int .u16 (S : Int) := hD.1 rfl
          have e8 : x 8 = .int .u16 (S : Int) := hD.2.1 rfl
          have e2 : x 2 = .bool true := hD.2.2.1 rfl
          clear hD
          refine want_yes (by simp [Region.wanted, yielded, e2]) ?_
          exact leads_value (v := .bool true) (by go_simp) ⟨rfl, hC⟩
        refine ⟨ObS.of_val rfl (fun x v => rfl) (fun x V kst hC hD => ?_), ?_⟩
        · have e2 : x 2 = .bool true := hD.1 rfl
          have e9 : x 9 = .bool true := hD.2.1 rfl
          clear hD
          refine want_yes rfl ?_
          exact leads_value (v := .bool true) (by go_simp) ⟨rfl, hC⟩
        refine ⟨ObS.of_val rfl (fun x v => rfl) (fun x V kst hC hD => ?_), ?_⟩
        · have e10 : x 10 = .bool true := hD.1 rfl
          have e8 : x 8 = .int .u16 (S : Int) := hD.2.1 rfl
          clear hD
          refine want_yes rfl ?_
          exact leads_value (v := .bool true) (by go_simp) ⟨rfl, hC⟩
        refine ⟨ObS.of_val rfl (fun x v => rfl) (fun x V kst hC hD => ?_), ?_⟩
        · have e11 : x 11 = .bool true := hD.1 rfl
          clear hD
          refine want_yes (by simp [Region.wanted, yielded, e11]) ?_
          exact leads_value (exec_load_pol rfl rfl hC.row) ⟨rfl, hC⟩
        refine ⟨ObS.of_val rfl (fun x v => rfl) (fun x V kst hC hD => ?_), ?_⟩
        · have e11 : x 11 = .bool true := hD.1 rfl
          clear hD
          refine want_yes (by simp [Region.wanted, yielded, e11]) ?_
          exact leads_value (v := .int .i64 a) (by go_simp) ⟨rfl, hC⟩
        refine ⟨ObS.of_val rfl (fun x v => rfl) (fun x V kst hC hD => ?_), ?_⟩
        · have e11 : x 11 = .bool true := hD.1 rfl
          clear hD
          refine want_yes (by simp [Region.wanted, yielded, e11]) ?_
          exact leads_value (v := .int .i64 b) (by go_simp) ⟨rfl, hC⟩
        refine ⟨ObS.of_val rfl (fun x v => rfl) (fun x V kst hC hD => ?_), ?_⟩
        · have e11 : x 11 = .bool true := hD.1 rfl
          clear hD
          refine want_yes (by simp [Region.wanted, yielded, e11]) ?_
          exact leads_value (exec_load_mid2 (new := labC lx ly) (off := 0) rfl rfl hC.lab (fun i _ => by rw [Nat.zero_add]) Tryd.underlying24 rfl (infoLabC _ _)) ⟨rfl, hC⟩
        refine ⟨ObS.of_val rfl (fun x v => rfl) (fun x V kst hC hD => ?_), ?_⟩
        · have e12 : x 12 = .agg (polC m) := hD.1 rfl
          have e13 : x 13 = .int .i64 a := hD.2.1 rfl
          have e14 : x 14 = .int .i64 b := hD.2.2.1 rfl
          have e15 : x 15 = .agg #[.int .u16 (lx : Int), .int .u16 (ly : Int)] := hD.2.2.2.1 rfl
          have e11 : x 11 = .bool true := hD.2.2.2.2.1 rfl
          clear hD
          refine want_yes (by simp [Region.wanted, yielded, e11]) ?_
          exact leads_enter2 (by go_simp) ((HA1.out V hC.all).mono fun e w'' ⟨he, hB⟩ => ⟨_, he, rfl, hC.step hB⟩)
        refine ⟨ObS.of_val rfl (fun x v => rfl) (fun x V kst hC hD => ?_), ?_⟩
        · have e11 : x 11 = .bool true := hD.1 rfl
          clear hD
          refine want_yes (by simp [Region.wanted, yielded, e11]) ?_
          exact leads_value (exec_load_pol rfl rfl hC.row) ⟨rfl, hC⟩
        refine ⟨ObS.of_val rfl (fun x v => rfl) (fun x V kst hC hD => ?_), ?_⟩
        · have e11 : x 11 = .bool true := hD.1 rfl
          clear hD
          refine want_yes (by simp [Region.wanted, yielded, e11]) ?_
          exact leads_value (v := .int .i64 a) (by go_simp) ⟨rfl, hC⟩
        refine ⟨ObS.of_val rfl (fun x v => rfl) (fun x V kst hC hD => ?_), ?_⟩
        · have e11 : x 11 = .bool true := hD.1 rfl
          clear hD
          refine want_yes (by simp [Region.wanted, yielded, e11]) ?_
          exact leads_value (v := .int .i64 b) (by go_simp) ⟨rfl, hC⟩
        refine ⟨ObS.of_val rfl (fun x v => rfl) (fun x V kst hC hD => ?_), ?_⟩
        · have e11 : x 11 = .bool true := hD.1 rfl
          clear hD
          refine want_yes (by simp [Region.wanted, yielded, e11]) ?_
          exact leads_value (exec_load_mid2 (new := labC lx ly) (off := 0) rfl rfl hC.lab (fun i _ => by rw [Nat.zero_add]) Tryd.underlying24 rfl (infoLabC _ _)) ⟨rfl, hC⟩
        refine ⟨ObS.of_val rfl (fun x v => rfl) (fun x V kst hC hD => ?_), ?_⟩
        · have e17 : x 17 = .agg (polC m) := hD.1 rfl
          have e18 : x 18 = .int .i64 a := hD.2.1 rfl
          have e19 : x 19 = .int .i64 b := hD.2.2.1 rfl
          have e20 : x 20 = .agg #[.int .u16 (lx : Int), .int .u16 (ly : Int)] := hD.2.2.2.1 rfl
          have e16 : x 16 = .bool ab := hD.2.2.2.2.1 rfl
          have e11 : x 11 = .bool true := hD.2.2.2.2.2.1 rfl
          clear hD
          refine want_yes (by simp [Region.wanted, yielded, e11]) ?_
          exact leads_enter2 (by go_simp) ((HRA.out V).mono fun e w'' ⟨he, hB⟩ => ⟨_, he, rfl, hC.step hB⟩)
        refine ⟨ObS.of_val rfl (fun x v => rfl) (fun x V kst hC hD => ?_), ?_⟩
        · have e16 : x 16 = .bool ab := hD.1 rfl
          have e21 : x 21 = .bool ab := hD.2.1 rfl
          have e11 : x 11 = .bool true := hD.2.2.1 rfl
          clear hD
          refine want_yes (by simp [Region.wanted, yielded, e11]) ?_
          exact leads_value (v := .bool true) (by go_simp) ⟨rfl, hC⟩
        refine ⟨ObS.of_val rfl (fun x v => rfl) (fun x V kst hC hD => ?_), ?_⟩
        · have e11 : x 11 = .bool true := hD.1 rfl
          have e22 : x 22 = .bool true := hD.2.1 rfl
          clear hD
          refine want_yes rfl ?_
          exact leads_value (v := .bool true) (by go_simp) ⟨rfl, hC⟩
        refine ⟨ObS.of_val rfl (fun x v => rfl) (fun x V kst hC hD => ?_), ?_⟩
        · have e23 : x 23 = .bool true := hD.1 rfl
          have e21 : x 21 = .bool ab := hD.2.1 rfl
          clear hD
          refine want_yes rfl ?_
          exact leads_value (v := .bool true) (by go_simp) ⟨rfl, hC⟩
        refine ⟨ObS.of_val rfl (fun x v => rfl) (fun x V kst hC hD => ?_), ?_⟩
        · have e24 : x 24 = .bool true := hD.1 rfl
          clear hD
          refine want_yes (by simp [Region.wanted, yielded, e24]) ?_
          exact leads_value (exec_load_pol rfl rfl hC.row) ⟨rfl, hC⟩
        refine ⟨ObS.of_val rfl (fun x v => rfl) (fun x V kst hC hD => ?_), ?_⟩
        · have e24 : x 24 = .bool true := hD.1 rfl
          clear hD
          refine want_yes (by simp [Region.wanted, yielded, e24]) ?_
          exact leads_value (v := .int .i64 a) (by go_simp) ⟨rfl, hC⟩
        refine ⟨ObS.of_val rfl (fun x v => rfl) (fun x V kst hC hD => ?_), ?_⟩
        · have e24 : x 24 = .bool true := hD.1 rfl
          clear hD
          refine want_yes (by simp [Region.wanted, yielded, e24]) ?_
          exact leads_value (exec_load_mid2 (new := labC lx ly) (off := 0) rfl rfl hC.lab (fun i _ => by rw [Nat.zero_add]) Tryd.underlying24 rfl (infoLabC _ _)) ⟨rfl, hC⟩
        refine ⟨ObS.of_val rfl (fun x v => rfl) (fun x V kst hC hD => ?_), ?_⟩
        · have e25 : x 25 = .agg (polC m) := hD.1 rfl
          have e26 : x 26 = .int .i64 a := hD.2.1 rfl
          have e27 : x 27 = .agg #[.int .u16 (lx : Int), .int .u16 (ly : Int)] := hD.2.2.1 rfl
          have e24 : x 24 = .bool true := hD.2.2.2.1 rfl
          clear hD
          refine want_yes (by simp [Region.wanted, yielded, e24]) ?_
          exact leads_enter2 (by go_simp) ((HC.out V hC.all).mono fun e w'' ⟨he, hB⟩ => ⟨_, he, rfl, hC.step hB⟩)
        refine ⟨ObS.of_val rfl (fun x v => rfl) (fun x V kst hC hD => ?_), ?_⟩
        · have e24 : x 24 = .bool true := hD.1 rfl
          clear hD
          refine want_yes (by simp [Region.wanted, yielded, e24]) ?_
          exact leads_value (exec_load_pol rfl rfl hC.row) ⟨rfl, hC⟩
        refine ⟨ObS.of_val rfl (fun x v => rfl) (fun x V kst hC hD => ?_), ?_⟩
        · have e24 : x 24 = .bool true := hD.1 rfl
          clear hD
          refine want_yes (by simp [Region.wanted, yielded, e24]) ?_
          exact leads_value (v := .int .i64 a) (by go_simp) ⟨rfl, hC⟩
        refine ⟨ObS.of_val rfl (fun x v => rfl) (fun x V kst hC hD => ?_), ?_⟩
        · have e24 : x 24 = .bool true := hD.1 rfl
          clear hD
          refine want_yes (by simp [Region.wanted, yielded, e24]) ?_
          exact leads_value (exec_load_mid2 (new := labC lx ly) (off := 0) rfl rfl hC.lab (fun i _ => by rw [Nat.zero_add]) Tryd.underlying24 rfl (infoLabC _ _)) ⟨rfl, hC⟩
        refine ⟨ObS.of_val rfl (fun x v => rfl) (fun x V kst hC hD => ?_), ?_⟩
        · have e29 : x 29 = .agg (polC m) := hD.1 rfl
          have e30 : x 30 = .int .i64 a := hD.2.1 rfl
          have e31 : x 31 = .agg #[.int .u16 (lx : Int), .int .u16 (ly : Int)] := hD.2.2.1 rfl
          have e28 : x 28 = .int .u16 (cs : Int) := hD.2.2.2.1 rfl
          have e24 : x 24 = .bool true := hD.2.2.2.2.1 rfl
          clear hD
          refine want_yes (by simp [Region.wanted, yielded, e24]) ?_
          exact leads_enter2 (by go_simp) ((HRC.out V).mono fun e w'' ⟨he, hB⟩ => ⟨_, he, rfl, hC.step hB⟩)
        refine ⟨ObS.of_val rfl (fun x v => rfl) (fun x V kst hC hD => ?_), ?_⟩
        · have e28 : x 28 = .int .u16 (cs : Int) := hD.1 rfl
          have e32 : x 32 = .int .u16 (cs : Int) := hD.2.1 rfl
          have e24 : x 24 = .bool true := hD.2.2.1 rfl
          clear hD
          refine want_yes (by simp [Region.wanted, yielded, e24]) ?_
          exact leads_value (v := .bool true) (by go_simp) ⟨rfl, hC⟩
        refine ⟨ObS.of_val rfl (fun x v => rfl) (fun x V kst hC hD => ?_), ?_⟩
        · have e24 : x 24 = .bool true := hD.1 rfl
          have e33 : x 33 = .bool true := hD.2.1 rfl
          clear hD
          refine want_yes rfl ?_
          exact leads_value (v := .bool true) (by go_simp) ⟨rfl, hC⟩
        refine ⟨ObS.of_val rfl (fun x v => rfl) (fun x V kst hC hD => ?_), ?_⟩
        · have e34 : x 34 = .bool true := hD.1 rfl
          have e32 : x 32 = .int .u16 (cs : Int) := hD.2.1 rfl
          clear hD
          refine want_yes rfl ?_
          exact leads_value (v := .bool true) (by go_simp) ⟨rfl, hC⟩
        refine ⟨ObS.of_val rfl (fun x v => rfl) (fun x V kst hC hD => ?_), ?_⟩
        · have e35 : x 35 = .bool true := hD.1 rfl
          clear hD
          refine want_yes (by simp [Region.wanted, yielded, e35]) ?_
          exact leads_value (exec_load_pol rfl rfl hC.row) ⟨rfl, hC⟩
        refine ⟨ObS.of_val rfl (fun x v => rfl) (fun x V kst hC hD => ?_), ?_⟩
        · have e35 : x 35 = .bool true := hD.1 rfl
          clear hD
          refine want_yes (by simp [Region.wanted, yielded, e35]) ?_
          exact leads_value (v := .pointer (some ⟨bx, 70, none⟩)) (by go_simp) ⟨rfl, hC⟩
        refine ⟨ObS.of_val rfl (fun x v => rfl) (fun x V kst hC hD => ?_), ?_⟩
        · have e37 : x 37 = .pointer (some ⟨bx, 70, none⟩) := hD.1 rfl
          have e35 : x 35 = .bool true := hD.2.1 rfl
          clear hD
          refine want_yes (by simp [Region.wanted, yielded, e35]) ?_
          have k0 := ((Blk.cell hC.ask 70).trans (HTt.out 4)).trans (show _ = some (.int .u16 (R : Int)) from rfl)
          exact leads_value (v := .int .u16 (R : Int)) (by go_simp) ⟨rfl, hC⟩
        refine ⟨ObS.of_val rfl (fun x v => rfl) (fun x V kst hC hD => ?_), ?_⟩
        · have e36 : x 36 = .agg (polC m) := hD.1 rfl
          have e38 : x 38 = .int .u16 (R : Int) := hD.2.1 rfl
          have e35 : x 35 = .bool true := hD.2.2.1 rfl
          clear hD
          refine want_yes (by simp [Region.wanted, yielded, e35]) ?_
          exact leads_enter2 (by go_simp) ((HO.out V).mono fun e w'' ⟨he, hB⟩ => ⟨_, he, rfl, hC.step hB⟩)
        refine ⟨ObS.of_val rfl (fun x v => rfl) (fun x V kst hC hD => ?_), ?_⟩
        · have e35 : x 35 = .bool true := hD.1 rfl
          clear hD
          refine want_yes (by simp [Region.wanted, yielded, e35]) ?_
          exact leads_value (exec_load_pol rfl rfl hC.row) ⟨rfl, hC⟩
        refine ⟨ObS.of_val rfl (fun x v => rfl) (fun x V kst hC hD => ?_), ?_⟩
        · have e35 : x 35 = .bool true := hD.1 rfl
          clear hD
          refine want_yes (by simp [Region.wanted, yielded, e35]) ?_
          exact leads_value (v := .pointer (some ⟨bx, 70, none⟩)) (by go_simp) ⟨rfl, hC⟩
        refine ⟨ObS.of_val rfl (fun x v => rfl) (fun x V kst hC hD => ?_), ?_⟩
        · have e41 : x 41 = .pointer (some ⟨bx, 70, none⟩) := hD.1 rfl
          have e35 : x 35 = .bool true := hD.2.1 rfl
          clear hD
          refine want_yes (by simp [Region.wanted, yielded, e35]) ?_
          have k0 := ((Blk.cell hC.ask 70).trans (HTt.out 4)).trans (show _ = some (.int .u16 (R : Int)) from rfl)
          exact leads_value (v := .int .u16 (R : Int)) (by go_simp) ⟨rfl, hC⟩
        refine ⟨ObS.of_val rfl (fun x v => rfl) (fun x V kst hC hD => ?_), ?_⟩
        · have e40 : x 40 = .agg (polC m) := hD.1 rfl
          have e42 : x 42 = .int .u16 (R : Int) := hD.2.1 rfl
          have e39 : x 39 = .int .u16 (ow : Int) := hD.2.2.1 rfl
          have e35 : x 35 = .bool true := hD.2.2.2.1 rfl
          clear hD
          refine want_yes (by simp [Region.wanted, yielded, e35]) ?_
          exact leads_enter2 (by go_simp) ((HRO.out V).mono fun e w'' ⟨he, hB⟩ => ⟨_, he, rfl, hC.step hB⟩)
        refine ⟨ObS.of_val rfl (fun x v => rfl) (fun x V kst hC hD => ?_), ?_⟩
        · have e39 : x 39 = .int .u16 (ow : Int) := hD.1 rfl
          have e43 : x 43 = .int .u16 (ow : Int) := hD.2.1 rfl
          have e35 : x 35 = .bool true := hD.2.2.1 rfl
          clear hD
          refine want_yes (by simp [Region.wanted, yielded, e35]) ?_
          exact leads_value (v := .bool true) (by go_simp) ⟨rfl, hC⟩
        refine ⟨ObS.of_val rfl (fun x v => rfl) (fun x V kst hC hD => ?_), ?_⟩
        · have e35 : x 35 = .bool true := hD.1 rfl
          have e44 : x 44 = .bool true := hD.2.1 rfl
          clear hD
          refine want_yes rfl ?_
          exact leads_value (v := .bool true) (by go_simp) ⟨rfl, hC⟩
        refine ⟨ObS.of_val rfl (fun x v => rfl) (fun x V kst hC hD => ?_), ?_⟩
        · have e45 : x 45 = .bool true := hD.1 rfl
          have e43 : x 43 = .int .u16 (ow : Int) := hD.2.1 rfl
          clear hD
          refine want_yes rfl ?_
          exact leads_value (v := .bool true) (by go_simp) ⟨rfl, hC⟩
        refine ⟨ObS.of_val rfl (fun x v => rfl) (fun x V kst hC hD => ?_), ?_⟩
        · have e46 : x 46 = .bool true := hD.1 rfl
          clear hD
          refine want_yes (by simp [Region.wanted, yielded, e46]) ?_
          exact leads_enter2 (by go_simp) ((HAl.out V hC.all).mono fun e w'' ⟨he, hB⟩ => ⟨_, he, rfl, hC.step hB⟩)
        refine ⟨ObS.of_val rfl (fun x v => rfl) (fun x V kst hC hD => ?_), ?_⟩
        · have e46 : x 46 = .bool true := hD.1 rfl
          have e47 : x 47 = .bool true := hD.2.1 rfl
          clear hD
          refine want_yes rfl ?_
          exact leads_value (v := .bool true) (by go_simp) ⟨rfl, hC⟩
        refine ⟨ObS.of_val rfl (fun x v => rfl) (fun x V kst hC hD => ?_), ?_⟩
        · have e48 : x 48 = .bool true := hD.1 rfl
          have e47 : x 47 = .bool true := hD.2.1 rfl
          have e0 : x 0 = .agg (polC m) := hD.2.2.1 rfl
          have e1 : x 1 = .bool true := hD.2.2.2.1 rfl
          have e2 : x 2 = .bool true := hD.2.2.2.2.1 rfl
          have e3 : x 3 = .agg (polC m) := hD.2.2.2.2.2.1 rfl
          have e4 : x 4 = .agg #[.int .u16 (lx : Int), .int .u16 (ly : Int)] := hD.2.2.2.2.2.2.1 rfl
          have e5 : x 5 = .int .u16 (S : Int) := hD.2.2.2.2.2.2.2.1 rfl
          have e6 : x 6 = .agg (polC m) := hD.2.2.2.2.2.2.2.2.1 rfl
          have e7 : x 7 = .agg #[.int .u16 (lx : Int), .int .u16 (ly : Int)] := hD.2.2.2.2.2.2.2.2.2.1 rfl
          have e8 : x 8 = .int .u16 (S : Int) := hD.2.2.2.2.2.2.2.2.2.2.1 rfl
          have e9 : x 9 = .bool true := hD.2.2.2.2.2.2.2.2.2.2.2.1 rfl
          have e10 : x 10 = .bool true := hD.2.2.2.2.2.2.2.2.2.2.2.2.1 rfl
          have e11 : x 11 = .bool true := hD.2.2.2.2.2.2.2.2.2.2.2.2.2.1 rfl
          have e12 : x 12 = .agg (polC m) := hD.2.2.2.2.2.2.2.2.2.2.2.2.2.2.1 rfl
          have e13 : x 13 = .int .i64 a := hD.2.2.2.2.2.2.2.2.2.2.2.2.2.2.2.1 rfl
          have e14 : x 14 = .int .i64 b := hD.2.2.2.2.2.2.2.2.2.2.2.2.2.2.2.2.1 rfl
          have e15 : x 15 = .agg #[.int .u16 (lx : Int), .int .u16 (ly : Int)] := hD.2.2.2.2.2.2.2.2.2.2.2.2.2.2.2.2.2.1 rfl
          have e16 : x 16 = .bool ab := hD.2.2.2.2.2.2.2.2.2.2.2.2.2.2.2.2.2.2.1 rfl
          have e17 : x 17 = .agg (polC m) := hD.2.2.2.2.2.2.2.2.2.2.2.2.2.2.2.2.2.2.2.1 rfl
          have e18 : x 18 = .int .i64 a := hD.2.2.2.2.2.2.2.2.2.2.2.2.2.2.2.2.2.2.2.2.1 rfl
          have e19 : x 19 = .int .i64 b := hD.2.2.2.2.2.2.2.2.2.2.2.2.2.2.2.2.2.2.2.2.2.1 rfl
          have e20 : x 20 = .agg #[.int .u16 (lx : Int), .int .u16 (ly : Int)] := hD.2.2.2.2.2.2.2.2.2.2.2.2.2.2.2.2.2.2.2.2.2.2.1 rfl
          have e21 : x 21 = .bool ab := hD.2.2.2.2.2.2.2.2.2.2.2.2.2.2.2.2.2.2.2.2.2.2.2.1 rfl
          have e22 : x 22 = .bool true := hD.2.2.2.2.2.2.2.2.2.2.2.2.2.2.2.2.2.2.2.2.2.2.2.2.1 rfl
          have e23 : x 23 = .bool true := hD.2.2.2.2.2.2.2.2.2.2.2.2.2.2.2.2.2.2.2.2.2.2.2.2.2.1 rfl
          have e24 : x 24 = .bool true := hD.2.2.2.2.2.2.2.2.2.2.2.2.2.2.2.2.2.2.2.2.2.2.2.2.2.2.1 rfl
          have e25 : x 25 = .agg (polC m) := hD.2.2.2.2.2.2.2.2.2.2.2.2.2.2.2.2.2.2.2.2.2.2.2.2.2.2.2.1 rfl
          have e26 : x 26 = .int .i64 a := hD.2.2.2.2.2.2.2.2.2.2.2.2.2.2.2.2.2.2.2.2.2.2.2.2.2.2.2.2.1 rfl
          have e27 : x 27 = .agg #[.int .u16 (lx : Int), .int .u16 (ly : Int)] := hD.2.2.2.2.2.2.2.2.2.2.2.2.2.2.2.2.2.2.2.2.2.2.2.2.2.2.2.2.2.1 rfl
          have e28 : x 28 = .int .u16 (cs : Int) := hD.2.2.2.2.2.2.2.2.2.2.2.2.2.2.2.2.2.2.2.2.2.2.2.2.2.2.2.2.2.2.1 rfl
          have e29 : x 29 = .agg (polC m) := hD.2.2.2.2.2.2.2.2.2.2.2.2.2.2.2.2.2.2.2.2.2.2.2.2.2.2.2.2.2.2.2.1 rfl
          have e30 : x 30 = .int .i64 a := hD.2.2.2.2.2.2.2.2.2.2.2.2.2.2.2.2.2.2.2.2.2.2.2.2.2.2.2.2.2.2.2.2.1 rfl
          have e31 : x 31 = .agg #[.int .u16 (lx : Int), .int .u16 (ly : Int)] := hD.2.2.2.2.2.2.2.2.2.2.2.2.2.2.2.2.2.2.2.2.2.2.2.2.2.2.2.2.2.2.2.2.2.1 rfl
          have e32 : x 32 = .int .u16 (cs : Int) := hD.2.2.2.2.2.2.2.2.2.2.2.2.2.2.2.2.2.2.2.2.2.2.2.2.2.2.2.2.2.2.2.2.2.2.1 rfl
          have e33 : x 33 = .bool true := hD.2.2.2.2.2.2.2.2.2.2.2.2.2.2.2.2.2.2.2.2.2.2.2.2.2.2.2.2.2.2.2.2.2.2.2.1 rfl
          have e34 : x 34 = .bool true := hD.2.2.2.2.2.2.2.2.2.2.2.2.2.2.2.2.2.2.2.2.2.2.2.2.2.2.2.2.2.2.2.2.2.2.2.2.1 rfl
          have e35 : x 35 = .bool true := hD.2.2.2.2.2.2.2.2.2.2.2.2.2.2.2.2.2.2.2.2.2.2.2.2.2.2.2.2.2.2.2.2.2.2.2.2.2.1 rfl
          have e36 : x 36 = .agg (polC m) := hD.2.2.2.2.2.2.2.2.2.2.2.2.2.2.2.2.2.2.2.2.2.2.2.2.2.2.2.2.2.2.2.2.2.2.2.2.2.2.1 rfl
          have e37 : x 37 = .pointer (some ⟨bx, 70, none⟩) := hD.2.2.2.2.2.2.2.2.2.2.2.2.2.2.2.2.2.2.2.2.2.2.2.2.2.2.2.2.2.2.2.2.2.2.2.2.2.2.2.1 rfl
          have e38 : x 38 = .int .u16 (R : Int) := hD.2.2.2.2.2.2.2.2.2.2.2.2.2.2.2.2.2.2.2.2.2.2.2.2.2.2.2.2.2.2.2.2.2.2.2.2.2.2.2.2.1 rfl
          have e39 : x 39 = .int .u16 (ow : Int) := hD.2.2.2.2.2.2.2.2.2.2.2.2.2.2.2.2.2.2.2.2.2.2.2.2.2.2.2.2.2.2.2.2.2.2.2.2.2.2.2.2.2.1 rfl
          have e40 : x 40 = .agg (polC m) := hD.2.2.2.2.2.2.2.2.2.2.2.2.2.2.2.2.2.2.2.2.2.2.2.2.2.2.2.2.2.2.2.2.2.2.2.2.2.2.2.2.2.2.1 rfl
          have e41 : x 41 = .pointer (some ⟨bx, 70, none⟩) := hD.2.2.2.2.2.2.2.2.2.2.2.2.2.2.2.2.2.2.2.2.2.2.2.2.2.2.2.2.2.2.2.2.2.2.2.2.2.2.2.2.2.2.2.1 rfl
          have e42 : x 42 = .int .u16 (R : Int) := hD.2.2.2.2.2.2.2.2.2.2.2.2.2.2.2.2.2.2.2.2.2.2.2.2.2.2.2.2.2.2.2.2.2.2.2.2.2.2.2.2.2.2.2.2.1 rfl
          have e43 : x 43 = .int .u16 (ow : Int) := hD.2.2.2.2.2.2.2.2.2.2.2.2.2.2.2.2.2.2.2.2.2.2.2.2.2.2.2.2.2.2.2.2.2.2.2.2.2.2.2.2.2.2.2.2.2.1 rfl
          have e44 : x 44 = .bool true := hD.2.2.2.2.2.2.2.2.2.2.2.2.2.2.2.2.2.2.2.2.2.2.2.2.2.2.2.2.2.2.2.2.2.2.2.2.2.2.2.2.2.2.2.2.2.2.1 rfl
          have e45 : x 45 = .bool true := hD.2.2.2.2.2.2.2.2.2.2.2.2.2.2.2.2.2.2.2.2.2.2.2.2.2.2.2.2.2.2.2.2.2.2.2.2.2.2.2.2.2.2.2.2.2.2.2.1 rfl
          have e46 : x 46 = .bool true := hD.2.2.2.2.2.2.2.2.2.2.2.2.2.2.2.2.2.2.2.2.2.2.2.2.2.2.2.2.2.2.2.2.2.2.2.2.2.2.2.2.2.2.2.2.2.2.2.2.1 rfl
          clear hD
          refine want_yes rfl ?_
          exact leads_value (v := .bool true) (by go_simp) ⟨rfl, hC⟩
        trivial
      · intro xa V hC hx
        have e49 : xa 49 = .bool true := hx 49 (by simp)
        have HV := Lib.hid (show TPW w bx b1 b2 A m lx ly V from hC)
        clear hx hC
        rw [e49]
        clear e49
        go_wp2_with fail
        go_ret
        exact ⟨rfl, HV.out.all⟩
end Go.Proofs.YtoieodlpoglmfaaDoor

/-! LawPMore -/
namespace Go.Proofs.YtoieodlpoglmfaaDoor
open Go.RowKit

/-- The mended policy and two labels: memory of the law's own. -/
structure MPW (w : World) (bp : Nat) (m : Pol) (lx ly mx my : Nat) (V : World) : Prop where
  all : Below w.heap.size w V
  row : PRow V bp m
  lab : Blk V (bp + 1) #[.int .u16 (lx : Int), .int .u16 (ly : Int)] 24
  lam : Blk V (bp + 1 + 1) #[.int .u16 (mx : Int), .int .u16 (my : Int)] 24
theorem MPW.step {w : World} {bp : Nat} {m : Pol} {lx ly mx my : Nat} {V V' : World} (h : MPW w bp m lx ly mx my V) (hB : Below V.heap.size V V') : MPW w bp m lx ly mx my V' :=
  ⟨h.all.trans (hB.mono h.all.size), h.row.step hB, h.lab.below hB h.lab.lt, h.lam.below hB h.lam.lt⟩
theorem bit_one {A k : Nat} (hA : A < 65536) : (bits .and .u16 ((A : Int) / 2 ^ k) 1 == 1) = A.testBit k := by
  have := hasB_and (A : Int) (k : Int) (Int.natCast_nonneg A) (by omega) (Int.natCast_nonneg k)
  rw [Int.toNat_natCast, hasB_bit] at this
  exact this
theorem bit_null {A k : Nat} (hA : A < 65536) (h : A.testBit k = true) : (bits .and .u16 ((A : Int) / 2 ^ k) 1 == 0) = false := by
  have h1 := bit_one (k := k) hA
  rw [h] at h1
  rw [beq_iff_eq] at h1
  rw [h1]; rfl
theorem less_null {a b : Nat} (ha : a < 65536) (hb : b < 65536) (h : ∀ t, a.testBit t = true → b.testBit t = true) : bits .andNot .u16 (a : Int) (b : Int) = 0 := by
  have h2 : lessN a b = 0 := by
    apply Nat.eq_of_testBit_eq
    intro t
    rw [lessN_bit ha hb, Nat.zero_testBit]
    cases hat : a.testBit t with
    | false => rfl
    | true => rw [h t hat]; rfl
  rw [u16_andNot_nat a b ha hb]
  exact congrArg Int.ofNat h2
set_option maxRecDepth 100000 in
set_option maxHeartbeats 1600000 in
theorem pmore_any (cS : PSeenC) (cC : PCapsC) (cA : PActsC) (hA : PAliveC) (p : Pol) (a : Int) (lx ly mx my : Nat) (w : World) (hT : TabOk w) (hp : PolOk p) (hx : lx < 65536) (hy : ly < 65536) (hmx : mx < 65536) (hmy : my < 65536) (ha1 : -9223372036854775808 ≤ a) (ha2 : a ≤ 9223372036854775807) :
    Calls Tryd.prog 7 #[.agg (polC p), .int .i64 a, .agg #[.int .u16 (lx : Int), .int .u16 (ly : Int)], .agg #[.int .u16 (mx : Int), .int .u16 (my : Int)]] w fun e w' => e = .returned (.bool true) ∧ Below w.heap.size w w' := by
  have hmo := mendN_ok hp
  have hmf := mend_fine hp
  have HMe := Lib.hid (fun V => rpMend_any p V hp)
  have HS1 := Lib.hid (fun V => cS _ lx ly V hmo hmf hx hy)
  have HS2 := Lib.hid (fun V => cS _ mx my V hmo hmf hmx hmy)
  have HC1 := Lib.hid (fun V (hV : Since w V) => cC _ a lx ly V (hT.since hV) hmo hmf hx hy ha1 ha2)
  have HC2 := Lib.hid (fun V (hV : Since w V) => cC _ a mx my V (hT.since hV) hmo hmf hmx hmy ha1 ha2)
  have HA1 := Lib.hid (fun V (hV : Since w V) (t : Nat) (ht : t < 16) => cA _ a ((mendN p).owner t : Nat) lx ly V (hT.since hV) hmo hmf hx hy ha1 ha2 (by have := hmo.owner t ht; omega) (by have := hmo.owner t ht; omega))
  have HFl := Lib.hid (fun V => lFlows_any lx ly mx my V hx hy hmx hmy)
  have HAl := Lib.hid (fun V (hV : Since w V) => hA V (hT.since hV))
  have HOk := Lib.hid hmo
  have HCb := Lib.hid (fun t => caps_bit (mendN p) a lx ly t)
  have HCl := Lib.hid (And.intro (capsN_lt (mendN p) a lx ly) (capsN_lt (mendN p) a mx my))
  have HSl := Lib.hid (And.intro (seenN_lt (mendN p) lx ly) (seenN_lt (mendN p) mx my))
  have HMo := Lib.hid (fun (h : flowsB lx ly mx my = true) => And.intro (seen_more (p := mendN p) h) (caps_more (p := mendN p) (a := a) h))
  have HP0 := Lib.hid (((PRow.new w p).alloc (.cells #[.int .u16 (lx : Int), .int .u16 (ly : Int)] 24)).alloc (.cells #[.int .u16 (mx : Int), .int .u16 (my : Int)] 24))
  have HL0 := Lib.hid (show Blk (((w.alloc (.cells (polC p) 29)).alloc (.cells #[.int .u16 (lx : Int), .int .u16 (ly : Int)] 24)).alloc (.cells #[.int .u16 (mx : Int), .int .u16 (my : Int)] 24)) (w.heap.size + 1) #[.int .u16 (lx : Int), .int .u16 (ly : Int)] 24 by
    have h := Blk.new (w.alloc (.cells (polC p) 29)) #[.int .u16 (lx : Int), .int .u16 (ly : Int)] 24
    simp only [World.size_alloc] at h
    exact h.alloc _)
  have HM0 := Lib.hid (show Blk (((w.alloc (.cells (polC p) 29)).alloc (.cells #[.int .u16 (lx : Int), .int .u16 (ly : Int)] 24)).alloc (.cells #[.int .u16 (mx : Int), .int .u16 (my : Int)] 24)) (w.heap.size + 1 + 1) #[.int .u16 (mx : Int), .int .u16 (my : Int)] 24 by
    have h := Blk.new ((w.alloc (.cells (polC p) 29)).alloc (.cells #[.int .u16 (lx : Int), .int .u16 (ly : Int)] 24)) #[.int .u16 (mx : Int), .int .u16 (my : Int)] 24
    simp only [World.size_alloc] at h
    exact h)
  have HB0 := Lib.hid (show Below w.heap.size w (((w.alloc (.cells (polC p) 29)).alloc (.cells #[.int .u16 (lx : Int), .int .u16 (ly : Int)] 24)).alloc (.cells #[.int .u16 (mx : Int), .int .u16 (my : Int)] 24)) from ((belowNew w _).alloc (by simp) _).alloc (by simp; omega) _)
  clear cS cC cA hA hT hp hx hy hmx hmy hmo hmf
  generalize seenN (mendN p) lx ly = S1 at *
  generalize seenN (mendN p) mx my = S2 at *
  generalize hcs : capsN (mendN p) a lx ly = C1 at *
  generalize capsN (mendN p) a mx my = C2 at *
  clear hcs
  generalize mendN p = m at *
  go_enter Tryd.func7, Tryd.ntmps7
  go_upto_region 1 with fail
  generalize ((w.alloc (.cells (polC p) 29)).alloc _).alloc _ = w1 at *
  have hrow := HP0.out
  go_wp2_with (refine wpList_load_arr rfl _ _ rfl rfl hrow Tryd.underlying29 rfl (infoPol _) ?_)
  refine (HMe.out _).mono ?_
  rintro e w2 ⟨rfl, hB2⟩
  have HB2 := Lib.hid (HB0.out.trans (hB2.mono HB0.out.size))
  have hrow2 := HP0.out.step hB2
  have HL2 := Lib.hid (HL0.out.below hB2 HL0.out.lt)
  have HM2 := Lib.hid (HM0.out.below hB2 HM0.out.lt)
  clear hB2 hrow HP0 HL0 HB0 HM0
  go_upto_region 2 with (refine wpList_store_arr rfl rfl _ _ _ rfl rfl rfl hrow2 (infoPol _) (by rw [polC_size, polC_size]) (polC_one _) ?_; intro w3 hw3)
  have HW3 := Lib.hid (show MPW w w.heap.size m lx ly mx my w3 from
    ⟨HB2.out.trans (hw3.below HB2.out.size (Nat.le_refl _)), hw3.blk, hw3.chg.kept HL2.out (by show ¬ w.heap.size + 1 = w.heap.size; omega), hw3.chg.kept HM2.out (by show ¬ w.heap.size + 1 + 1 = w.heap.size; omega)⟩)
  clear hw3 hrow2 HB2 HL2 HM2 HMe
  generalize hbp : w.heap.size = bp at *
  have HBp := Lib.hid hbp
  clear hbp
  have hrow := HW3.out.row
  have l0 := HW3.out.lab.cell 0
  have l1 := HW3.out.lab.cell 1
  go_wp2_with (refine wpList_load_arr rfl _ _ rfl rfl hrow Tryd.underlying29 rfl (infoPol _) ?_)
  refine (HC1.out _ HW3.out.all).mono ?_
  rintro e w4 ⟨rfl, hB4⟩
  have HW4 := Lib.hid (HW3.out.step hB4)
  clear hB4 hrow l0 l1 HW3 HC1
  go_wp2_with fail
  go_loopw [10] (fun i wr => ∃ k : Nat, k ≤ 16 ∧ i = .int .i64 (k : Int) ∧ MPW w bp m lx ly mx my wr) (fun i _ => 16 - (intOf i).toNat)
  case atStart => exact ⟨0, by omega, rfl, HW4.out⟩
  case round =>
    obtain ⟨k, hk, rfl, hg⟩ := hrel
    have HG := Lib.hid hg
    clear hg HW4
    by_cases hlt : k < 16
    · have dk : decide ((k : Int) < 16) = true := by simp; omega
      have hk16 : (k : Int) < 16 := by omega
      have hbit := bit_one (A := C1) (k := k) HCl.out.1
      cases hc : C1.testBit k with
      | false =>
        rw [hc] at hbit
        go_upto_region 7 with fail
        refine wp_region_S (fun _ V => MPW w bp m lx ly mx my V) 0 [.val (.bool false), .val (.bool false), .val undef, .val undef, .val undef, .val undef, .val undef, .val undef, .val undef, .val undef, .val undef, .val undef, .val undef, .val undef, .val undef, .val undef, .val undef, .val undef, .val undef, .val undef, .val undef, .val (.bool false)]
          (fun x => { tmps := #[.agg (polC p), .int .i64 a, .agg #[.int .u16 (lx : Int), .int .u16 (ly : Int)], .agg #[.int .u16 (mx : Int), .int .u16 (my : Int)], .pointer (some ⟨bp, 0, none⟩), undef, .pointer (some ⟨bp + 1, 0, none⟩), .pointer (some ⟨bp + 1 + 1, 0, none⟩), u8, .int .u16 (C1 : Int), .int .i64 (k : Int), .bool false, .agg (polC p), .agg (polC m), .agg (polC m), .int .i64 a, .agg #[.int .u16 (lx : Int), .int .u16 (ly : Int)], .int .u16 (C1 : Int), .int .i64 (k : Int), .bool true, u20, u21, .int .u16 (C1 : Int), .int .i64 (k : Int), .int .u64 (k : Int), .int .u16 ((C1 : Int) / 2 ^ k), .int .u16 (bits .and .u16 ((C1 : Int) / 2 ^ k) 1), .bool false, x 0, x 1, x 2, x 3, x 4, x 5, x 6, x 7, x 8, x 9, x 10, x 11, x 12, x 13, x 14, x 15, x 16, x 17, x 18, x 19, x 20, x 21, undef, undef, undef, undef, undef, undef, undef, undef, undef, undef, undef, undef, undef, undef, undef, undef, undef, undef, undef, undef, undef, undef, undef, undef, undef], defers := [] }) (fun i => ([u28, u29, u30, u31, u32, u33, u34, u35, u36, u37, u38, u39, u40, u41, u42, u43, u44, u45, u46, u47, u48, u49] : List Value).getD i undef) (by kernel_rfl) rfl rfl (by kernel_rfl) (by kernel_rfl) (by kernel_rfl) (by kernel_rfl) (HG.out.step (Below.refl _ _).drew) ?_ ?_
        · refine ⟨ObS.of_val rfl (fun x v => rfl) (fun x V kst hC hD => ?_), ?_⟩
          · clear hD
            refine want_yes rfl ?_
            exact leads_value (v := .bool false) (by go_simp) ⟨rfl, hC⟩
          refine ⟨ObS.of_val rfl (fun x v => rfl) (fun x V kst hC hD => ?_), ?_⟩
          · have e0 : x 0 = .bool false := hD.1 rfl
            clear hD
            refine want_yes rfl ?_
            exact leads_value (v := .bool false) (by go_simp) ⟨rfl, hC⟩
          refine ⟨ObS.of_val rfl (fun x v => rfl) (fun x V kst hC hD => ?_), ?_⟩
          · have e1 : x 1 = .bool false := hD.1 rfl
            clear hD
            exact want_no (by simp [Region.wanted, yielded, e1]) rfl
          refine ⟨ObS.of_val rfl (fun x v => rfl) (fun x V kst hC hD => ?_), ?_⟩
          · have e2 : x 2 = undef := hD.1 rfl
            have e1 : x 1 = .bool false := hD.2.1 rfl
            clear hD
            exact want_no (by simp [Region.wanted, yielded, e1]) rfl
          refine ⟨ObS.of_val rfl (fun x v => rfl) (fun x V kst hC hD => ?_), ?_⟩
          · have e1 : x 1 = .bool false := hD.1 rfl
            clear hD
            exact want_no (by simp [Region.wanted, yielded, e1]) rfl
          refine ⟨ObS.of_val rfl (fun x v => rfl) (fun x V kst hC hD => ?_), ?_⟩
          · have e4 : x 4 = undef := hD.1 rfl
            have e1 : x 1 = .bool false := hD.2.1 rfl
            clear hD
            exact want_no (by simp [Region.wanted, yielded, e1]) rfl
          refine ⟨ObS.of_val rfl (fun x v => rfl) (fun x V kst hC hD => ?_), ?_⟩
          · have e3 : x 3 = undef := hD.1 rfl
            have e5 : x 5 = undef := hD.2.1 rfl
            have e1 : x 1 = .bool false := hD.2.2.1 rfl
            clear hD
            exact want_no (by simp [Region.wanted, yielded, e1]) rfl
          refine ⟨ObS.of_val rfl (fun x v => rfl) (fun x V kst hC hD => ?_), ?_⟩
          · have e6 : x 6 = undef := hD.1 rfl
            have e1 : x 1 = .bool false := hD.2.1 rfl
            clear hD
            exact want_no (by simp [Region.wanted, yielded, e1]) rfl
          refine ⟨ObS.of_val rfl (fun x v => rfl) (fun x V kst hC hD => ?_), ?_⟩
          · have e7 : x 7 = undef := hD.1 rfl
            have e1 : x 1 = .bool false := hD.2.1 rfl
            clear hD
            exact want_no (by simp [Region.wanted, yielded, e1]) rfl
          refine ⟨ObS.of_val rfl (fun x v => rfl) (fun x V kst hC hD => ?_), ?_⟩
          · have e8 : x 8 = undef := hD.1 rfl
            have e1 : x 1 = .bool false := hD.2.1 rfl
            clear hD
            exact want_no (by simp [Region.wanted, yielded, e1]) rfl
          refine ⟨ObS.of_val rfl (fun x v => rfl) (fun x V kst hC hD => ?_), ?_⟩
          · have e9 : x 9 = undef := hD.1 rfl
            clear hD
            exact want_no (by simp [Region.wanted, yielded, e9, undef]) rfl
          refine ⟨ObS.of_val rfl (fun x v => rfl) (fun x V kst hC hD => ?_), ?_⟩
          · have e9 : x 9 = undef := hD.1 rfl
            clear hD
            exact want_no (by simp [Region.wanted, yielded, e9, undef]) rfl
          refine ⟨ObS.of_val rfl (fun x v => rfl) (fun x V kst hC hD => ?_), ?_⟩
          · have e9 : x 9 = undef := hD.1 rfl
            clear hD
            exact want_no (by simp [Region.wanted, yielded, e9, undef]) rfl
          refine ⟨ObS.of_val rfl (fun x v => rfl) (fun x V kst hC hD => ?_), ?_⟩
          · have e9 : x 9 = undef := hD.1 rfl
            clear hD
            exact want_no (by simp [Region.wanted, yielded, e9, undef]) rfl
          refine ⟨ObS.of_val rfl (fun x v => rfl) (fun x V kst hC hD => ?_), ?_⟩
          · have e13 : x 13 = undef := hD.1 rfl
            have e12 : x 12 = undef := hD.2.1 rfl
            have e9 : x 9 = undef := hD.2.2.1 rfl
            clear hD
            exact want_no (by simp [Region.wanted, yielded, e9, undef]) rfl
          refine ⟨ObS.of_val rfl (fun x v => rfl) (fun x V kst hC hD => ?_), ?_⟩
          · have e14 : x 14 = undef := hD.1 rfl
            have e9 : x 9 = undef := hD.2.1 rfl
            clear hD
            exact want_no (by simp [Region.wanted, yielded, e9, undef]) rfl
          refine ⟨ObS.of_val rfl (fun x v => rfl) (fun x V kst hC hD => ?_), ?_⟩
          · have e15 : x 15 = undef := hD.1 rfl
            have e9 : x 9 = undef := hD.2.1 rfl
            clear hD
            exact want_no (by simp [Region.wanted, yielded, e9, undef]) rfl
          refine ⟨ObS.of_val rfl (fun x v => rfl) (fun x V kst hC hD => ?_), ?_⟩
          · have e9 : x 9 = undef := hD.1 rfl
            clear hD
            exact want_no (by simp [Region.wanted, yielded, e9, undef]) rfl
          refine ⟨ObS.of_val rfl (fun x v => rfl) (fun x V kst hC hD => ?_), ?_⟩
          · have e10 : x 10 = undef := hD.1 rfl
            have e11 : x 11 = undef := hD.2.1 rfl
            have e16 : x 16 = undef := hD.2.2.1 rfl
            have e17 : x 17 = undef := hD.2.2.2.1 rfl
            have e9 : x 9 = undef := hD.2.2.2.2.1 rfl
            clear hD
            exact want_no (by simp [Region.wanted, yielded, e9, undef]) rfl
          refine ⟨ObS.of_val rfl (fun x v => rfl) (fun x V kst hC hD => ?_), ?_⟩
          · have e18 : x 18 = undef := hD.1 rfl
            have e9 : x 9 = undef := hD.2.1 rfl
            clear hD
            exact want_no (by simp [Region.wanted, yielded, e9, undef]) rfl
          refine ⟨ObS.of_val rfl (fun x v => rfl) (fun x V kst hC hD => ?_), ?_⟩
          · have e9 : x 9 = undef := hD.1 rfl
            have e19 : x 19 = undef := hD.2.1 rfl
            have e1 : x 1 = .bool false := hD.2.2.1 rfl
            clear hD
            exact want_no (by simp [Region.wanted, yielded, e1]) rfl
          refine ⟨ObS.of_val rfl (fun x v => rfl) (fun x V kst hC hD => ?_), ?_⟩
          · have e1 : x 1 = .bool false := hD.1 rfl
            have e20 : x 20 = undef := hD.2.1 rfl
            clear hD
            refine want_yes rfl ?_
            exact leads_value (v := .bool false) (by go_simp) ⟨rfl, hC⟩
          trivial
        · intro xa V hC hx
          have e21 : xa 21 = .bool false := hx 21 (by simp)
          have HV := Lib.hid (show MPW w bp m lx ly mx my V from hC)
          clear hx hC
          rw [e21]
          clear e21 hbit
          go_wp2_with fail
          go_roundw
          case rel => first | exact ⟨k + 1, by omega, by go_num, HV.out⟩ | ((repeat apply Exists.intro); exact ⟨⟨k + 1, by omega, by go_num, HV.out⟩, rfl⟩)
          case measure => simp [intOf]; omega
      | true =>
        rw [hc] at hbit
        go_upto_region 7 with fail
        have hcap := HCb.out k
        rw [hc, show decide (k < 16) = true by simpa using hlt, Bool.true_and] at hcap
        unfold capB at hcap
        have hcap2 := hcap.symm
        rw [Bool.and_eq_true, Bool.and_eq_true] at hcap2
        have HN0 := Lib.hid (bit_null (A := m.active) (k := k) HOk.out.active hcap2.1.1)
        have HAk := Lib.hid (fun V hV => HA1.out V hV k hlt)
        rw [hcap2.2] at HAk
        have HPb := Lib.hid (HOk.out.owner k hlt)
        clear hcap hcap2
        generalize hpo : m.owner k = po at HAk HPb
        have HPo := Lib.hid hpo
        clear hpo
        refine wp_region_S (fun _ V => MPW w bp m lx ly mx my V) 0 [.val (.bool true), .val (.bool true), .val (.pointer (some ⟨bp, 65, none⟩)), .val (.int .u16 (m.active : Int)), .val (.int .i64 (k : Int)), .val (.int .u64 (k : Int)), .val (.int .u16 ((m.active : Int) / 2 ^ k)), .val (.int .u16 (bits .and .u16 ((m.active : Int) / 2 ^ k) 1)), .val (.bool false), .val (.bool false), .val (.agg (polC m)), .val (.int .i64 a), .val (.int .i64 (k : Int)), .val (.pointer (some ⟨bp, 49, none⟩)), .val (.pointer (some ⟨bp, 49 + k, none⟩)), .val (.int .u8 (po : Int)), .val (.int .i64 (po : Int)), .val (.agg #[.int .u16 (lx : Int), .int .u16 (ly : Int)]), .val (.bool true), .val (.bool false), .val (.bool false), .val (.bool false)]
          (fun x => { tmps := #[.agg (polC p), .int .i64 a, .agg #[.int .u16 (lx : Int), .int .u16 (ly : Int)], .agg #[.int .u16 (mx : Int), .int .u16 (my : Int)], .pointer (some ⟨bp, 0, none⟩), undef, .pointer (some ⟨bp + 1, 0, none⟩), .pointer (some ⟨bp + 1 + 1, 0, none⟩), u8, .int .u16 (C1 : Int), .int .i64 (k : Int), .bool true, .agg (polC p), .agg (polC m), .agg (polC m), .int .i64 a, .agg #[.int .u16 (lx : Int), .int .u16 (ly : Int)], .int .u16 (C1 : Int), .int .i64 (k : Int), .bool true, u20, u21, .int .u16 (C1 : Int), .int .i64 (k : Int), .int .u64 (k : Int), .int .u16 ((C1 : Int) / 2 ^ k), .int .u16 (bits .and .u16 ((C1 : Int) / 2 ^ k) 1), .bool true, x 0, x 1, x 2, x 3, x 4, x 5, x 6, x 7, x 8, x 9, x 10, x 11, x 12, x 13, x 14, x 15, x 16, x 17, x 18, x 19, x 20, x 21, undef, undef, undef, undef, undef, undef, undef, undef, undef, undef, undef, undef, undef, undef, undef, undef, undef, undef, undef, undef, undef, undef, undef, undef, undef], defers := [] }) (fun i => ([u28, u29, u30, u31, u32, u33, u34, u35, u36, u37, u38, u39, u40, u41, u42, u43, u44, u45, u46, u47, u48, u49] : List Value).getD i undef) (by kernel_rfl) rfl rfl (by kernel_rfl) (by kernel_rfl) (by kernel_rfl) (by kernel_rfl) (HG.out.step (Below.refl _ _).drew) ?_ ?_
        · refine ⟨ObS.of_val rfl (fun x v => rfl) (fun x V kst hC hD => ?_), ?_⟩
          · clear hD
            refine want_yes rfl ?_
            exact leads_value (v := .bool true) (by go_simp) ⟨rfl, hC⟩
          refine ⟨ObS.of_val rfl (fun x v => rfl) (fun x V kst hC hD => ?_), ?_⟩
          · have e0 : x 0 = .bool true := hD.1 rfl
            clear hD
            refine want_yes rfl ?_
            exact leads_value (v := .bool true) (by go_simp) ⟨rfl, hC⟩
          refine ⟨ObS.of_val rfl (fun x v => rfl) (fun x V kst hC hD => ?_), ?_⟩
          · have e1 : x 1 = .bool true := hD.1 rfl
            clear hD
            refine want_yes (by simp [Region.wanted, yielded, e1]) ?_
            exact leads_value (v := .pointer (some ⟨bp, 65, none⟩)) (by go_simp) ⟨rfl, hC⟩
          refine ⟨ObS.of_val rfl (fun x v => rfl) (fun x V kst hC hD => ?_), ?_⟩
          · have e2 : x 2 = .pointer (some ⟨bp, 65, none⟩) := hD.1 rfl
            have e1 : x 1 = .bool true := hD.2.1 rfl
            clear hD
            refine want_yes (by simp [Region.wanted, yielded, e1]) ?_
            have k0 := hC.row.active
            exact leads_value (v := .int .u16 (m.active : Int)) (by go_simp) ⟨rfl, hC⟩
          refine ⟨ObS.of_val rfl (fun x v => rfl) (fun x V kst hC hD => ?_), ?_⟩
          · have e1 : x 1 = .bool true := hD.1 rfl
            clear hD
            refine want_yes (by simp [Region.wanted, yielded, e1]) ?_
            exact leads_value (v := .int .i64 (k : Int)) (by go_simp) ⟨rfl, hC⟩
          refine ⟨ObS.of_val rfl (fun x v => rfl) (fun x V kst hC hD => ?_), ?_⟩
          · have e4 : x 4 = .int .i64 (k : Int) := hD.1 rfl
            have e1 : x 1 = .bool true := hD.2.1 rfl
            clear hD
            refine want_yes (by simp [Region.wanted, yielded, e1]) ?_
            have hw : IntKind.u64.wrap (k : Int) = (k : Int) := by unfold IntKind.wrap; simp [IntKind.signed, IntKind.bits]; omega
            exact leads_value (v := .int .u64 (k : Int)) (by go_simp) ⟨rfl, hC⟩
          refine ⟨ObS.of_val rfl (fun x v => rfl) (fun x V kst hC hD => ?_), ?_⟩
          · have e3 : x 3 = .int .u16 (m.active : Int) := hD.1 rfl
            have e5 : x 5 = .int .u64 (k : Int) := hD.2.1 rfl
            have e1 : x 1 = .bool true := hD.2.2.1 rfl
            clear hD
            refine want_yes (by simp [Region.wanted, yielded, e1]) ?_
            exact leads_value (v := .int .u16 ((m.active : Int) / 2 ^ k)) (by go_simp) ⟨rfl, hC⟩
          refine ⟨ObS.of_val rfl (fun x v => rfl) (fun x V kst hC hD => ?_), ?_⟩
          · have e6 : x 6 = .int .u16 ((m.active : Int) / 2 ^ k) := hD.1 rfl
            have e1 : x 1 = .bool true := hD.2.1 rfl
            clear hD
            refine want_yes (by simp [Region.wanted, yielded, e1]) ?_
            exact leads_value (v := .int .u16 (bits .and .u16 ((m.active : Int) / 2 ^ k) 1)) (by go_simp) ⟨rfl, hC⟩
          refine ⟨ObS.of_val rfl (fun x v => rfl) (fun x V kst hC hD => ?_), ?_⟩
          · have e7 : x 7 = .int .u16 (bits .and .u16 ((m.active : Int) / 2 ^ k) 1) := hD.1 rfl
            have e1 : x 1 = .bool true := hD.2.1 rfl
            clear hD
            refine want_yes (by simp [Region.wanted, yielded, e1]) ?_
            have hb0 := HN0.out
            exact leads_value (v := .bool false) (by go_simp) ⟨rfl, hC⟩
          refine ⟨ObS.of_val rfl (fun x v => rfl) (fun x V kst hC hD => ?_), ?_⟩
          · have e8 : x 8 = .bool false := hD.1 rfl
            have e1 : x 1 = .bool true := hD.2.1 rfl
            clear hD
            refine want_yes (by simp [Region.wanted, yielded, e1]) ?_
            exact leads_value (v := .bool false) (by go_simp) ⟨rfl, hC⟩
          refine ⟨ObS.of_val rfl (fun x v => rfl) (fun x V kst hC hD => ?_), ?_⟩
          · have e9 : x 9 = .bool false := hD.1 rfl
            clear hD
            refine want_yes (by simp [Region.wanted, yielded, e9]) ?_
            exact leads_value (exec_load_pol rfl rfl hC.row) ⟨rfl, hC⟩
          refine ⟨ObS.of_val rfl (fun x v => rfl) (fun x V kst hC hD => ?_), ?_⟩
          · have e9 : x 9 = .bool false := hD.1 rfl
            clear hD
            refine want_yes (by simp [Region.wanted, yielded, e9]) ?_
            exact leads_value (v := .int .i64 a) (by go_simp) ⟨rfl, hC⟩
          refine ⟨ObS.of_val rfl (fun x v => rfl) (fun x V kst hC hD => ?_), ?_⟩
          · have e9 : x 9 = .bool false := hD.1 rfl
            clear hD
            refine want_yes (by simp [Region.wanted, yielded, e9]) ?_
            exact leads_value (v := .int .i64 (k : Int)) (by go_simp) ⟨rfl, hC⟩
          refine ⟨ObS.of_val rfl (fun x v => rfl) (fun x V kst hC hD => ?_), ?_⟩
          · have e9 : x 9 = .bool false := hD.1 rfl
            clear hD
            refine want_yes (by simp [Region.wanted, yielded, e9]) ?_
            exact leads_value (v := .pointer (some ⟨bp, 49, none⟩)) (by go_simp) ⟨rfl, hC⟩
          refine ⟨ObS.of_val rfl (fun x v => rfl) (fun x V kst hC hD => ?_), ?_⟩
          · have e13 : x 13 = .pointer (some ⟨bp, 49, none⟩) := hD.1 rfl
            have e12 : x 12 = .int .i64 (k : Int) := hD.2.1 rfl
            have e9 : x 9 = .bool false := hD.2.2.1 rfl
            clear hD
            refine want_yes (by simp [Region.wanted, yielded, e9]) ?_
            exact leads_value (v := .pointer (some ⟨bp, 49 + k, none⟩)) (by go_simp) ⟨rfl, hC⟩
          refine ⟨ObS.of_val rfl (fun x v => rfl) (fun x V kst hC hD => ?_), ?_⟩
          · have e14 : x 14 = .pointer (some ⟨bp, 49 + k, none⟩) := hD.1 rfl
            have e9 : x 9 = .bool false := hD.2.1 rfl
            clear hD
            refine want_yes (by simp [Region.wanted, yielded, e9]) ?_
            have k0 := hC.row.owner hlt
            rw [HPo.out] at k0
            exact leads_value (v := .int .u8 (po : Int)) (by go_simp) ⟨rfl, hC⟩
          refine ⟨ObS.of_val rfl (fun x v => rfl) (fun x V kst hC hD => ?_), ?_⟩
          · have e15 : x 15 = .int .u8 (po : Int) := hD.1 rfl
            have e9 : x 9 = .bool false := hD.2.1 rfl
            clear hD
            refine want_yes (by simp [Region.wanted, yielded, e9]) ?_
            have hw : IntKind.i64.wrap (po : Int) = (po : Int) := IntWalk.i64_in _ (by have := HPb.out; omega)
            exact leads_value (v := .int .i64 (po : Int)) (by go_simp) ⟨rfl, hC⟩
          refine ⟨ObS.of_val rfl (fun x v => rfl) (fun x V kst hC hD => ?_), ?_⟩
          · have e9 : x 9 = .bool false := hD.1 rfl
            clear hD
            refine want_yes (by simp [Region.wanted, yielded, e9]) ?_
            have k0 := hC.lab.cell 0
            have k1 := hC.lab.cell 1
            exact leads_value (v := .agg #[.int .u16 (lx : Int), .int .u16 (ly : Int)]) (by go_simp) ⟨rfl, hC⟩
          refine ⟨ObS.of_val rfl (fun x v => rfl) (fun x V kst hC hD => ?_), ?_⟩
          · have e10 : x 10 = .agg (polC m) := hD.1 rfl
            have e11 : x 11 = .int .i64 a := hD.2.1 rfl
            have e16 : x 16 = .int .i64 (po : Int) := hD.2.2.1 rfl
            have e17 : x 17 = .agg #[.int .u16 (lx : Int), .int .u16 (ly : Int)] := hD.2.2.2.1 rfl
            have e9 : x 9 = .bool false := hD.2.2.2.2.1 rfl
            clear hD
            refine want_yes (by simp [Region.wanted, yielded, e9]) ?_
            exact leads_enter2 (by go_simp) ((HAk.out V hC.all).mono fun e w'' ⟨he, hB⟩ => ⟨_, he, rfl, hC.step hB⟩)
          refine ⟨ObS.of_val rfl (fun x v => rfl) (fun x V kst hC hD => ?_), ?_⟩
          · have e18 : x 18 = .bool true := hD.1 rfl
            have e9 : x 9 = .bool false := hD.2.1 rfl
            clear hD
            refine want_yes (by simp [Region.wanted, yielded, e9]) ?_
            exact leads_value (v := .bool false) (by go_simp) ⟨rfl, hC⟩
          refine ⟨ObS.of_val rfl (fun x v => rfl) (fun x V kst hC hD => ?_), ?_⟩
          · have e9 : x 9 = .bool false := hD.1 rfl
            have e19 : x 19 = .bool false := hD.2.1 rfl
            have e1 : x 1 = .bool true := hD.2.2.1 rfl
            clear hD
            refine want_yes (by simp [Region.wanted, yielded, e1]) ?_
            exact leads_value (v := .bool false) (by go_simp) ⟨rfl, hC⟩
          refine ⟨ObS.of_val rfl (fun x v => rfl) (fun x V kst hC hD => ?_), ?_⟩
          · have e1 : x 1 = .bool true := hD.1 rfl
            have e20 : x 20 = .bool false := hD.2.1 rfl
            clear hD
            refine want_yes rfl ?_
            exact leads_value (v := .bool false) (by go_simp) ⟨rfl, hC⟩
          trivial
        · intro xa V hC hx
          have e21 : xa 21 = .bool false := hx 21 (by simp)
          have HV := Lib.hid (show MPW w bp m lx ly mx my V from hC)
          clear hx hC
          rw [e21]
          clear e21 hbit
          go_wp2_with fail
          go_roundw
          case rel => first | exact ⟨k + 1, by omega, by go_num, HV.out⟩ | ((repeat apply Exists.intro); exact ⟨⟨k + 1, by omega, by go_num, HV.out⟩, rfl⟩)
          case measure => simp [intOf]; omega
    · obtain rfl : k = 16 := by omega
      have l0 := HG.out.lab.cell 0
      have l1 := HG.out.lab.cell 1
      have m0 := HG.out.lam.cell 0
      have m1 := HG.out.lam.cell 1
      cases hf : flowsB lx ly mx my with
      | false =>
        rw [hf] at HFl
        go_wp2_with fail
        refine (HFl.out _).mono ?_
        rintro e w5 ⟨rfl, hB5⟩
        have HG5 := Lib.hid (HG.out.step hB5)
        clear hB5 l0 l1 m0 m1 HG
        go_wp2_with fail
        refine (HAl.out _ HG5.out.all).mono ?_
        rintro e w6 ⟨rfl, hB6⟩
        have HG6 := Lib.hid (HG5.out.step hB6)
        clear hB6 HG5
        go_wp2_with fail
        go_ret
        exact ⟨rfl, HG6.out.all⟩
      | true =>
        rw [hf] at HFl
        obtain ⟨h1, h2⟩ := HMo.out hf
        have HN1 := Lib.hid (less_null HSl.out.1 HSl.out.2 h1)
        have HN2 := Lib.hid (less_null HCl.out.1 HCl.out.2 h2)
        clear h1 h2 hf
        go_wp2_with fail
        refine (HFl.out _).mono ?_
        rintro e w5 ⟨rfl, hB5⟩
        have HG5 := Lib.hid (HG.out.step hB5)
        clear hB5 l0 l1 m0 m1 HG
        go_upto_region 11 with fail
        refine wp_region_S (fun _ V => MPW w bp m lx ly mx my V) 0 [.val (.agg (polC m)), .val (.agg #[.int .u16 (lx : Int), .int .u16 (ly : Int)]), .val (.int .u16 (S1 : Int)), .val (.agg (polC m)), .val (.agg #[.int .u16 (mx : Int), .int .u16 (my : Int)]), .val (.int .u16 (S2 : Int)), .val (.int .u16 0), .val (.bool true), .val (.bool true), .val (.int .u16 (C1 : Int)), .val (.agg (polC m)), .val (.int .i64 a), .val (.agg #[.int .u16 (mx : Int), .int .u16 (my : Int)]), .val (.int .u16 (C2 : Int)), .val (.int .u16 0), .val (.bool true), .val (.bool true), .val (.bool true), .val (.bool true), .val (.bool true), .val (.bool true)]
          (fun x => { tmps := #[.agg (polC p), .int .i64 a, .agg #[.int .u16 (lx : Int), .int .u16 (ly : Int)], .agg #[.int .u16 (mx : Int), .int .u16 (my : Int)], .pointer (some ⟨bp, 0, none⟩), undef, .pointer (some ⟨bp + 1, 0, none⟩), .pointer (some ⟨bp + 1 + 1, 0, none⟩), x 20, .int .u16 (C1 : Int), .int .i64 16, u11, .agg (polC p), .agg (polC m), .agg (polC m), .int .i64 a, .agg #[.int .u16 (lx : Int), .int .u16 (ly : Int)], .int .u16 (C1 : Int), .int .i64 16, .bool false, u20, u21, u22, u23, u24, u25, u26, u27, u28, u29, u30, u31, u32, u33, u34, u35, u36, u37, u38, u39, u40, u41, u42, u43, u44, u45, u46, u47, u48, u49, .agg #[.int .u16 (lx : Int), .int .u16 (ly : Int)], .agg #[.int .u16 (mx : Int), .int .u16 (my : Int)], .bool true, .bool false, undef, x 0, x 1, x 2, x 3, x 4, x 5, x 6, x 7, x 8, x 9, x 10, x 11, x 12, x 13, x 14, x 15, x 16, x 17, x 18, x 19], defers := [] }) (fun i => ([undef, undef, undef, undef, undef, undef, undef, undef, undef, undef, undef, undef, undef, undef, undef, undef, undef, undef, undef, undef, u8] : List Value).getD i undef) (by kernel_rfl) rfl rfl (by kernel_rfl) (by kernel_rfl) (by kernel_rfl) (by kernel_rfl) (HG5.out.step (Below.refl _ _).drew) ?_ ?_
        · refine ⟨ObS.of_val rfl (fun x v => rfl) (fun x V kst hC hD => ?_), ?_⟩
          · clear hD
            refine want_yes rfl ?_
            exact leads_value (exec_load_pol rfl rfl hC.row) ⟨rfl, hC⟩
          refine ⟨ObS.of_val rfl (fun x v => rfl) (fun x V kst hC hD => ?_), ?_⟩
          · clear hD
            refine want_yes rfl ?_
            have k0 := hC.lab.cell 0
            have k1 := hC.lab.cell 1
            exact leads_value (v := .agg #[.int .u16 (lx : Int), .int .u16 (ly : Int)]) (by go_simp) ⟨rfl, hC⟩
          refine ⟨ObS.of_val rfl (fun x v => rfl) (fun x V kst hC hD => ?_), ?_⟩
          · have e0 : x 0 = .agg (polC m) := hD.1 rfl
            have e1 : x 1 = .agg #[.int .u16 (lx : Int), .int .u16 (ly : Int)] := hD.2.1 rfl
            clear hD
            refine want_yes rfl ?_
            exact leads_enter2 (by go_simp) ((HS1.out V).mono fun e w'' ⟨he, hB⟩ => ⟨_, he, rfl, hC.step hB⟩)
          refine ⟨ObS.of_val rfl (fun x v => rfl) (fun x V kst hC hD => ?_), ?_⟩
          · clear hD
            refine want_yes rfl ?_
            exact leads_value (exec_load_pol rfl rfl hC.row) ⟨rfl, hC⟩
          refine ⟨ObS.of_val rfl (fun x v => rfl) (fun x V kst hC hD => ?_), ?_⟩
          · clear hD
            refine want_yes rfl ?_
            have k0 := hC.lam.cell 0
            have k1 := hC.lam.cell 1
            exact leads_value (v := .agg #[.int .u16 (mx : Int), .int .u16 (my : Int)]) (by go_simp) ⟨rfl, hC⟩
          refine ⟨ObS.of_val rfl (fun x v => rfl) (fun x V kst hC hD => ?_), ?_⟩
          · have e3 : x 3 = .agg (polC m) := hD.1 rfl
            have e4 : x 4 = .agg #[.int .u16 (mx : Int), .int .u16 (my : Int)] := hD.2.1 rfl
            have e2 : x 2 = .int .u16 (S1 : Int) := hD.2.2.1 rfl
            clear hD
            refine want_yes rfl ?_
            exact leads_enter2 (by go_simp) ((HS2.out V).mono fun e w'' ⟨he, hB⟩ => ⟨_, he, rfl, hC.step hB⟩)
          refine ⟨ObS.of_val rfl (fun x v => rfl) (fun x V kst hC hD => ?_), ?_⟩
          · have e2 : x 2 = .int .u16 (S1 : Int) := hD.1 rfl
            have e5 : x 5 = .int .u16 (S2 : Int) := hD.2.1 rfl
            clear hD
            refine want_yes rfl ?_
            have hn := HN1.out
            exact leads_value (v := .int .u16 0) (by go_simp) ⟨rfl, hC⟩
          refine ⟨ObS.of_val rfl (fun x v => rfl) (fun x V kst hC hD => ?_), ?_⟩
          · have e6 : x 6 = .int .u16 0 := hD.1 rfl
            clear hD
            refine want_yes rfl ?_
            exact leads_value (v := .bool true) (by go_simp) ⟨rfl, hC⟩
          refine ⟨ObS.of_val rfl (fun x v => rfl) (fun x V kst hC hD => ?_), ?_⟩
          · have e7 : x 7 = .bool true := hD.1 rfl
            have e5 : x 5 = .int .u16 (S2 : Int) := hD.2.1 rfl
            clear hD
            refine want_yes rfl ?_
            exact leads_value (v := .bool true) (by go_simp) ⟨rfl, hC⟩
          refine ⟨ObS.of_val rfl (fun x v => rfl) (fun x V kst hC hD => ?_), ?_⟩
          · have e8 : x 8 = .bool true := hD.1 rfl
            clear hD
            refine want_yes (by simp [Region.wanted, yielded, e8]) ?_
            exact leads_value (v := .int .u16 (C1 : Int)) (by go_simp) ⟨rfl, hC⟩
          refine ⟨ObS.of_val rfl (fun x v => rfl) (fun x V kst hC hD => ?_), ?_⟩
          · have e8 : x 8 = .bool true := hD.1 rfl
            clear hD
            refine want_yes (by simp [Region.wanted, yielded, e8]) ?_
            exact leads_value (exec_load_pol rfl rfl hC.row) ⟨rfl, hC⟩
          refine ⟨ObS.of_val rfl (fun x v => rfl) (fun x V kst hC hD => ?_), ?_⟩
          · have e8 : x 8 = .bool true := hD.1 rfl
            clear hD
            refine want_yes (by simp [Region.wanted, yielded, e8]) ?_
            exact leads_value (v := .int .i64 a) (by go_simp) ⟨rfl, hC⟩
          refine ⟨ObS.of_val rfl (fun x v => rfl) (fun x V kst hC hD => ?_), ?_⟩
          · have e8 : x 8 = .bool true := hD.1 rfl
            clear hD
            refine want_yes (by simp [Region.wanted, yielded, e8]) ?_
            have k0 := hC.lam.cell 0
            have k1 := hC.lam.cell 1
            exact leads_value (v := .agg #[.int .u16 (mx : Int), .int .u16 (my : Int)]) (by go_simp) ⟨rfl, hC⟩
          refine ⟨ObS.of_val rfl (fun x v => rfl) (fun x V kst hC hD => ?_), ?_⟩
          · have e10 : x 10 = .agg (polC m) := hD.1 rfl
            have e11 : x 11 = .int .i64 a := hD.2.1 rfl
            have e12 : x 12 = .agg #[.int .u16 (mx : Int), .int .u16 (my : Int)] := hD.2.2.1 rfl
            have e8 : x 8 = .bool true := hD.2.2.2.1 rfl
            clear hD
            refine want_yes (by simp [Region.wanted, yielded, e8]) ?_
            exact leads_enter2 (by go_simp) ((HC2.out V hC.all).mono fun e w'' ⟨he, hB⟩ => ⟨_, he, rfl, hC.step hB⟩)
          refine ⟨ObS.of_val rfl (fun x v => rfl) (fun x V kst hC hD => ?_), ?_⟩
          · have e9 : x 9 = .int .u16 (C1 : Int) := hD.1 rfl
            have e13 : x 13 = .int .u16 (C2 : Int) := hD.2.1 rfl
            have e8 : x 8 = .bool true := hD.2.2.1 rfl
            clear hD
            refine want_yes (by simp [Region.wanted, yielded, e8]) ?_
            have hn := HN2.out
            exact leads_value (v := .int .u16 0) (by go_simp) ⟨rfl, hC⟩
          refine ⟨ObS.of_val rfl (fun x v => rfl) (fun x V kst hC hD => ?_), ?_⟩
          · have e14 : x 14 = .int .u16 0 := hD.1 rfl
            have e8 : x 8 = .bool true := hD.2.1 rfl
            clear hD
            refine want_yes (by simp [Region.wanted, yielded, e8]) ?_
            exact leads_value (v := .bool true) (by go_simp) ⟨rfl, hC⟩
          refine ⟨ObS.of_val rfl (fun x v => rfl) (fun x V kst hC hD => ?_), ?_⟩
          · have e8 : x 8 = .bool true := hD.1 rfl
            have e15 : x 15 = .bool true := hD.2.1 rfl
            clear hD
            refine want_yes rfl ?_
            exact leads_value (v := .bool true) (by go_simp) ⟨rfl, hC⟩
          refine ⟨ObS.of_val rfl (fun x v => rfl) (fun x V kst hC hD => ?_), ?_⟩
          · have e16 : x 16 = .bool true := hD.1 rfl
            have e13 : x 13 = .int .u16 (C2 : Int) := hD.2.1 rfl
            clear hD
            refine want_yes rfl ?_
            exact leads_value (v := .bool true) (by go_simp) ⟨rfl, hC⟩
          refine ⟨ObS.of_val rfl (fun x v => rfl) (fun x V kst hC hD => ?_), ?_⟩
          · have e17 : x 17 = .bool true := hD.1 rfl
            clear hD
            refine want_yes (by simp [Region.wanted, yielded, e17]) ?_
            exact leads_enter2 (by go_simp) ((HAl.out V hC.all).mono fun e w'' ⟨he, hB⟩ => ⟨_, he, rfl, hC.step hB⟩)
          refine ⟨ObS.of_val rfl (fun x v => rfl) (fun x V kst hC hD => ?_), ?_⟩
          · have e17 : x 17 = .bool true := hD.1 rfl
            have e18 : x 18 = .bool true := hD.2.1 rfl
            clear hD
            refine want_yes rfl ?_
            exact leads_value (v := .bool true) (by go_simp) ⟨rfl, hC⟩
          refine ⟨ObS.of_val rfl (fun x v => rfl) (fun x V kst hC hD => ?_), ?_⟩
          · have e19 : x 19 = .bool true := hD.1 rfl
            have e18 : x 18 = .bool true := hD.2.1 rfl
            have e0 : x 0 = .agg (polC m) := hD.2.2.1 rfl
            have e1 : x 1 = .agg #[.int .u16 (lx : Int), .int .u16 (ly : Int)] := hD.2.2.2.1 rfl
            have e2 : x 2 = .int .u16 (S1 : Int) := hD.2.2.2.2.1 rfl
            have e3 : x 3 = .agg (polC m) := hD.2.2.2.2.2.1 rfl
            have e4 : x 4 = .agg #[.int .u16 (mx : Int), .int .u16 (my : Int)] := hD.2.2.2.2.2.2.1 rfl
            have e5 : x 5 = .int .u16 (S2 : Int) := hD.2.2.2.2.2.2.2.1 rfl
            have e6 : x 6 = .int .u16 0 := hD.2.2.2.2.2.2.2.2.1 rfl
            have e7 : x 7 = .bool true := hD.2.2.2.2.2.2.2.2.2.1 rfl
            have e8 : x 8 = .bool true := hD.2.2.2.2.2.2.2.2.2.2.1 rfl
            have e9 : x 9 = .int .u16 (C1 : Int) := hD.2.2.2.2.2.2.2.2.2.2.2.1 rfl
            have e10 : x 10 = .agg (polC m) := hD.2.2.2.2.2.2.2.2.2.2.2.2.1 rfl
            have e11 : x 11 = .int .i64 a := hD.2.2.2.2.2.2.2.2.2.2.2.2.2.1 rfl
            have e12 : x 12 = .agg #[.int .u16 (mx : Int), .int .u16 (my : Int)] := hD.2.2.2.2.2.2.2.2.2.2.2.2.2.2.1 rfl
            have e13 : x 13 = .int .u16 (C2 : Int) := hD.2.2.2.2.2.2.2.2.2.2.2.2.2.2.2.1 rfl
            have e14 : x 14 = .int .u16 0 := hD.2.2.2.2.2.2.2.2.2.2.2.2.2.2.2.2.1 rfl
            have e15 : x 15 = .bool true := hD.2.2.2.2.2.2.2.2.2.2.2.2.2.2.2.2.2.1 rfl
            have e16 : x 16 = .bool true := hD.2.2.2.2.2.2.2.2.2.2.2.2.2.2.2.2.2.2.1 rfl
            have e17 : x 17 = .bool true := hD.2.2.2.2.2.2.2.2.2.2.2.2.2.2.2.2.2.2.2.1 rfl
            clear hD
            refine want_yes rfl ?_
            exact leads_value (v := .bool true) (by go_simp) ⟨rfl, hC⟩
          trivial
        · intro xa V hC hx
          have e20 : xa 20 = .bool true := hx 20 (by simp)
          have HV := Lib.hid (show MPW w bp m lx ly mx my V from hC)
          clear hx hC
          rw [e20]
          clear e20
          go_wp2_with fail
          go_ret
          exact ⟨rfl, HV.out.all⟩
end Go.Proofs.YtoieodlpoglmfaaDoor

/-! PlainArg -/
namespace Go.Proofs.YtoieodlpoglmfaaDoor
theorem ownP : ownKnob Tryd.prog.godebug = none := by kernel_rfl
end Go.Proofs.YtoieodlpoglmfaaDoor

/-! ByteArg -/
namespace Go.Proofs.YtoieodlpoglmfaaDoor
open Go.ChangeShapes Go.WideShapes Go.ChangeAt Go.RowKit Go.Deep

theorem cellsBytP : Tryd.prog.cellsOf 5 = 1 := by kernel_rfl
theorem i64_wf {z : Int} (h : (Lit.int .i64 z).wf = true) : -9223372036854775808 ≤ z ∧ z ≤ 9223372036854775807 := by
  have b1 : IntKind.i64.min = -9223372036854775808 := rfl
  have b2 : IntKind.i64.max = 9223372036854775807 := rfl
  simp only [Lit.wf, Bool.and_eq_true, decide_eq_true_eq] at h
  omega
theorem u32_of_wf {z : Int} (h : (Lit.int .u32 z).wf = true) : ∃ n : Nat, z = (n : Int) ∧ n < 4294967296 := by
  have b1 : IntKind.u32.min = 0 := rfl
  have b2 : IntKind.u32.max = 4294967295 := rfl
  simp only [Lit.wf, Bool.and_eq_true, decide_eq_true_eq] at h
  exact ⟨z.toNat, by omega, by omega⟩
theorem plain_addr {a : Addr} (h : a.spot = none) (n : Nat) : a.add n = ⟨a.block, a.off + n, none⟩ := by
  obtain ⟨b, o, s⟩ := a
  simp only at h
  subst h
  unfold Addr.add; split <;> simp_all
theorem choose_parts {α : Type} {n : Nat} {P : Nat → α → Prop} (d : α) (h : ∀ i, i < n → ∃ q, P i q) : ∃ q : Nat → α, ∀ i, i < n → P i (q i) := by
  refine ⟨fun i => if hi : i < n then Classical.choose (h i hi) else d, fun i hi => ?_⟩
  simp only [dif_pos hi]
  exact Classical.choose_spec (h i hi)

set_option maxRecDepth 100000 in
theorem bytes_of_arg {H : Type} {enc : TypeId × Value → H} {W : World} {a0 : Option Addr} {len cap : Nat} {d : DataW H} {p : List MemPlace}
    (h : DataW.Trod enc Tryd.prog W 0 (fun _ => true) true 48 (.slice a0 len cap) d p) : ∃ l : List UInt8, BsAt W a0 len cap l := by
  obtain ⟨fuel, hf⟩ := h
  rcases open_slice Tryd.underlying48 hf with ⟨hcs, hx⟩ | ⟨a, len', cap', m, n, D, Pl, hcs, hb, hl, hm, hmm, hx, hi⟩
  · simp [Value.cells] at hcs
    obtain ⟨rfl, rfl, rfl⟩ := hcs
    exact ⟨[], bsAt_nil W⟩
  · simp [Value.cells] at hcs
    obtain ⟨rfl, rfl, rfl⟩ := hcs
    simp only [if_true] at hmm
    have each : ∀ i, i < len → ∃ q : UInt8, W.cell? (a.add i) = some (.int .u8 (q.toNat : Int)) := by
      intro i hil
      obtain ⟨cs', h1, h2⟩ := hi i (by omega)
      rw [cellsBytP, Nat.mul_one] at h1
      obtain ⟨_, hlen, hcell⟩ := World.cells?_some h1
      obtain ⟨z, e0, _, wz⟩ := DataW.trod_int Tryd.underlying5 h2
      have b1 : IntKind.u8.min = 0 := rfl
      have b2 : IntKind.u8.max = 255 := rfl
      simp only [Lit.wf, Bool.and_eq_true, decide_eq_true_eq] at wz
      have hc := hcell 0 (by omega)
      rw [add_add, e0] at hc
      obtain ⟨k, rfl⟩ := Int.eq_ofNat_of_zero_le (show 0 ≤ z by omega)
      refine ⟨UInt8.ofNat k, ?_⟩
      rw [Nat.add_zero] at hc
      rw [hc]
      simp
      omega
    obtain ⟨q, hq⟩ := choose_parts (0 : UInt8) each
    refine ⟨(List.range len).map q, by simp, hl, hm, ?_⟩
    by_cases hc0 : 0 < len
    · have hspot : a.spot = none := by simpa [Addr.add] using World.cell?_spot (hq 0 hc0)
      refine .inr (.inr ⟨a.block, a.off, ?_, ?_, fun i hi => ?_⟩)
      · obtain ⟨b, o, s⟩ := a
        simp only at hspot
        subst hspot; rfl
      · have := hq 0 hc0
        rw [plain_addr hspot] at this
        exact World.block_lt_of_cell? W ⟨a.block, _, none⟩ this
      · have hi' : i < len := by simpa using hi
        have := hq i hi'
        rw [plain_addr hspot] at this
        simpa using this
    · obtain rfl : len = 0 := by omega
      exact .inr (.inl ⟨rfl, by simp⟩)

end Go.Proofs.YtoieodlpoglmfaaDoor

/-! PbArg -/
namespace Go.Proofs.YtoieodlpoglmfaaDoor
open Go.ChangeShapes Go.WideShapes Go.ChangeAt Go.RowKit Go.Deep

theorem cellsPb1 : Tryd.prog.cellsOf 5 = 1 := by kernel_rfl
theorem byte_of {z : Int} (h : (Lit.int .u8 z).wf = true) : ∃ b : UInt8, z = (b.toNat : Int) := by
  have b1 : IntKind.u8.min = 0 := rfl
  have b2 : IntKind.u8.max = 255 := rfl
  simp only [Lit.wf, Bool.and_eq_true, decide_eq_true_eq] at h
  obtain ⟨k, rfl⟩ := Int.eq_ofNat_of_zero_le (show 0 ≤ z by omega)
  exact ⟨UInt8.ofNat k, by simp; omega⟩
end Go.Proofs.YtoieodlpoglmfaaDoor

/-! FrmArg -/
namespace Go.Proofs.YtoieodlpoglmfaaDoor
open Go.ChangeShapes Go.WideShapes Go.ChangeAt Go.RowKit

theorem u16_of_wf {z : Int} (h : (Lit.int .u16 z).wf = true) : ∃ n : Nat, z = (n : Int) ∧ n < 65536 := by
  have b1 : IntKind.u16.min = 0 := rfl
  have b2 : IntKind.u16.max = 65535 := rfl
  simp only [Lit.wf, Bool.and_eq_true, decide_eq_true_eq] at h
  exact ⟨z.toNat, by omega, by omega⟩
set_option maxRecDepth 100000 in
theorem frArg_bool {H : Type} {enc : TypeId × Value → H} {W : World} {b0 : Nat} {v : Value} {d : DataW H} {p : List MemPlace} (hv : Value.okWide Tryd.prog W .any b0 4 v) (h : DataW.Trod enc Tryd.prog W 0 (fun _ => true) true 4 v d p) : ∃ s : Bool, v = .bool s := by
  obtain ⟨s, rfl, -, -⟩ := open_bool Tryd.underlying4 hv h
  exact ⟨s, rfl⟩
end Go.Proofs.YtoieodlpoglmfaaDoor

/-! MapArg -/
namespace Go.Proofs.YtoieodlpoglmfaaDoor
open Go.ChangeShapes Go.WideShapes Go.ChangeAt Go.RowKit Go.Deep

theorem aCellsMap : Tryd.prog.cellsOf 42 = 16 := by kernel_rfl
theorem aCellsU8 : Tryd.prog.cellsOf 5 = 1 := by kernel_rfl
theorem aCellsPair : Tryd.prog.cellsOf 74 = 2 := by kernel_rfl
theorem aCellsInt : Tryd.prog.cellsOf 3 = 1 := by kernel_rfl

set_option maxRecDepth 100000 in
theorem map_of_arg {H : Type} {enc : TypeId × Value → H} {W : World} {r : Reach} {b0 : Nat} {v : Value} {d : DataW H} {p : List MemPlace}
    (hv : Value.okWide Tryd.prog W r b0 42 v) (h : DataW.Trod enc Tryd.prog W 0 (fun _ => true) true 42 v d p) : ∃ f, MapOk f ∧ v = .agg (mapC f) := by
  unfold Value.okWide at hv
  rw [Tryd.underlying42] at hv
  obtain ⟨cs, rfl, hs, -⟩ := hv
  rw [aCellsMap] at hs
  obtain ⟨fuel, hf⟩ := h
  obtain ⟨xs, m, -, -, -, hxl, hx⟩ := DataW.trod_array Tryd.underlying42 hf
  have each : ∀ i, i < 16 → ∃ q : Nat, q < 256 ∧ cs[i]? = some (.int .u8 (q : Nat)) := by
    intro i hi
    have h1 := hx i hi
    rw [aCellsU8, Nat.mul_one, List.getElem?_eq_getElem (by omega)] at h1
    have h2 : (((Value.agg cs).cells.toList.drop i).take 1) = [cs[i]'(by omega)] := by
      have hl : i < cs.toList.length := by simp; omega
      show (cs.toList.drop i).take 1 = _
      rw [List.drop_eq_getElem_cons hl]
      simp
    rw [h2] at h1
    obtain ⟨z, e0, _, wz⟩ := DataW.trod_int Tryd.underlying5 h1
    have bz := bounds_u8 wz
    obtain ⟨n, rfl⟩ := Int.eq_ofNat_of_zero_le bz.1
    refine ⟨n, by omega, ?_⟩
    rw [Array.getElem?_eq_getElem (by omega)]
    simpa using e0
  obtain ⟨q, hq⟩ := choose_lt each
  exact ⟨q, fun t ht => (hq t ht).1, by rw [mapC_of hs fun t ht => (hq t ht).2]⟩

set_option maxRecDepth 100000 in
theorem pairs_of_arg {H : Type} {enc : TypeId × Value → H} {W : World} {a0 : Option Addr} {len cap : Nat} {d : DataW H} {p : List MemPlace}
    (h : DataW.Trod enc Tryd.prog W 0 (fun _ => true) true 41 (.slice a0 len cap) d p) : ∃ l : List (Int × Int), l.length = len ∧ (l.length ≤ 40 → PairsAt W (.slice a0 l.length cap) l) := by
  obtain ⟨fuel, hf⟩ := h
  rcases open_slice Tryd.underlying41 hf with ⟨hcs, hx⟩ | ⟨a, len', cap', m, n, D, Pl, hcs, hb, hl, hm, hmm, hx, hi⟩
  · simp [Value.cells] at hcs
    obtain ⟨rfl, rfl, rfl⟩ := hcs
    exact ⟨[], rfl, fun _ => ⟨none, 0, rfl, by simp, by simp, fun h => absurd rfl h⟩⟩
  · simp [Value.cells] at hcs
    obtain ⟨rfl, rfl, rfl⟩ := hcs
    simp only [if_true] at hmm
    have each : ∀ i, i < len → ∃ q : Int × Int, W.cell? (a.add (i * 2)) = some (.int .i64 q.1) ∧ W.cell? (a.add (i * 2 + 1)) = some (.int .i64 q.2) := by
      intro i hil
      obtain ⟨cs', h1, h2⟩ := hi i (by omega)
      rw [aCellsPair] at h1
      obtain ⟨_, hlen, hcell⟩ := World.cells?_some h1
      obtain ⟨xs, k, _, _, _, hxl, hxx⟩ := DataW.trod_array Tryd.underlying74 h2
      match cs', hlen with
      | [v0, v1], _ =>
        have g0 := hxx 0 (by decide)
        have g1 := hxx 1 (by decide)
        rw [aCellsInt, List.getElem?_eq_getElem (by omega)] at g0 g1
        simp at g0 g1
        obtain ⟨x, e0, _, _⟩ := DataW.trod_int Tryd.underlying3 g0
        obtain ⟨y, e1, _, _⟩ := DataW.trod_int Tryd.underlying3 g1
        simp at e0 e1
        have c0 := hcell 0 (by omega)
        have c1 := hcell 1 (by omega)
        rw [add_add] at c0 c1
        exact ⟨(x, y), by rw [← e0]; simpa using c0, by rw [← e1]; simpa using c1⟩
    obtain ⟨q, hq⟩ := choose_lt each
    have htl : ((List.range len).map fun i => ((q i).1, (q i).2)).length = len := by simp
    refine ⟨(List.range len).map fun i => ((q i).1, (q i).2), htl, fun h40 => ?_⟩
    rw [htl] at h40
    by_cases hl0 : len = 0
    · subst hl0
      exact ⟨some a, cap, rfl, by simp, by simp, fun h => absurd rfl h⟩
    · obtain ⟨b, off, spot⟩ := a
      have hspot : spot = none := by simpa [Addr.add] using World.cell?_spot (hq 0 (by omega)).1
      subst hspot
      refine ⟨_, cap, rfl, by rw [htl]; omega, by rw [htl]; exact hl, fun _ => ⟨b, off, rfl, ?_, fun i hi => ?_⟩⟩
      · have := (hq 0 (by omega)).1
        rw [add_plain] at this
        exact block_lt_of_cell this
      · rw [htl] at hi
        obtain ⟨h0, h1⟩ := hq i hi
        rw [add_plain] at h0 h1
        simp only [List.getElem_map, List.getElem_range]
        exact ⟨h0, h1⟩

end Go.Proofs.YtoieodlpoglmfaaDoor

/-! PolArg -/
namespace Go.Proofs.YtoieodlpoglmfaaDoor
open Go.ChangeShapes Go.WideShapes Go.ChangeAt Go.RowKit Go.Deep

theorem pCellsActs : Tryd.prog.cellsOf 26 = 16 := by kernel_rfl
theorem pCellsSet : Tryd.prog.cellsOf 22 = 1 := by kernel_rfl
theorem pCellsByte : Tryd.prog.cellsOf 5 = 1 := by kernel_rfl
theorem pCellsOwn : Tryd.prog.cellsOf 27 = 16 := by kernel_rfl
theorem pCellsLab : Tryd.prog.cellsOf 24 = 2 := by kernel_rfl
theorem pCellsLabs : Tryd.prog.cellsOf 25 = 32 := by kernel_rfl
theorem pCellsPol : Tryd.prog.cellsOf 29 = 66 := by kernel_rfl
theorem pCellsInt : Tryd.prog.cellsOf 3 = 1 := by kernel_rfl
theorem pCellsAsk : Tryd.prog.cellsOf 31 = 71 := by kernel_rfl
theorem pick16 {P : Nat → Nat → Prop} : ∀ {n : Nat}, (∀ i, i < n → ∃ q, P i q) → ∃ f : Nat → Nat, ∀ i, i < n → P i (f i)
  | 0, _ => ⟨fun _ => 0, fun i hi => by omega⟩
  | n + 1, h => by
    obtain ⟨f, hf⟩ := pick16 (n := n) fun i hi => h i (by omega)
    obtain ⟨q, hq⟩ := h n (by omega)
    refine ⟨fun i => if i = n then q else f i, fun i hi => ?_⟩
    by_cases e : i = n
    · subst e; simpa using hq
    · simp only [if_neg e]; exact hf i (by omega)
theorem one_cell {L : List Value} {j : Nat} (hj : j < L.length) : (L.drop j).take 1 = [L[j]] := by
  rw [List.drop_eq_getElem_cons hj]; rfl
section
variable {H : Type} {enc : TypeId × Value → H} {W : World} {fuel : Nat} {L : List Value} {y : DataW H × List MemPlace}
theorem set_of_cell {j : Nat} (hj : j < L.length) (h : DataW.trod enc Tryd.prog W 0 (fun _ => true) true fuel 22 ((L.drop j).take (Tryd.prog.cellsOf 22)) = some y) : ∃ n : Nat, n < 65536 ∧ L[j]? = some (.int .u16 (n : Nat)) := by
  rw [pCellsSet, one_cell hj] at h
  obtain ⟨z, e, _, wz⟩ := DataW.trod_int Tryd.underlying22 h
  obtain ⟨n, rfl, hn⟩ := u16_of_wf wz
  refine ⟨n, hn, ?_⟩
  rw [List.getElem?_eq_getElem hj]
  simpa using e
theorem int_of_cell {j : Nat} (hj : j < L.length) (h : DataW.trod enc Tryd.prog W 0 (fun _ => true) true fuel 3 ((L.drop j).take (Tryd.prog.cellsOf 3)) = some y) : ∃ n : Int, -9223372036854775808 ≤ n ∧ n ≤ 9223372036854775807 ∧ L[j]? = some (.int .i64 n) := by
  rw [pCellsInt, one_cell hj] at h
  obtain ⟨z, e, _, wz⟩ := DataW.trod_int Tryd.underlying3 h
  have b := bounds_i64 wz
  refine ⟨z, b.1, b.2, ?_⟩
  rw [List.getElem?_eq_getElem hj]
  simpa using e
theorem acts_of_cells (hL : L.length = 16) (h : DataW.trod enc Tryd.prog W 0 (fun _ => true) true fuel 26 L = some y) : ∃ f : Nat → Nat, ∀ i, i < 16 → f i < 65536 ∧ L[i]? = some (.int .u16 (f i : Nat)) := by
  obtain ⟨xs, m, -, -, -, hxl, hx⟩ := DataW.trod_array Tryd.underlying26 h
  refine pick16 (P := fun i q => q < 65536 ∧ L[i]? = some (.int .u16 (q : Nat))) fun i hi => ?_
  have h1 := hx i hi
  rw [pCellsSet, Nat.mul_one, ← pCellsSet, List.getElem?_eq_getElem (by omega)] at h1
  exact set_of_cell (by omega) h1
theorem owns_of_cells (hL : L.length = 16) (h : DataW.trod enc Tryd.prog W 0 (fun _ => true) true fuel 27 L = some y) : ∃ f : Nat → Nat, ∀ i, i < 16 → f i < 256 ∧ L[i]? = some (.int .u8 (f i : Nat)) := by
  obtain ⟨xs, m, -, -, -, hxl, hx⟩ := DataW.trod_array Tryd.underlying27 h
  refine pick16 (P := fun i q => q < 256 ∧ L[i]? = some (.int .u8 (q : Nat))) fun i hi => ?_
  have h1 := hx i hi
  rw [pCellsByte, Nat.mul_one, List.getElem?_eq_getElem (by omega)] at h1
  rw [one_cell (by omega)] at h1
  obtain ⟨z, e, _, wz⟩ := DataW.trod_int Tryd.underlying5 h1
  have bz := bounds_u8 wz
  obtain ⟨n, rfl⟩ := Int.eq_ofNat_of_zero_le bz.1
  refine ⟨n, by omega, ?_⟩
  rw [List.getElem?_eq_getElem (by omega)]
  simpa using e
theorem lab_of_cells (hL : L.length = 2) (h : DataW.trod enc Tryd.prog W 0 (fun _ => true) true fuel 24 L = some y) : ∃ a b : Nat, a < 65536 ∧ b < 65536 ∧ L[0]? = some (.int .u16 (a : Nat)) ∧ L[1]? = some (.int .u16 (b : Nat)) := by
  obtain ⟨xs, k, _, _, _, hxl, hxx⟩ := DataW.trod_struct Tryd.underlying24 h
  match xs, hxl with
  | [y0, y1], _ =>
    have g0 : DataW.trod enc Tryd.prog W 0 (fun _ => true) true k 22 ((L.drop 0).take (Tryd.prog.cellsOf 22)) = some y0 := hxx 0 _ rfl
    have g1 : DataW.trod enc Tryd.prog W 0 (fun _ => true) true k 22 ((L.drop 1).take (Tryd.prog.cellsOf 22)) = some y1 := hxx 1 _ rfl
    obtain ⟨a, ha, ea⟩ := set_of_cell (by omega) g0
    obtain ⟨b, hb, eb⟩ := set_of_cell (by omega) g1
    exact ⟨a, b, ha, hb, ea, eb⟩
theorem labs_of_cells (hL : L.length = 32) (h : DataW.trod enc Tryd.prog W 0 (fun _ => true) true fuel 25 L = some y) : ∃ f g : Nat → Nat, ∀ i, i < 16 → f i < 65536 ∧ g i < 65536 ∧ L[i * 2]? = some (.int .u16 (f i : Nat)) ∧ L[i * 2 + 1]? = some (.int .u16 (g i : Nat)) := by
  obtain ⟨xs, m, -, -, -, hxl, hx⟩ := DataW.trod_array Tryd.underlying25 h
  have each : ∀ i, i < 16 → ∃ a b : Nat, a < 65536 ∧ b < 65536 ∧ L[i * 2]? = some (.int .u16 (a : Nat)) ∧ L[i * 2 + 1]? = some (.int .u16 (b : Nat)) := fun i hi => by
    have h1 := hx i hi
    rw [pCellsLab, List.getElem?_eq_getElem (by omega)] at h1
    obtain ⟨a, b, ha, hb, ea, eb⟩ := lab_of_cells (by rw [List.length_take, List.length_drop]; omega) h1
    rw [List.getElem?_take, if_pos (by decide), List.getElem?_drop] at ea eb
    exact ⟨a, b, ha, hb, ea, eb⟩
  obtain ⟨f, hf⟩ := pick16 (P := fun i a => ∃ b : Nat, a < 65536 ∧ b < 65536 ∧ L[i * 2]? = some (.int .u16 (a : Nat)) ∧ L[i * 2 + 1]? = some (.int .u16 (b : Nat))) each
  obtain ⟨g, hg⟩ := pick16 (P := fun i b => f i < 65536 ∧ b < 65536 ∧ L[i * 2]? = some (.int .u16 (f i : Nat)) ∧ L[i * 2 + 1]? = some (.int .u16 (b : Nat))) hf
  exact ⟨f, g, hg⟩
theorem pol_of_cells (hL : L.length = 66) (h : DataW.trod enc Tryd.prog W 0 (fun _ => true) true fuel 29 L = some y) : ∃ p, PolOk p ∧ ∀ k, k < 66 → L[k]? = some (polAt p k) := by
  obtain ⟨xs, k, _, _, _, hxl, hxx⟩ := DataW.trod_struct Tryd.underlying29 h
  match xs, hxl with
  | [y0, y1, y2, y3, y4], _ =>
    have g0 : DataW.trod enc Tryd.prog W 0 (fun _ => true) true k 22 ((L.drop 0).take (Tryd.prog.cellsOf 22)) = some y0 := hxx 0 _ rfl
    have g1 : DataW.trod enc Tryd.prog W 0 (fun _ => true) true k 25 ((L.drop 1).take (Tryd.prog.cellsOf 25)) = some y1 := hxx 1 _ rfl
    have g2 : DataW.trod enc Tryd.prog W 0 (fun _ => true) true k 26 ((L.drop 33).take (Tryd.prog.cellsOf 26)) = some y2 := hxx 2 _ rfl
    have g3 : DataW.trod enc Tryd.prog W 0 (fun _ => true) true k 27 ((L.drop 49).take (Tryd.prog.cellsOf 27)) = some y3 := hxx 3 _ rfl
    have g4 : DataW.trod enc Tryd.prog W 0 (fun _ => true) true k 22 ((L.drop 65).take (Tryd.prog.cellsOf 22)) = some y4 := hxx 4 _ rfl
    rw [pCellsLabs] at g1
    rw [pCellsActs] at g2
    rw [pCellsOwn] at g3
    obtain ⟨l0, hl0, e0⟩ := set_of_cell (by omega) g0
    obtain ⟨s, i, e1⟩ := labs_of_cells (by rw [List.length_take, List.length_drop]; omega) g1
    obtain ⟨a, e2⟩ := acts_of_cells (by rw [List.length_take, List.length_drop]; omega) g2
    obtain ⟨o, e3⟩ := owns_of_cells (by rw [List.length_take, List.length_drop]; omega) g3
    obtain ⟨l4, hl4, e4⟩ := set_of_cell (by omega) g4
    refine ⟨⟨l0, s, i, a, o, l4⟩, ⟨hl0, hl4, fun r hr => (e1 r hr).1, fun r hr => (e1 r hr).2.1, fun r hr => (e2 r hr).1, fun r hr => (e3 r hr).1⟩, fun j hj => ?_⟩
    unfold polAt
    by_cases c0 : j = 0
    · subst c0; rw [if_pos rfl]; exact e0
    · rw [if_neg c0]
      by_cases c1 : j < 33
      · rw [if_pos c1]
        have hr : (j - 1) / 2 < 16 := by omega
        obtain ⟨-, -, h1, h2⟩ := e1 _ hr
        rw [List.getElem?_take, if_pos (by omega), List.getElem?_drop] at h1 h2
        by_cases c2 : j % 2 = 1
        · rw [if_pos c2, ← show 1 + (j - 1) / 2 * 2 = j by omega, h1]
          show _ = some (Value.int .u16 (s ((1 + (j - 1) / 2 * 2) / 2) : Nat))
          rw [show (1 + (j - 1) / 2 * 2) / 2 = (j - 1) / 2 by omega]
        · rw [if_neg c2, ← show 1 + ((j - 1) / 2 * 2 + 1) = j by omega, h2]
          show _ = some (Value.int .u16 (i ((1 + ((j - 1) / 2 * 2 + 1)) / 2 - 1) : Nat))
          rw [show (1 + ((j - 1) / 2 * 2 + 1)) / 2 - 1 = (j - 1) / 2 by omega]
      · rw [if_neg c1]
        by_cases c2 : j < 49
        · rw [if_pos c2]
          have h2 := (e2 (j - 33) (by omega)).2
          rw [List.getElem?_take, if_pos (by omega), List.getElem?_drop, show 33 + (j - 33) = j by omega] at h2
          exact h2
        · rw [if_neg c2]
          by_cases c3 : j < 65
          · rw [if_pos c3]
            have h3 := (e3 (j - 49) (by omega)).2
            rw [List.getElem?_take, if_pos (by omega), List.getElem?_drop, show 49 + (j - 49) = j by omega] at h3
            exact h3
          · rw [if_neg c3]
            obtain rfl : j = 65 := by omega
            exact e4
end
set_option maxRecDepth 100000 in
theorem pol_of_arg {H : Type} {enc : TypeId × Value → H} {W : World} {r : Reach} {b0 : Nat} {v : Value} {d : DataW H} {p : List MemPlace}
    (hv : Value.okWide Tryd.prog W r b0 29 v) (h : DataW.Trod enc Tryd.prog W 0 (fun _ => true) true 29 v d p) : ∃ q, PolOk q ∧ v = .agg (polC q) := by
  obtain ⟨cs, rfl, hsz⟩ := okWide_struct Tryd.underlying29 hv
  rw [pCellsPol] at hsz
  obtain ⟨fuel, hf⟩ := h
  obtain ⟨q, hq, hc⟩ := pol_of_cells (L := (Value.agg cs).cells.toList) (by show cs.toList.length = 66; simpa using hsz) hf
  refine ⟨q, hq, ?_⟩
  congr 1
  apply Array.ext_getElem?
  intro i
  by_cases hi : i < 66
  · rw [polC_get q hi, ← hc i hi]; exact (Array.getElem?_toList).symm
  · rw [Array.getElem?_eq_none (by omega), Array.getElem?_eq_none (by rw [polC_size]; omega)]
set_option maxRecDepth 100000 in
set_option maxHeartbeats 1600000 in
theorem ask_of_arg {H : Type} {enc : TypeId × Value → H} {W : World} {r : Reach} {b0 : Nat} {v : Value} {d : DataW H} {p : List MemPlace}
    (hv : Value.okWide Tryd.prog W r b0 31 v) (h : DataW.Trod enc Tryd.prog W 0 (fun _ => true) true 31 v d p) :
    ∃ q a b x y R, PolOk q ∧ (-9223372036854775808 ≤ a ∧ a ≤ 9223372036854775807) ∧ (-9223372036854775808 ≤ b ∧ b ≤ 9223372036854775807) ∧ x < 65536 ∧ y < 65536 ∧ R < 65536 ∧ v = .agg (askC q a b x y R) := by
  obtain ⟨cs, rfl, hsz⟩ := okWide_struct Tryd.underlying31 hv
  rw [pCellsAsk] at hsz
  obtain ⟨fuel, hf⟩ := h
  obtain ⟨xs, k, _, _, _, hxl, hxx⟩ := DataW.trod_struct Tryd.underlying31 hf
  have hl : (Value.agg cs).cells.toList.length = 71 := by show cs.toList.length = 71; simpa using hsz
  generalize hL : (Value.agg cs).cells.toList = L at *
  match xs, hxl with
  | [y0, y1, y2, y3, y4], _ =>
    have g0 : DataW.trod enc Tryd.prog W 0 (fun _ => true) true k 29 ((L.drop 0).take (Tryd.prog.cellsOf 29)) = some y0 := hxx 0 _ rfl
    have g1 : DataW.trod enc Tryd.prog W 0 (fun _ => true) true k 3 ((L.drop 66).take (Tryd.prog.cellsOf 3)) = some y1 := hxx 1 _ rfl
    have g2 : DataW.trod enc Tryd.prog W 0 (fun _ => true) true k 3 ((L.drop 67).take (Tryd.prog.cellsOf 3)) = some y2 := hxx 2 _ rfl
    have g3 : DataW.trod enc Tryd.prog W 0 (fun _ => true) true k 24 ((L.drop 68).take (Tryd.prog.cellsOf 24)) = some y3 := hxx 3 _ rfl
    have g4 : DataW.trod enc Tryd.prog W 0 (fun _ => true) true k 22 ((L.drop 70).take (Tryd.prog.cellsOf 22)) = some y4 := hxx 4 _ rfl
    rw [pCellsPol] at g0
    rw [pCellsLab] at g3
    obtain ⟨q, hq, e0⟩ := pol_of_cells (by rw [List.length_take, List.length_drop]; omega) g0
    obtain ⟨a, ha1, ha2, e1⟩ := int_of_cell (by omega) g1
    obtain ⟨b, hb1, hb2, e2⟩ := int_of_cell (by omega) g2
    obtain ⟨x, y, hx, hy, e3, e4⟩ := lab_of_cells (by rw [List.length_take, List.length_drop]; omega) g3
    obtain ⟨R, hR, e5⟩ := set_of_cell (by omega) g4
    rw [List.getElem?_take, if_pos (by decide), List.getElem?_drop] at e3 e4
    refine ⟨q, a, b, x, y, R, hq, ⟨ha1, ha2⟩, ⟨hb1, hb2⟩, hx, hy, hR, ?_⟩
    congr 1
    apply Array.ext_getElem?
    intro i
    have hLi : cs[i]? = L[i]? := by rw [← hL]; exact (Array.getElem?_toList).symm
    rw [hLi]
    by_cases h0 : i < 66
    · have h1 := e0 i h0
      rw [List.getElem?_take, if_pos h0, List.getElem?_drop, Nat.zero_add] at h1
      rw [h1, ← polC_get q h0]
      have := ask_pol q a b x y R i (by rw [polC_size]; exact h0)
      rw [Nat.zero_add] at this
      exact this.symm
    · by_cases h3 : i < 71
      · have hc : i = 66 ∨ i = 67 ∨ i = 68 ∨ i = 69 ∨ i = 70 := by omega
        rcases hc with rfl | rfl | rfl | rfl | rfl
        · rw [e1]; exact (ask_tail q a b x y R 0).symm
        · rw [e2]; exact (ask_tail q a b x y R 1).symm
        · rw [e3]; exact (ask_tail q a b x y R 2).symm
        · rw [e4]; exact (ask_tail q a b x y R 3).symm
        · rw [e5]; exact (ask_tail q a b x y R 4).symm
      · rw [List.getElem?_eq_none (by omega), Array.getElem?_eq_none (by unfold askC askT; simp [polC_size]; omega)]
end Go.Proofs.YtoieodlpoglmfaaDoor
