/-
  The program's changes: what One's helpers answer (live, linked, used, within, mostB), and what is asked of an effect.
-/
import Derived.Deep.DeepCutAuto
import Derived.Test.YthpangacpihclaaDoorWChC
import Derived.Test.YthpangacpihclaaDoorW1
import Derived.Test.YthpangacpihclaaDoorWChA
import Derived.Test.YthpangacpihclaaDoorWWpOf
import Derived.Test.YthpangacpihclaaDoorW2
import Derived.Test.YthpangacpihclaaDoorWGraL
import Derived.Test.YthpangacpihclaaDoorW3
/-! CpF -/
namespace Go.Proofs.YthpangacpihclaaDoor
open Go.RowKit

/-- The policy with a change done to it, or as it was. -/
def outP (p : Pol) (c : Cg) : Pol := if oneE p c = 0 then oneP p c else p
theorem outP_yes {p : Pol} {c : Cg} (h : oneE p c = 0) : outP p c = oneP p c := if_pos h
theorem outP_no {p : Pol} {c : Cg} (h : oneE p c ≠ 0) : outP p c = p := if_neg h
/-- What an effect answers: an error, and the policy as it is then. -/
def EffIs (p : Pol) (c : Cg) (b : Nat) (w : World) (e : Ending) (w' : World) : Prop := e = .returned (.int .i64 (oneE p c)) ∧ Put w w' b (polC (outP p c)) 29
/-- The library's table lies below N. -/
def TabN (N : Nat) (w : World) : Prop := Tab32 w ∧ 0 < N
/-- An effect, of changes that may be. -/
def EffPC (f : FuncId) (k : Nat) : Prop := ∀ (N : Nat) (p : Pol) (c : Cg) (b : Nat) (w : World), TabN N w → N ≤ b → PolOk p → fineP p = true → CgOk c → cgB c = true → c.kind = (k : Int) → PRow w b p → Calls Tryd.prog f #[.pointer (some ⟨b, 0, none⟩), .agg (chgC c)] w (EffIs p c b w)
/-- The policy, and the change of the call's own. -/
structure EfW (w : World) (b : Nat) (p : Pol) (c : Cg) (V : World) : Prop where
  chg : Chg (fun k => k = b) w V
  row : PRow V b p
  cg : Blk V w.heap.size (chgC c) 31
  lt : b < w.heap.size
section
variable {w : World} {b : Nat} {p q : Pol} {c : Cg} {V V' : World}
theorem EfW.step (h : EfW w b p c V) (hB : Below V.heap.size V V') : EfW w b p c V' := ⟨h.chg.trans (Chg.ofBelow hB), h.row.step hB, h.cg.below hB h.cg.lt, h.lt⟩
theorem EfW.new (h : PRow w b p) (c : Cg) : EfW w b p c (w.alloc (.cells (chgC c) 31)) := ⟨Chg.ofBelow (belowNew w _), h.alloc _, Blk.new w _ _, h.lt⟩
theorem EfW.cell (h : EfW w b p c V) {k : Nat} {u : Value} (hr : PRow (V.setCell ⟨b, k, none⟩ u) b q) : EfW w b q c (V.setCell ⟨b, k, none⟩ u) :=
  ⟨h.chg.setCell (p := ⟨b, k, none⟩) (fun _ => rfl) u, hr, Blk.set_other h.cg (by have := h.lt; show ¬ b = w.heap.size; omega) _, h.lt⟩
theorem EfW.put (h : EfW w b p c V) (hp : Put V V' b (polC q) 29) : EfW w b q c V' :=
  ⟨h.chg.trans hp.chg, hp.blk, hp.chg.kept h.cg (by have := h.lt; show ¬ w.heap.size = b; omega), h.lt⟩
theorem EfW.tab (h : EfW w b p c V) {N : Nat} (hT : TabN N w) (hN : N ≤ b) : TabOk V :=
  ⟨hT.1.below (h.chg.below (Nat.le_trans hN (Nat.le_of_lt h.lt)) fun k hk => by have hk : k = b := hk; omega) hT.2, by have := hT.2; have := h.row.lt; omega⟩
theorem EfW.out (h : EfW w b p c V) : Put w V b (polC p) 29 := ⟨h.chg, h.row⟩
theorem EfW.c1 (h : EfW w b p c V) : V.cell? ⟨w.heap.size, 1, none⟩ = some (.int .i64 c.a) := h.cg.cell 1
theorem EfW.c2 (h : EfW w b p c V) : V.cell? ⟨w.heap.size, 2, none⟩ = some (.int .i64 c.b) := h.cg.cell 2
theorem EfW.c3 (h : EfW w b p c V) : V.cell? ⟨w.heap.size, 3, none⟩ = some (.int .u16 (c.s : Int)) := h.cg.cell 3
theorem EfW.c4 (h : EfW w b p c V) : V.cell? ⟨w.heap.size, 4, none⟩ = some (.int .u16 (c.i : Int)) := h.cg.cell 4
theorem EfW.no (h : EfW w b p c V) (he : oneE p c ≠ 0) : Put w V b (polC (outP p c)) 29 := by rw [outP_no he]; exact h.out
theorem EfW.yes (h : EfW w b q c V) (he : oneE p c = 0) (hq : oneP p c = q) : Put w V b (polC (outP p c)) 29 := by rw [outP_yes he, hq]; exact h.out
end
set_option maxRecDepth 100000 in
theorem live_any (p : Pol) (b a : Nat) (w : World) (hp : PolOk p) (h : PRow w b p) : Calls Tryd.prog 87 #[.pointer (some ⟨b, 0, none⟩), .int .i64 (a : Int)] w fun e w' => e = .returned (.bool (p.live.testBit a)) ∧ w = w' := by
  have H := Lib.hid (fun V => Has_any p.live (a : Int) V hp.live)
  rw [hasB_bit] at H
  have k0 := h.live
  clear h hp
  go_enter Tryd.func87, Tryd.ntmps87
  go_wp2_with fail
  refine (H.out _).mono ?_
  rintro e wx ⟨rfl, rfl⟩
  go_wp2_with fail
  go_ret
  exact ⟨rfl, rfl⟩
set_option maxRecDepth 100000 in
theorem used_any (p : Pol) (b a : Nat) (w : World) (hp : PolOk p) (h : PRow w b p) : Calls Tryd.prog 91 #[.pointer (some ⟨b, 0, none⟩), .int .i64 (a : Int)] w fun e w' => e = .returned (.bool (p.active.testBit a)) ∧ w = w' := by
  have H := Lib.hid (fun V => Has_any p.active (a : Int) V hp.active)
  rw [hasB_bit] at H
  have k0 := h.active
  clear h hp
  go_enter Tryd.func91, Tryd.ntmps91
  go_wp2_with fail
  refine (H.out _).mono ?_
  rintro e wx ⟨rfl, rfl⟩
  go_wp2_with fail
  go_ret
  exact ⟨rfl, rfl⟩
set_option maxRecDepth 100000 in
theorem linked_any (p : Pol) (b a d : Nat) (w : World) (hp : PolOk p) (ha : a < 16) (h : PRow w b p) : Calls Tryd.prog 90 #[.pointer (some ⟨b, 0, none⟩), .int .i64 (a : Int), .int .i64 (d : Int)] w fun e w' => e = .returned (.bool ((p.acts a).testBit d)) ∧ w = w' := by
  have H := Lib.hid (fun V => Has_any (p.acts a) (d : Int) V (hp.acts a ha))
  rw [hasB_bit] at H
  have k0 := h.acts ha
  have h0 : (0 : Int) ≤ (a : Int) := by omega
  have h16 : (a : Int) < 16 := by omega
  clear h hp ha
  go_enter Tryd.func90, Tryd.ntmps90
  go_wp2_with fail
  refine (H.out _).mono ?_
  rintro e wx ⟨rfl, rfl⟩
  go_wp2_with fail
  go_ret
  exact ⟨rfl, rfl⟩
set_option maxRecDepth 100000 in
theorem within_any (n f t : Int) (w : World) : Calls Tryd.prog 42 #[.int .i64 n, .int .i64 f, .int .i64 t] w fun e w' => e = .returned (.bool (decide (f ≤ n) && decide (n ≤ t))) ∧ w = w' := by
  go_enter Tryd.func42, Tryd.ntmps42
  by_cases h : f ≤ n
  · have d := decide_eq_true h
    rw [d, Bool.true_and]
    go_wp2_with fail
    go_ret
    exact ⟨rfl, rfl⟩
  · have d := decide_eq_false h
    rw [d, Bool.false_and]
    go_wp2_with fail
    go_ret
    exact ⟨rfl, rfl⟩
theorem mostN_not {k : Int} (h3 : k ≠ 3) (h4 : k ≠ 4) (h6 : k ≠ 6) (h5 : k ≠ 5) : mostN k.toNat = 0 := by
  unfold mostN
  rw [if_neg (by omega), if_neg (by omega)]
set_option maxRecDepth 100000 in
theorem mostB_any (k : Int) (w : World) : Calls Tryd.prog 43 #[.int .i64 k] w fun e w' => e = .returned (.int .i64 (mostN k.toNat)) ∧ w = w' := by
  have HM := Lib.hid (mostN_not (k := k))
  go_enter Tryd.func43, Tryd.ntmps43
  by_cases h3 : k = 3
  · subst h3
    go_wp2_with fail
    go_ret
    exact ⟨rfl, rfl⟩
  by_cases h4 : k = 4
  · subst h4
    go_wp2_with fail
    go_ret
    exact ⟨rfl, rfl⟩
  by_cases h6 : k = 6
  · subst h6
    go_wp2_with fail
    go_ret
    exact ⟨rfl, rfl⟩
  by_cases h5 : k = 5
  · subst h5
    go_wp2_with fail
    go_ret
    exact ⟨rfl, rfl⟩
  have HE := Lib.hid (HM.out h3 h4 h6 h5)
  have d3 : (k == 3) = false := by rw [beq_eq_false_iff_ne]; exact h3
  have d4 : (k == 4) = false := by rw [beq_eq_false_iff_ne]; exact h4
  have d6 : (k == 6) = false := by rw [beq_eq_false_iff_ne]; exact h6
  have d5 : (k == 5) = false := by rw [beq_eq_false_iff_ne]; exact h5
  clear h3 h4 h5 h6 HM
  go_wp2_with fail
  go_ret
  exact ⟨by rw [HE.out]; rfl, rfl⟩
end Go.Proofs.YthpangacpihclaaDoor
