/-
  The document's changes: drop, tag, One.
-/
import Derived.Test.YtmaachmidgfhdaaGreatDoorWChR
import Derived.Test.YtmaachmidgfhdaaGreatDoorW2
import Derived.Test.YtmaachmidgfhdaaGreatDoorW3
import Derived.Test.YtmaachmidgfhdaaGreatDoorW1
/-! ChO -/
namespace Go.Proofs.YtmaachmidgfhdaaGreatDoor
open Go.RowKit

/-- The policy, the change, and the place for the answer. -/
structure OnW (w : World) (b : Nat) (p : Pol) (c : Cg) (V : World) : Prop where
  below : Below b w V
  row : PRow V b p
  cg : Blk V (b + 1) (chgC c) 54
  res : PRow V (b + 1 + 1) zeroP
  at_ : b = w.heap.size
theorem OnW.step {w : World} {b : Nat} {p : Pol} {c : Cg} {V V' : World} (h : OnW w b p c V) (hB : Below V.heap.size V V') : OnW w b p c V' :=
  ⟨h.below.trans (hB.mono (by rw [h.at_]; exact h.below.size)), h.row.step hB, h.cg.below hB h.cg.lt, h.res.step hB, h.at_⟩
theorem OnW.new (w : World) (p : Pol) (c : Cg) : OnW w w.heap.size p c (((w.alloc (.cells (polC p) 29)).alloc (.cells (chgC c) 54)).alloc (.cells (polC zeroP) 29)) := by
  refine ⟨((belowNew w _).alloc (by simp) _).alloc (by simp; omega) _, ((PRow.new w p).alloc _).alloc _, ?_, ?_, rfl⟩
  · have h := Blk.new (w.alloc (.cells (polC p) 29)) (chgC c) 54
    simp only [World.size_alloc] at h
    exact h.alloc _
  · have h := PRow.new ((w.alloc (.cells (polC p) 29)).alloc (.cells (chgC c) 54)) zeroP
    simp only [World.size_alloc] at h
    exact h
theorem OnW.cell {w : World} {b : Nat} {p q : Pol} {c : Cg} {V : World} (h : OnW w b p c V) {k : Nat} {u : Value} (hr : PRow (V.setCell ⟨b, k, none⟩ u) b q) : OnW w b q c (V.setCell ⟨b, k, none⟩ u) :=
  ⟨h.below.setCell (by simp) _, hr, Blk.set_other h.cg (by show ¬ b = b + 1; omega) _, Blk.set_other h.res (by show ¬ b = b + 1 + 1; omega) _, h.at_⟩
theorem OnW.out {w : World} {b : Nat} {p : Pol} {c : Cg} {V V' : World} {cs : Array Value} {t : TypeId} (h : OnW w b p c V) (hp : Put V V' (b + 1 + 1) cs t) : Below w.heap.size w V' := by
  have hb := h.below.trans (hp.below (by rw [h.at_]; exact h.below.size) (by omega))
  rw [← h.at_]; exact hb
theorem OnW.c0 {w : World} {b : Nat} {p : Pol} {c : Cg} {V : World} (h : OnW w b p c V) : V.cell? ⟨b + 1, 0, none⟩ = some (.int .i64 c.kind) := h.cg.cell 0
theorem OnW.c1 {w : World} {b : Nat} {p : Pol} {c : Cg} {V : World} (h : OnW w b p c V) : V.cell? ⟨b + 1, 1, none⟩ = some (.int .i64 c.a) := h.cg.cell 1
theorem OnW.c2 {w : World} {b : Nat} {p : Pol} {c : Cg} {V : World} (h : OnW w b p c V) : V.cell? ⟨b + 1, 2, none⟩ = some (.int .i64 c.b) := h.cg.cell 2
theorem OnW.c3 {w : World} {b : Nat} {p : Pol} {c : Cg} {V : World} (h : OnW w b p c V) : V.cell? ⟨b + 1, 3, none⟩ = some (.int .u16 (c.s : Int)) := h.cg.cell 3
theorem OnW.c4 {w : World} {b : Nat} {p : Pol} {c : Cg} {V : World} (h : OnW w b p c V) : V.cell? ⟨b + 1, 4, none⟩ = some (.int .u16 (c.i : Int)) := h.cg.cell 4
def OneIs (p : Pol) (c : Cg) (w : World) (e : Ending) (w' : World) : Prop := e = .returned (.tuple #[.agg (polC (oneP p c)), .int .i64 (oneE p c)]) ∧ Below w.heap.size w w'
theorem cg_ok {k : Int} {a b s i : Nat} (hk1 : 0 ≤ k) (hk2 : k ≤ 6) (ha : a < 16) (hb : b ≤ 16) (hs : s < 65536) (hi : i < 65536) : CgOk ⟨k, a, b, s, i⟩ :=
  ⟨⟨by show _ ≤ k; omega, by show k ≤ _; omega⟩, ⟨by show _ ≤ (a : Int); omega, by show (a : Int) ≤ _; omega⟩, ⟨by show _ ≤ (b : Int); omega, by show (b : Int) ≤ _; omega⟩, hs, hi⟩
theorem one_is {p : Pol} {k : Nat} {a b s i : Nat} {e : Int} (hc : cgB ⟨(k : Int), a, b, s, i⟩ = true) (h : effE p k a b s i = e) : oneE p ⟨(k : Int), a, b, s, i⟩ = e ∧ oneP p ⟨(k : Int), a, b, s, i⟩ = if e = 0 then effP p k a b s i else zeroP := by
  have h1 : oneE p ⟨(k : Int), a, b, s, i⟩ = e := by unfold oneE; rw [if_pos hc]; exact h
  refine ⟨h1, ?_⟩
  unfold oneP
  rw [h1]; rfl
theorem one_ok {p q : Pol} {k : Nat} {a b s i : Nat} (hc : cgB ⟨(k : Int), a, b, s, i⟩ = true) (h : effE p k a b s i = 0) (hq : effP p k a b s i = q) : oneE p ⟨(k : Int), a, b, s, i⟩ = 0 ∧ oneP p ⟨(k : Int), a, b, s, i⟩ = q := by
  obtain ⟨h1, h2⟩ := one_is hc h
  exact ⟨h1, by rw [h2, if_pos rfl, hq]⟩
theorem one_no {p : Pol} {k : Nat} {a b s i : Nat} {e : Int} (hc : cgB ⟨(k : Int), a, b, s, i⟩ = true) (he : e ≠ 0) (h : effE p k a b s i = e) : oneE p ⟨(k : Int), a, b, s, i⟩ = e ∧ oneP p ⟨(k : Int), a, b, s, i⟩ = zeroP := by
  obtain ⟨h1, h2⟩ := one_is hc h
  exact ⟨h1, by rw [h2, if_neg he]⟩
end Go.Proofs.YtmaachmidgfhdaaGreatDoor
