/-
  What every law of layer 5 ends with: some calls that are known.
-/
import Derived.Test.YtoieodlpoglmfaaDoorWirE
namespace Go.Proofs.YtoieodlpoglmfaaDoor
open Go.RowKit

theorem al1 : wNum ([], 0) 258 2 = ([1, 2], 0) := by decide
theorem al2 : wText ([1, 2], 0) [97, 98] = ([1, 2, 2, 97, 98], 0) := by decide
theorem al3 : dNum ([1, 2, 2, 97, 98], 0) 2 1000 = (258, ([2, 97, 98], 0)) := by decide
theorem al4 : dText ([2, 97, 98], 0) 5 = ([97, 98], ([], 0)) := by decide
theorem al5 : dNum ([], 0) 1 9 = (0, ([], 4)) := by decide

/-- A new Writer. -/
theorem WAt.new (w : World) (t : TypeId) : WAt 5 w.heap.size (w.alloc (.cells #[.slice none 0 0, .int .i64 0] t)) w.heap.size t (.slice none 0 0) ([], 0) :=
  ⟨Blk.new w _ _, World.ownsRow_nil _ _ _ _, fun e => by cases e⟩
/-- A new Reader of bytes of one's own. -/
theorem RAt.new {w : World} {b g : Nat} {v : Value} {t : TypeId} {l : List UInt8} (hk : Blk w b #[v, .int .i64 0] t) (hv : BsIn w g l v) : RAt w b t g (l, 0) := by
  obtain ⟨p, n, c, rfl, h1, h2⟩ := hv
  exact ⟨p, n, c, hk, h1, h2⟩
def blockOf : Value → Nat
  | .slice (some a) _ _ => a.block
  | _ => 0
theorem BsNew.inBlock {w w' : World} {l : List UInt8} {v : Value} (h : BsNew w l v w') : BsIn w' (blockOf v) l v := by
  obtain ⟨p, n, c, rfl, h1, h2⟩ := h
  exact ⟨p, n, c, rfl, h1, fun a ha => by rw [ha]; rfl⟩
/-- What NewReader gives. -/
def NewRdIs (w : World) (l : List UInt8) (e : Ending) (w' : World) : Prop := ∃ b g, e = .returned (.pointer (some ⟨b, 0, none⟩)) ∧ w.heap.size ≤ b ∧ g ≠ b ∧ (g = 0 ∨ w.heap.size ≤ g) ∧ RAt w' b 90 g (l, 0) ∧ Below w.heap.size w w'
theorem newRd_any (p : Option Addr) (len cap : Nat) (l : List UInt8) (w : World) (h : BsAt w p len cap l) (hsm : l.length ≤ 1000000) (hw : 0 < w.heap.size) :
    Calls Tryd.prog 27 #[.slice p len cap] w (NewRdIs w l) :=
  (newReader_any p len cap l w h hsm).mono fun e w' ⟨b, v, he, hb, hk, hn, hne, hB⟩ => by
    refine ⟨b, blockOf v, he, hb, ?_, ?_, RAt.new hk hn.inBlock, hB⟩
    · obtain ⟨q, n, c, rfl, h1, h2⟩ := hn
      cases q with
      | none => show 0 ≠ b; omega
      | some a => exact hne a.block rfl
    · obtain ⟨q, n, c, rfl, h1, h2⟩ := hn
      cases q with
      | none => exact .inl rfl
      | some a => exact .inr (h2 a rfl).1

end Go.Proofs.YtoieodlpoglmfaaDoor
