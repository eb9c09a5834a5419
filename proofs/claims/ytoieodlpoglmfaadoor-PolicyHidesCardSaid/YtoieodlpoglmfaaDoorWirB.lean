/-
  The document's Writer.
-/
import Derived.Test.YtoieodlpoglmfaaDoorWirV
import Derived.LoopTactic
namespace Go.Proofs.YtoieodlpoglmfaaDoor
open Go.RowKit

theorem WAt.failR {B : Nat} {w w' : World} {b : Nat} {t : TypeId} {v : Value} {s : List UInt8 × Int} {c : Int} (h : WAt 5 B w b t v s) (hp : Put w w' b #[v, .int .i64 (if s.2 = 0 then c else s.2)] t) : WNow B w b t v (failR s c) w' := by
  have hch : Chg (foot b v) w w' := hp.chg.mono fun i _ h => .inl h
  refine ⟨v, ⟨?_, ?_, h.apart⟩, hch, OwnNew.refl _ _⟩
  · have hb := hp.blk
    unfold _root_.Go.Proofs.YtoieodlpoglmfaaDoor.failR
    by_cases e : s.2 = 0
    · rw [if_pos e] at hb ⊢; exact hb
    · rw [if_neg e] at hb ⊢; exact hb
  · have hl : (_root_.Go.Proofs.YtoieodlpoglmfaaDoor.failR s c).1 = s.1 := by unfold _root_.Go.Proofs.YtoieodlpoglmfaaDoor.failR; split <;> rfl
    rw [hl]
    obtain ⟨h1, h2⟩ := h.row
    refine ⟨h1, ?_⟩
    rcases h2 with h2 | ⟨g, cap, cur, rfl, hg, hgg, rest⟩
    · exact .inl h2
    · refine .inr ⟨g, cap, cur, rfl, hg, ?_, rest⟩
      rw [hp.chg.block g (Array.getElem?_eq_some_iff.1 hgg).1 (fun e => h.apart (by rw [Value.ownBlock, e]))]; exact hgg

/-- The block of a Writer that has appended. -/
theorem WAt.appended {B : Nat} {w1 w2 : World} {b : Nat} {t : TypeId} {v : Value} {l m : List UInt8} {e : Int} {p1 : Option Addr} {n1 c1 : Nat} (h : WAt 5 B w1 b t v (l, e)) (hk : Blk w2 b #[v, .int .i64 e] t)
    (hr : w2.ownsRow B 5 1 (.slice p1 n1 c1) (l ++ m).length (bvs (l ++ m))) (hg : w1.grownBy w2 v.ownBlock) (hn : OwnNew w1 v (.slice p1 n1 c1)) :
    WTo 5 B w1 b t v (l ++ m, e) (.slice p1 n1 c1) (w2.setCell ⟨b, 0, none⟩ (.slice p1 n1 c1)) := by
  refine ⟨⟨hk.set 0 _, ?_, ?_⟩, ?_, hn⟩
  · exact hr.kept (w' := w2.setCell ⟨b, 0, none⟩ (.slice p1 n1 c1)) (row := some b) ⟨rfl, rfl, rfl, by simp [World.setCell], fun k hk hne => Below.heap_setCell _ _ _ _ (fun e => hne (by rw [e]))⟩ (by
      cases ho : (Value.slice p1 n1 c1).ownBlock with
      | none => exact .inl rfl
      | some k =>
        right
        intro he
        rcases hn k ho with h2 | h2
        · rw [he] at ho; cases he; exact h.apart h2
        · cases he; have := h.blk.lt; omega)
  · intro he
    rcases hn b he with h2 | h2
    · exact h.apart h2
    · have := h.blk.lt; omega
  · exact ((Chg.ofGrown hg).mono (fun i _ h => .inr h)).setCell (fun _ => .inl rfl) _

/-- What the document's Num gives. -/
def RNumIs (w : World) (ok : Bool) (x : List UInt8) (e : Ending) (w' : World) : Prop := ∃ p m c y, e = .returned (.tuple #[.slice p m c, .bool ok]) ∧ BsAt w' p m c y ∧ (ok = true → y = x) ∧ Below w.heap.size w w'
end Go.Proofs.YtoieodlpoglmfaaDoor
