/-
  Lines collected in the rounds of a range over a function: what is known of memory in between.
-/
import Derived.RangeFuncNested
import Derived.RangeFuncBound
import Derived.RangeFuncCalls
import Derived.RangeFuncLeaves
import Derived.RangeFuncBox
import Derived.RangeFuncWrites
import Derived.Shelf.Abstract
import Derived.Shelf.RegionOpen
import Derived.WalkKit
import Derived.OwnWalkIn
import Derived.TacticsInMore
import Derived.LoopNIn
import Derived.LoopIn
import Derived.Maps.AppendAt
import Derived.Test.YtmaachmidgfhdaaGreatDoorW2
import Derived.Test.YtmaachmidgfhdaaGreatDoorWDpA
import Derived.Test.YtmaachmidgfhdaaGreatDoorWSlcG
/-! DpB -/
namespace Go.Proofs.YtmaachmidgfhdaaGreatDoor
open Go.RowKit Go.Shelf

/-- The lines so far, in a variable of the call's own; of the older blocks only that variable is another. -/
structure LnaW (bl : Nat) (w1 : World) (m : List (List UInt8)) (V : World) : Prop where
  row : ∃ v, Boxed V bl 32 v ∧ StrsRow V w1.heap.size v m
  chg : Chg (fun k => k = bl) w1 V
theorem LnaW.new {bl : Nat} {w1 : World} (h : Boxed w1 bl 32 (.slice none 0 0)) : LnaW bl w1 [] w1 := ⟨⟨_, h, World.ownsRow_nil _ _ _ _⟩, Chg.refl _ _⟩
theorem ownsRow_below {w w' : World} {base e n z : Nat} {v : Value} {xs : List Value} (h : w.ownsRow base e z v n xs) (hB : Below w.heap.size w w') : w'.ownsRow base e z v n xs := own_belowC h hB
theorem boxed_step {W W' : World} {B : Nat} {t : TypeId} {v : Value} (h : Boxed W B t v) (hB : Below W.heap.size W W') : Boxed W' B t v := (hB.block B h.lt).trans h
theorem LnaW.step {bl : Nat} {w1 : World} {m : List (List UInt8)} {V V' : World} (h : LnaW bl w1 m V) (hB : Below V.heap.size V V') : LnaW bl w1 m V' := by
  obtain ⟨⟨v, h1, h2⟩, h3⟩ := h
  exact ⟨⟨v, boxed_step h1 hB, ownsRow_below h2 hB⟩, h3.trans (Chg.ofBelow hB)⟩
theorem LnaW.below {bl N : Nat} {w w1 : World} {m : List (List UInt8)} {V : World} (h : LnaW bl w1 m V) (hB : Below N w w1) (hN : N ≤ bl) (hw : N ≤ w.heap.size) : Below N w V := hB.trans (h.chg.below (Nat.le_trans hw hB.size) fun _ e => e ▸ hN)
/-- As the law on ranges asks it. -/
theorem liw_own {bl B : Nat} {w1 : World} {β : Type} (F : β → List (List UInt8)) (hB : w1.heap.size ≤ B) : OwnFrom B (fun (pre : β) V => LnaW bl w1 (F pre) V) := by
  rintro pre X Y row ⟨⟨v, h1, h2⟩, h3⟩ hg hr
  obtain ⟨u, k1, k2, -⟩ := holdsRow_own w1.heap.size bl 32 9 1 (fun s : β => (F s).length) (fun s => flatC strC (F s)) (fun _ _ => True) pre X Y row ⟨v, h1, h2, trivial⟩ hg fun r e => (hr r e).2
  exact ⟨⟨u, k1, k2⟩, h3.then (Chg.ofGrown hg) fun i hi e => by have := (hr i e).1; omega⟩
/-- Behind the append. -/
structure ApW (bl : Nat) (w1 : World) (v : Value) (m : List (List UInt8)) (W : World) (d : Value) (V : World) : Prop where
  from_ : ∃ V0, Below W.heap.size W V0 ∧ V0.grownBy V v.ownBlock
  box : Boxed V bl 32 v
  row : StrsRow V w1.heap.size d m
theorem ne_strs : 32 ≠ 9 := by decide
theorem row_low {V : World} {base : Nat} {v : Value} {m : List (List UInt8)} (h : StrsRow V base v m) {r : Nat} (e : v.ownBlock = some r) : base ≤ r := by
  obtain ⟨-, ⟨rfl, -⟩ | ⟨g, cap, cur, rfl, hb, -⟩⟩ := h
  · cases e
  · cases e; exact hb
theorem ApW.chg {bl : Nat} {w1 : World} {v : Value} {m m' : List (List UInt8)} {W : World} {d : Value} {V : World} (h : ApW bl w1 v m' W d V) (hr : StrsRow W w1.heap.size v m) : Chg (fun k => k = bl ∨ w1.heap.size ≤ k) W V := by
  obtain ⟨V0, hB, hg⟩ := h.from_
  exact (Chg.ofBelow hB).trans ((Chg.ofGrown hg).mono fun i _ e => .inr (row_low hr e))
/-- Behind the store. -/
structure StW (bl : Nat) (w1 : World) (m : List (List UInt8)) (v : Value) (W V : World) : Prop where
  li : LnaW bl w1 m V
  keep : KeepsOthers W V
  chg : Chg (fun k => k = bl ∨ w1.heap.size ≤ k) W V
  kept : ∀ k, k < W.heap.size → k ≠ bl → v.ownBlock ≠ some k → V.heap[k]? = W.heap[k]?
theorem StW.of {bl : Nat} {w1 : World} {v : Value} {m m' : List (List UInt8)} {W : World} {d : Value} {V : World} (h : ApW bl w1 v m' W d V) (hb : Boxed W bl 32 v) (hr : StrsRow W w1.heap.size v m) (hc : Chg (fun k => k = bl) w1 W) : StW bl w1 m' v W (V.setCell ⟨bl, 0, none⟩ d) := by
  have hch := h.chg hr
  obtain ⟨⟨V0, hB, hg⟩, h2, h3⟩ := h
  have hr0 := ownsRow_below hr hB
  have hch2 : Chg (fun k => k = bl ∨ w1.heap.size ≤ k) W (V.setCell ⟨bl, 0, none⟩ d) := hch.setCell (p := ⟨bl, 0, none⟩) (fun _ => .inl rfl) d
  refine ⟨⟨⟨d, h2.set d, h3.kept (grownBy_setCell' V bl d) (.inr (h2.not_row ne_strs h3).symm)⟩, hc.then hch2 fun i hi e => ?_⟩, ?_, hch2, fun k hk hne hv => ?_⟩
  · rcases e with e | e
    · exact e
    · omega
  · refine (KeepsOthers.trans ⟨hB.size, fun k o hk _ => (hB.block k (Array.getElem?_eq_some_iff.1 hk).1).trans hk⟩ (KeepsOthers.of_grownBy hg fun j o ej hj => ?_)).trans (KeepsOthers.setCell _ _ _)
    rcases hr0.2 with ⟨rfl, _⟩ | ⟨g, cap, cur, rfl, _, hgb, _⟩
    · simp [Value.ownBlock] at ej
    · obtain rfl : g = j := by simpa [Value.ownBlock] using ej
      rw [hgb] at hj; cases hj; rfl
  · rw [Below.heap_setCell _ _ _ k hne, hg.block k (Nat.lt_of_lt_of_le hk hB.size) (fun e => hv e.symm), hB.block k hk]
/-- In a round: behind the words' slice, the line, its slice, the append and the store. -/
def CW (bl : Nat) (w1 : World) (v : Value) (m ws : List (List UInt8)) (W : World) : List Value → World → Prop
  | [], V => Below W.heap.size W V
  | [a], V => Below W.heap.size W V ∧ StrsAt V a ws
  | [_, b], V => Below W.heap.size W V ∧ b = .string ⟨(Lib.join ws [32]).toArray⟩
  | [_, _, c], V => Below W.heap.size W V ∧ ∃ g, c = .slice (some ⟨g, 0, none⟩) 1 1 ∧ Blk V g #[.string ⟨(Lib.join ws [32]).toArray⟩] 9
  | [_, _, _, d], V => ApW bl w1 v (m ++ [Lib.join ws [32]]) W d V
  | [_, _, _, _, _], V => StW bl w1 (m ++ [Lib.join ws [32]]) v W V
  | _, _ => False
section
variable {bl : Nat} {w1 : World} {v : Value} {m ws : List (List UInt8)} {W V : World}
theorem CW_nil {vs : List Value} (hl : vs.length ≤ 0) : vs = [] := List.eq_nil_of_length_eq_zero (by omega)
theorem CW_below : ∀ {vs : List Value}, vs.length ≤ 3 → CW bl w1 v m ws W vs V → Below W.heap.size W V
  | [], _, h => h
  | [_], _, h => h.1
  | [_, _], _, h => h.1
  | [_, _, _], _, h => h.1
  | _ :: _ :: _ :: _ :: _, h, _ => by simp at h
theorem CW_chg (hr : StrsRow W w1.heap.size v m) : ∀ {vs : List Value}, vs.length ≤ 4 → CW bl w1 v m ws W vs V → Chg (fun k => k = bl ∨ w1.heap.size ≤ k) W V
  | [], _, h => Chg.ofBelow h
  | [_], _, h => Chg.ofBelow h.1
  | [_, _], _, h => Chg.ofBelow h.1
  | [_, _, _], _, h => Chg.ofBelow h.1
  | [_, _, _, _], _, h => ApW.chg h hr
  | _ :: _ :: _ :: _ :: _ :: _, h, _ => by simp at h
theorem CW_end : ∀ {vs : List Value}, vs.length = 5 → CW bl w1 v m ws W vs V → StW bl w1 (m ++ [Lib.join ws [32]]) v W V
  | [_, _, _, _, _], _, h => h
end
/-- The words' slice. -/
theorem strs_made (V : World) (ws : List (List UInt8)) (cs : Array Value) (n : Nat) (hn : ws.length = n) (hc : cs = (ws.map fun l => Value.string ⟨l.toArray⟩).toArray) (h63 : n ≤ 100) : StrsAt (V.alloc (.cells cs 9)) (.slice (some ⟨V.heap.size, 0, none⟩) n n) ws := by
  have e : cs = (flatC strC ws).toArray := by
    have h : ∀ l : List (List UInt8), l.map (fun l => Value.string ⟨l.toArray⟩) = flatC strC l := fun l => by
      induction l with
      | nil => rfl
      | cons a r ih => rw [List.map_cons, ih]; rfl
    rw [hc, h]
  subst hn
  rw [e]
  exact SlAt.ofBlk strC_size (Blk.new V _ _) (by omega) fun _ _ => trivial
/-- The append of one line. -/
theorem leads_append_line {bl : Nat} {w1 : World} {v : Value} {m : List (List UInt8)} {W V : World} {o : Oper} {a : Act} {l : List UInt8} {g : Nat} (s x : Operand)
    (ho : o.op = .call { callee := .builtin .append, args := #[s, x], argTypes := #[32, 32] }) (hs : a.eval s = v) (hx : a.eval x = .slice (some ⟨g, 0, none⟩) 1 1)
    (hb : Boxed W bl 32 v) (hr : StrsRow W w1.heap.size v m) (hc : Chg (fun k => k = bl) w1 W) (hB : Below W.heap.size W V) (hg : Blk V g #[.string ⟨l.toArray⟩] 9) (hlen : m.length ≤ 1000) {R : Value → World → Prop}
    (hR : ∀ d V', ApW bl w1 v (m ++ [l]) W d V' → R d V') : leads Tryz.prog o a V R := by
  obtain ⟨i, hi2, hx2⟩ := Option.map_eq_some_iff.1 infoStr
  simp only [Prod.mk.injEq] at hx2
  obtain ⟨hz0, hz1, hz2⟩ := hx2
  refine leads_append_own s x 32 ho w1.heap.size 9 i (.string ⟨#[]⟩) 1 16 Tryz.underlying32 hi2 hz0 hz1 hz2 rfl (by decide) v m.length (flatC strC m) hs (ownsRow_below hr hB) ⟨g, 0, none⟩ 1 1 [.string ⟨l.toArray⟩] hx rfl (fun j u hj => ?_) (by simp [Value.oneCell']) (by unfold maxLen; omega) (by omega) (Nat.le_trans hc.size hB.size) fun d V' h1 h2 => hR d V' ⟨⟨V, hB, h2⟩, (boxed_step hb hB).kept h2 ((boxed_step hb hB).not_row ne_strs (ownsRow_below hr hB)), ?_⟩
  · have hadd : (⟨g, 0, none⟩ : Addr).add j = ⟨g, j, none⟩ := by unfold Addr.add; split <;> simp_all
    rw [hadd, hg.cell, ← hj]
    simp
  · exact own_snocC (C := strC) (c := l) h1
end Go.Proofs.YtmaachmidgfhdaaGreatDoor
