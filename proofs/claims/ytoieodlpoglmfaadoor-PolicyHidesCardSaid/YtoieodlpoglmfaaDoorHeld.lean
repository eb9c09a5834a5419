/-
  Blocks that a call keeps: a class of worlds, for regions by facts.
-/
import Derived.Test.YtoieodlpoglmfaaDoorFactsT
import Derived.Test.YtoieodlpoglmfaaDoorMapR
namespace Go.Proofs.YtoieodlpoglmfaaDoor
open Go.RowKit

/-- In V the blocks of L stand as listed, and below the call's own nothing has changed. -/
structure Held (w : World) (L : List (Nat × Obj)) (V : World) : Prop where
  below : Below w.heap.size w V
  all : ∀ x, x ∈ L → V.heap[x.1]? = some x.2
theorem Held.at {w V : World} {L : List (Nat × Obj)} (h : Held w L V) (i : Nat) {b : Nat} {o : Obj} (hi : L[i]? = some (b, o)) : V.heap[b]? = some o := h.all (b, o) (List.mem_of_getElem? hi)
theorem Held.step {w V V' : World} {L : List (Nat × Obj)} (h : Held w L V) (hB : Below V.heap.size V V') : Held w L V' :=
  ⟨h.below.trans (hB.mono h.below.size), fun x hx => (hB.block x.1 (Array.getElem?_eq_some_iff.1 (h.all x hx)).1).trans (h.all x hx)⟩
theorem Held.drew {w V : World} {L : List (Nat × Obj)} (h : Held w L V) : Held w L V.drew := ⟨h.below.drew, h.all⟩
theorem Held.nil (w : World) : Held w [] w := ⟨Below.refl _ _, fun _ h => by cases h⟩
theorem Held.of {w V : World} (h : Below w.heap.size w V) : Held w [] V := ⟨h, fun _ h => by cases h⟩
theorem Held.add {w V : World} {L : List (Nat × Obj)} (h : Held w L V) {b : Nat} {o : Obj} (hb : V.heap[b]? = some o) : Held w ((b, o) :: L) V :=
  ⟨h.below, fun x hx => by
    rcases List.mem_cons.1 hx with rfl | hx
    · exact hb
    · exact h.all x hx⟩
theorem Held.alloc {w V : World} {L : List (Nat × Obj)} (h : Held w L V) (o : Obj) : Held w ((V.heap.size, o) :: L) (V.alloc o) :=
  (h.step (below_one V o)).add (heap_alloc_new V o)
theorem Held.wrote {w V V' : World} {L : List (Nat × Obj)} {b : Nat} {g : Nat → Nat} (h : Held w L V) (hw : Wrote V V' b g) (hb : w.heap.size ≤ b) (hL : ∀ x, x ∈ L → x.1 ≠ b) : Held w L V' :=
  ⟨h.below.trans (hw.below _ hb), fun x hx => (hw.other x.1 (hL x hx)).trans (h.all x hx)⟩
theorem Held.drop {w V : World} {L : List (Nat × Obj)} {y : Nat × Obj} (h : Held w (y :: L) V) : Held w L V := ⟨h.below, fun x hx => h.all x (List.mem_cons_of_mem _ hx)⟩
theorem Held.swap {w V : World} {L : List (Nat × Obj)} {y z : Nat × Obj} (h : Held w (y :: z :: L) V) : Held w (z :: y :: L) V := ⟨h.below, fun x hx => h.all x (by
  rcases List.mem_cons.1 hx with rfl | hx
  · simp
  · rcases List.mem_cons.1 hx with rfl | hx
    · simp
    · simp [hx])⟩
def rowO (f : Nat → Nat) : Obj := .cells (mapC f) 42 (0, 0)
def pairO (x y : Value) : Obj := .cells #[x, y] 24 (0, 0)
/-- A contract that leaves the world alone, as one that keeps what was there. -/
theorem still_below {P : Program} {f : FuncId} {args : Array Value} {w : World} {v : Value} (h : Calls P f args w fun e w' => e = .returned v ∧ w = w') : Calls P f args w fun e w' => e = .returned v ∧ Below w.heap.size w w' :=
  h.mono fun _ _ ⟨h1, h2⟩ => ⟨h1, h2 ▸ Below.refl _ _⟩

end Go.Proofs.YtoieodlpoglmfaaDoor
