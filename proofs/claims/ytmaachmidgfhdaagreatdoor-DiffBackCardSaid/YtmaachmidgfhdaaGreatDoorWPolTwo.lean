/-
  'p, q = f(p), f(q)' over two policies that lie in memory, in whatever order.
-/
import Derived.Test.YtmaachmidgfhdaaGreatDoorW1
import Derived.Test.YtmaachmidgfhdaaGreatDoorW2
/-! PolTwo -/
namespace Go.Proofs.YtmaachmidgfhdaaGreatDoor
open Go.RowKit

theorem putB_put2 {w V : World} {b : Nat} {cs : Array Value} {t : TypeId} (h : PutB w V b (.cells cs t (0, 0))) : Put w V b cs t := ⟨⟨h.os, h.tape, h.output, Nat.le_of_eq h.size.symm, fun k _ hk => h.other k hk⟩, h.new⟩
structure MqI (W0 : World) (b1 b2 : Nat) (p q m n : Pol) (L : Nat → Bool) (x : Nat → Value) (V : World) : Prop where
  below : Below W0.heap.size W0 V
  p1 : L 4 = false → PRow V b1 p
  q1 : L 5 = false → PRow V b2 q
  p2 : L 4 = true → PRow V b1 m
  q2 : L 5 = true → PRow V b2 n
  v0 : L 0 = true → x 0 = .agg (polC p)
  v1 : L 1 = true → x 1 = .agg (polC m)
  v2 : L 2 = true → x 2 = .agg (polC q)
  v3 : L 3 = true → x 3 = .agg (polC n)
  c1 : L 1 = true → L 0 = true
  c3 : L 3 = true → L 1 = true ∧ L 2 = true
  c4 : L 4 = true → L 3 = true
  c5 : L 5 = true → L 4 = true
section
variable {W0 : World} {b1 b2 : Nat} {p q m n : Pol} {L : Nat → Bool} {x : Nat → Value} {V V' : World}
theorem MqI.start (x : Nat → Value) (hB : Below W0.heap.size W0 V) (h1 : PRow V b1 p) (h2 : PRow V b2 q) : MqI W0 b1 b2 p q m n (fun _ => false) x V :=
  ⟨hB, fun _ => h1, fun _ => h2, (fun h => by cases h), (fun h => by cases h), (fun h => by cases h), (fun h => by cases h), (fun h => by cases h), (fun h => by cases h), (fun h => by cases h), (fun h => by cases h), (fun h => by cases h), (fun h => by cases h)⟩
theorem MqI.early (h : MqI W0 b1 b2 p q m n L x V) (h0 : L 0 = false ∨ L 1 = false ∨ L 2 = false ∨ L 3 = false) : L 4 = false ∧ L 5 = false := by
  have h4 : L 4 = false := by
    cases e : L 4 with
    | false => rfl
    | true =>
      have e3 := h.c4 e
      obtain ⟨e1, e2⟩ := h.c3 e3
      have e0 := h.c1 e1
      rcases h0 with h0 | h0 | h0 | h0
      · rw [e0] at h0; cases h0
      · rw [e1] at h0; cases h0
      · rw [e2] at h0; cases h0
      · rw [e3] at h0; cases h0
  refine ⟨h4, ?_⟩
  cases e : L 5 with
  | false => rfl
  | true => have := h.c5 e; rw [h4] at this; cases this
/-- An operation that is met early. -/
theorem MqI.meet (h : MqI W0 b1 b2 p q m n L x V) {i : Nat} (hi : i < 4) (hL : L i = false) (u : Value) (hB : Below V.heap.size V V')
    (h0 : i = 0 → u = .agg (polC p)) (h1 : i = 1 → u = .agg (polC m) ∧ L 0 = true) (h2 : i = 2 → u = .agg (polC q)) (h3 : i = 3 → u = .agg (polC n) ∧ L 1 = true ∧ L 2 = true) : MqI W0 b1 b2 p q m n (setL L i) (setX x i u) V' := by
  obtain ⟨e4, e5⟩ := h.early (by rcases show i = 0 ∨ i = 1 ∨ i = 2 ∨ i = 3 by omega with rfl | rfl | rfl | rfl <;> simp [hL])
  have s4 : setL L i 4 = false := by rw [setL_other (by omega)]; exact e4
  have s5 : setL L i 5 = false := by rw [setL_other (by omega)]; exact e5
  have val : ∀ (j : Nat) (v : Value), (j = i → u = v) → (L j = true → x j = v) → setL L i j = true → setX x i u j = v := fun j v ha hb hs => by
    by_cases e : j = i
    · subst e; rw [setX_same]; exact ha rfl
    · rw [setX_other _ e]; rw [setL_other e] at hs; exact hb hs
  have up : ∀ j, L j = true → setL L i j = true := fun j hj => by
    unfold setL; split
    · rfl
    · exact hj
  refine ⟨h.below.trans (hB.mono h.below.size), fun _ => (h.p1 e4).step hB, fun _ => (h.q1 e5).step hB, (fun e => by rw [s4] at e; cases e), (fun e => by rw [s5] at e; cases e),
    val 0 _ (fun e => h0 e.symm) h.v0, val 1 _ (fun e => (h1 e.symm).1) h.v1, val 2 _ (fun e => h2 e.symm) h.v2, val 3 _ (fun e => (h3 e.symm).1) h.v3, fun e => ?_, fun e => ?_, (fun e => by rw [s4] at e; cases e), (fun e => by rw [s5] at e; cases e)⟩
  · by_cases e1 : 1 = i
    · exact up 0 (h1 e1.symm).2
    · rw [setL_other e1] at e; exact up 0 (h.c1 e)
  · by_cases e3 : 3 = i
    · exact ⟨up 1 (h3 e3.symm).2.1, up 2 (h3 e3.symm).2.2⟩
    · rw [setL_other e3] at e; exact ⟨up 1 (h.c3 e).1, up 2 (h.c3 e).2⟩
theorem MqI.store1 (h : MqI W0 b1 b2 p q m n L x V) (hb : W0.heap.size ≤ b1) (hne : b2 ≠ b1) (hL : L 4 = false) (h3 : L 3 = true) (hp : Put V V' b1 (polC m) 29) (u : Value) : MqI W0 b1 b2 p q m n (setL L 4) (setX x 4 u) V' := by
  have e5 : L 5 = false := by
    cases e : L 5 with
    | false => rfl
    | true => have := h.c5 e; rw [hL] at this; cases this
  have s : ∀ j, j ≠ 4 → setL L 4 j = L j := fun j hj => setL_other hj
  refine ⟨h.below.trans (hp.below h.below.size hb), (fun e => by rw [setL_same] at e; cases e), fun _ => hp.chg.kept (h.q1 e5) hne, fun _ => hp.blk, (fun e => by rw [s 5 (by decide), e5] at e; cases e), ?_, ?_, ?_, ?_, ?_, ?_, ?_, fun _ => setL_same _ _⟩
  · rw [s 0 (by decide), setX_other _ (by decide)]; exact h.v0
  · rw [s 1 (by decide), setX_other _ (by decide)]; exact h.v1
  · rw [s 2 (by decide), setX_other _ (by decide)]; exact h.v2
  · rw [s 3 (by decide), setX_other _ (by decide)]; exact h.v3
  · rw [s 0 (by decide), s 1 (by decide)]; exact h.c1
  · rw [s 1 (by decide), s 2 (by decide), s 3 (by decide)]; exact h.c3
  · rw [s 3 (by decide)]; exact fun _ => h3
theorem MqI.store2 (h : MqI W0 b1 b2 p q m n L x V) (hb : W0.heap.size ≤ b2) (hne : b1 ≠ b2) (h4 : L 4 = true) (hp : Put V V' b2 (polC n) 29) (u : Value) : MqI W0 b1 b2 p q m n (setL L 5) (setX x 5 u) V' := by
  have s : ∀ j, j ≠ 5 → setL L 5 j = L j := fun j hj => setL_other hj
  refine ⟨h.below.trans (hp.below h.below.size hb), (fun e => by rw [s 4 (by decide), h4] at e; cases e), (fun e => by rw [setL_same] at e; cases e), fun _ => hp.chg.kept (h.p2 h4) hne, fun _ => hp.blk, ?_, ?_, ?_, ?_, ?_, ?_, ?_, fun _ => ?_⟩
  · rw [s 0 (by decide), setX_other _ (by decide)]; exact h.v0
  · rw [s 1 (by decide), setX_other _ (by decide)]; exact h.v1
  · rw [s 2 (by decide), setX_other _ (by decide)]; exact h.v2
  · rw [s 3 (by decide), setX_other _ (by decide)]; exact h.v3
  · rw [s 0 (by decide), s 1 (by decide)]; exact h.c1
  · rw [s 1 (by decide), s 2 (by decide), s 3 (by decide)]; exact h.c3
  · rw [s 3 (by decide), s 4 (by decide)]; exact h.c4
  · rw [s 4 (by decide)]; exact h4
end
end Go.Proofs.YtmaachmidgfhdaaGreatDoor
