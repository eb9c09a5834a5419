/-
  'y, f := g(p, append(append([]string{}, l[:k]...), l[k+1:]...))' in whatever order: the row that grows, beside the place for the answer.
-/
import Derived.Test.YtmaachmidgfhdaaGreatDoorWDifC
import Derived.Test.YtmaachmidgfhdaaGreatDoorWDifS
import Derived.Test.YtmaachmidgfhdaaGreatDoorW1
/-! DifB -/
namespace Go.Proofs.YtmaachmidgfhdaaGreatDoor
open Go.RowKit

/-- What is known between the operations. 1: the empty row, 5: with the front, 10: with the back, 11: the call, 15: the place, 16: the store. -/
structure BkI (w : World) (B : Nat) (m n : Pol) (u : Value) (ls fr le : List (List UInt8)) (R : Pol) (smp : Nat → Option Value) (L : Nat → Bool) (x : Nat → Value) (V : World) : Prop where
  so : SoW w m n V
  sl : StrsAt V u ls
  ul : ∀ a c d, u = .slice (some a) c d → a.block < B
  wB : w.heap.size + 1 < B
  far : B ≤ V.heap.size
  vals : ∀ i v, smp i = some v → L i = true → x i = v
  c5 : L 5 = true → L 1 = true
  c10 : L 10 = true → L 5 = true
  c11 : L 11 = true → L 10 = true
  c16 : L 16 = true → L 15 = true ∧ L 11 = true
  r1 : L 1 = true → L 5 = false → StrsRow V B (x 1) []
  r5 : L 5 = true → L 10 = false → StrsRow V B (x 5) fr
  r10 : L 10 = true → L 11 = false → StrsRow V B (x 10) le
  al : L 15 = true → ∃ g, x 15 = .pointer (some ⟨g, 0, none⟩) ∧ B ≤ g ∧ g < V.heap.size ∧ (L 16 = false → PRow V g zeroP) ∧ (L 16 = true → PRow V g R) ∧ (L 1 = true → L 5 = false → (x 1).ownBlock ≠ some g) ∧ (L 5 = true → L 10 = false → (x 5).ownBlock ≠ some g) ∧ (L 10 = true → L 11 = false → (x 10).ownBlock ≠ some g)
section
variable {w : World} {B : Nat} {m n : Pol} {u : Value} {ls fr le : List (List UInt8)} {R : Pol} {smp : Nat → Option Value} {L : Nat → Bool} {x : Nat → Value} {V V' : World}
/-- The numbers of the steps are no others'. -/
structure BkN (smp : Nat → Option Value) : Prop where
  n1 : smp 1 = none
  n5 : smp 5 = none
  n10 : smp 10 = none
  n15 : smp 15 = none
  n16 : smp 16 = none
theorem BkI.start (x : Nat → Value) (h1 : SoW w m n V) (h2 : StrsAt V u ls) (h3 : ∀ a c d, u = .slice (some a) c d → a.block < V.heap.size) (h4 : w.heap.size + 1 < V.heap.size) : BkI w V.heap.size m n u ls fr le R smp (fun _ => false) x V :=
  ⟨h1, h2, h3, h4, Nat.le_refl _, (fun _ _ _ h => by cases h), (fun h => by cases h), (fun h => by cases h), (fun h => by cases h), (fun h => by cases h), (fun h => by cases h), (fun h => by cases h), (fun h => by cases h), (fun h => by cases h)⟩
/-- An operation that changes nothing that was there; its value is known. -/
theorem BkI.simple (hn : BkN smp) (h : BkI w B m n u ls fr le R smp L x V) {i : Nat} {v : Value} (hi : smp i = some v) (hd : i = 11 → L 10 = true) (hB : Below V.heap.size V V') : BkI w B m n u ls fr le R smp (setL L i) (setX x i v) V' := by
  have e1 : 1 ≠ i := fun e => by have := hn.n1; rw [e, hi] at this; cases this
  have e5 : 5 ≠ i := fun e => by have := hn.n5; rw [e, hi] at this; cases this
  have e10 : 10 ≠ i := fun e => by have := hn.n10; rw [e, hi] at this; cases this
  have e15 : 15 ≠ i := fun e => by have := hn.n15; rw [e, hi] at this; cases this
  have e16 : 16 ≠ i := fun e => by have := hn.n16; rw [e, hi] at this; cases this
  have up : ∀ j, L j = true → setL L i j = true := fun j hj => by
    unfold setL; split
    · rfl
    · exact hj
  have dn : ∀ {j}, setL L i j = false → L j = false := fun {j} hj => by
    unfold setL at hj; split at hj
    · cases hj
    · exact hj
  refine ⟨h.so.step hB, h.sl.below hB (Nat.le_refl _), h.ul, h.wB, Nat.le_trans h.far hB.size, fun j v' hj hl => ?_, ?_, ?_, fun e => ?_, fun e => ?_, fun a b => ?_, fun a b => ?_, fun a b => ?_, fun a => ?_⟩
  · by_cases e : j = i
    · subst e; rw [setX_same]; rw [hi] at hj; exact Option.some.inj hj
    · rw [setX_other _ e]; rw [setL_other e] at hl; exact h.vals j v' hj hl
  · rw [setL_other e5, setL_other e1]; exact h.c5
  · rw [setL_other e10, setL_other e5]; exact h.c10
  · rw [setL_other e10]
    by_cases e11 : 11 = i
    · exact hd e11.symm
    · rw [setL_other e11] at e; exact h.c11 e
  · rw [setL_other e16] at e; rw [setL_other e15]; exact ⟨(h.c16 e).1, up 11 (h.c16 e).2⟩
  · rw [setL_other e1] at a; rw [setX_other _ e1]; exact own_rowS (h.r1 a (dn b)) hB
  · rw [setL_other e5] at a; rw [setX_other _ e5]; exact own_rowS (h.r5 a (dn b)) hB
  · rw [setL_other e10] at a; rw [setX_other _ e10]; exact own_rowS (h.r10 a (dn b)) hB
  · rw [setL_other e15] at a
    obtain ⟨g, g1, g2, g3, g4, g5, g6, g7, g8⟩ := h.al a
    rw [setX_other _ e15, setL_other e16, setL_other e1, setX_other _ e1, setL_other e5, setX_other _ e5, setL_other e10, setX_other _ e10]
    exact ⟨g, g1, g2, Nat.lt_of_lt_of_le g3 hB.size, fun q => (g4 q).step hB, fun q => (g5 q).step hB, g6, g7, fun a b => g8 a (dn b)⟩
/-- A row comes, or grows. -/
theorem BkI.row (h : BkI w B m n u ls fr le R smp L x V) {i : Nat} {v : Value} (hi : i = 1 ∨ i = 5 ∨ i = 10) (hs : smp i = none) (hL : L i = false) (hd1 : i = 5 → L 1 = true) (hd5 : i = 10 → L 5 = true) {S : Nat → Prop} (hc : Chg S V V') (hS : ∀ k, S k → B ≤ k)
    (hg : ∀ g, L 15 = true → x 15 = .pointer (some ⟨g, 0, none⟩) → ¬ S g ∧ v.ownBlock ≠ some g)
    (hr : StrsRow V' B v (if i = 1 then [] else if i = 5 then fr else le)) : BkI w B m n u ls fr le R smp (setL L i) (setX x i v) V' := by
  have h10 : L 10 = false := by
    cases e : L 10 with
    | false => rfl
    | true =>
      have q5 := h.c10 e
      have q1 := h.c5 q5
      rcases hi with rfl | rfl | rfl
      · rw [q1] at hL; cases hL
      · rw [q5] at hL; cases hL
      · rw [e] at hL; cases hL
  have h11 : L 11 = false := by
    cases e : L 11 with
    | false => rfl
    | true => have := h.c11 e; rw [h10] at this; cases this
  have h16 : L 16 = false := by
    cases e : L 16 with
    | false => rfl
    | true => have := (h.c16 e).2; rw [h11] at this; cases this
  have e15 : 15 ≠ i := by rcases hi with rfl | rfl | rfl <;> decide
  have e16 : 16 ≠ i := by rcases hi with rfl | rfl | rfl <;> decide
  have e11 : 11 ≠ i := by rcases hi with rfl | rfl | rfl <;> decide
  have nS : ∀ k, k < B → ¬ S k := fun k hk hs => by have := hS k hs; omega
  have hwB := h.wB
  have hso : SoW w m n V' := ⟨h.so.below.trans (hc.below h.so.below.size fun k hk => by have := hS k hk; omega), hc.kept h.so.pr (nS _ (by omega)), hc.kept h.so.qr (nS _ hwB)⟩
  have hal : L 15 = true → ∃ g, x 15 = .pointer (some ⟨g, 0, none⟩) ∧ B ≤ g ∧ g < V'.heap.size ∧ PRow V' g zeroP ∧ v.ownBlock ≠ some g := fun a => by
    obtain ⟨g, g1, g2, g3, g4, -⟩ := h.al a
    obtain ⟨q1, q2⟩ := hg g a g1
    exact ⟨g, g1, g2, Nat.lt_of_lt_of_le g3 hc.size, hc.kept (g4 h16) q1, q2⟩
  refine ⟨hso, h.sl.chg hc (fun a c d e => nS _ (h.ul a c d e)), h.ul, hwB, Nat.le_trans h.far hc.size, fun j v' hj hl => ?_, fun e => ?_, fun e => ?_, (fun e => by rw [setL_other e11, h11] at e; cases e), (fun e => by rw [setL_other e16, h16] at e; cases e), fun a b => ?_, fun a b => ?_, fun a b => ?_, fun a => ?_⟩
  · have e : j ≠ i := fun e => by rw [e, hs] at hj; cases hj
    rw [setX_other _ e]; rw [setL_other e] at hl; exact h.vals j v' hj hl
  · by_cases e5 : 5 = i
    · rw [setL_other (by rw [← e5]; decide)]; exact hd1 e5.symm
    · rw [setL_other e5] at e
      unfold setL; split
      · rfl
      · exact h.c5 e
  · by_cases e0 : 10 = i
    · rw [setL_other (by rw [← e0]; decide)]; exact hd5 e0.symm
    · rw [setL_other e0, h10] at e; cases e
  · rcases hi with rfl | rfl | rfl
    · rw [setX_same]; exact hr
    · rw [setL_same] at b; cases b
    · rw [setL_other (by decide)] at b; have := hd5 rfl; rw [b] at this; cases this
  · rcases hi with rfl | rfl | rfl
    · rw [setL_other (by decide)] at a; have := h.c5 a; rw [this] at hL; cases hL
    · rw [setX_same]; exact hr
    · rw [setL_same] at b; cases b
  · rcases hi with rfl | rfl | rfl
    · rw [setL_other (by decide), h10] at a; cases a
    · rw [setL_other (by decide), h10] at a; cases a
    · rw [setX_same]; exact hr
  · rw [setL_other e15] at a
    obtain ⟨g, g1, g2, g3, g4, g5⟩ := hal a
    rw [setX_other _ e15, setL_other e16]
    refine ⟨g, g1, g2, g3, fun _ => g4, (fun e => by rw [h16] at e; cases e), fun p q => ?_, fun p q => ?_, fun p q => ?_⟩
    · rcases hi with rfl | rfl | rfl
      · rw [setX_same]; exact g5
      · rw [setL_same] at q; cases q
      · rw [setL_other (by decide)] at q; have := hd5 rfl; rw [q] at this; cases this
    · rcases hi with rfl | rfl | rfl
      · rw [setL_other (by decide)] at p; have := h.c5 p; rw [this] at hL; cases hL
      · rw [setX_same]; exact g5
      · rw [setL_same] at q; cases q
    · rcases hi with rfl | rfl | rfl
      · rw [setL_other (by decide), h10] at p; cases p
      · rw [setL_other (by decide), h10] at p; cases p
      · rw [setX_same]; exact g5
/-- The place is made. -/
theorem BkI.place (hn : BkN smp) (h : BkI w B m n u ls fr le R smp L x V) (hL : L 15 = false) : BkI w B m n u ls fr le R smp (setL L 15) (setX x 15 (.pointer (some ⟨V.heap.size, 0, none⟩))) (V.alloc (.cells (polC zeroP) 29)) := by
  have h16 : L 16 = false := by
    cases e : L 16 with
    | false => rfl
    | true => have := (h.c16 e).1; rw [hL] at this; cases this
  have hB := belowNew V (.cells (polC zeroP) 29)
  have s : ∀ j, j ≠ 15 → setL L 15 j = L j := fun j hj => setL_other hj
  refine ⟨h.so.step hB, h.sl.below hB (Nat.le_refl _), h.ul, h.wB, Nat.le_trans h.far hB.size, fun j v' hj hl => ?_, ?_, ?_, ?_, (fun e => by rw [s 16 (by decide), h16] at e; cases e), fun a b => ?_, fun a b => ?_, fun a b => ?_, fun _ => ?_⟩
  · have e : j ≠ 15 := fun e => by rw [e, hn.n15] at hj; cases hj
    rw [setX_other _ e]; rw [setL_other e] at hl; exact h.vals j v' hj hl
  · rw [s 5 (by decide), s 1 (by decide)]; exact h.c5
  · rw [s 10 (by decide), s 5 (by decide)]; exact h.c10
  · rw [s 11 (by decide), s 10 (by decide)]; exact h.c11
  · rw [s 1 (by decide)] at a; rw [s 5 (by decide)] at b; rw [setX_other _ (by decide)]; exact own_rowS (h.r1 a b) hB
  · rw [s 5 (by decide)] at a; rw [s 10 (by decide)] at b; rw [setX_other _ (by decide)]; exact own_rowS (h.r5 a b) hB
  · rw [s 10 (by decide)] at a; rw [s 11 (by decide)] at b; rw [setX_other _ (by decide)]; exact own_rowS (h.r10 a b) hB
  · rw [s 16 (by decide), s 1 (by decide), s 5 (by decide), s 10 (by decide), s 11 (by decide), setX_same, setX_other _ (by decide), setX_other _ (by decide), setX_other _ (by decide)]
    refine ⟨_, rfl, h.far, by simp, fun _ => PRow.new V zeroP, (fun e => by rw [h16] at e; cases e), fun a b e => ?_, fun a b e => ?_, fun a b e => ?_⟩
    · have := ((h.r1 a b).lt _ e).2; omega
    · have := ((h.r5 a b).lt _ e).2; omega
    · have := ((h.r10 a b).lt _ e).2; omega
/-- The answer is stored. -/
theorem BkI.store (hn : BkN smp) (h : BkI w B m n u ls fr le R smp L x V) (h15 : L 15 = true) (h11 : L 11 = true) {g : Nat} (hx : x 15 = .pointer (some ⟨g, 0, none⟩)) (hp : Put V V' g (polC R) 29) (y : Value) : BkI w B m n u ls fr le R smp (setL L 16) (setX x 16 y) V' := by
  obtain ⟨g', g1, g2, g3, -⟩ := h.al h15
  have eg : g = g' := by
    rw [hx] at g1
    injection g1 with e
    injection e with e
    injection e
  subst eg
  have hwB := h.wB
  have hc := hp.chg
  have nS : ∀ k, k < B → ¬ (k = g) := fun k hk e => by omega
  have s : ∀ j, j ≠ 16 → setL L 16 j = L j := fun j hj => setL_other hj
  have h10 := h.c11 h11
  have h5 := h.c10 h10
  refine ⟨⟨h.so.below.trans (hc.below h.so.below.size fun k hk => by have hk : k = g := hk; omega), hc.kept h.so.pr (nS _ (by omega)), hc.kept h.so.qr (nS _ hwB)⟩, h.sl.chg hc (fun a c d e => nS _ (h.ul a c d e)), h.ul, hwB, Nat.le_trans h.far hc.size, fun j v' hj hl => ?_, ?_, ?_, ?_, (fun _ => by rw [s 15 (by decide), s 11 (by decide)]; exact ⟨h15, h11⟩), (fun _ b => by rw [s 5 (by decide), h5] at b; cases b), (fun _ b => by rw [s 10 (by decide), h10] at b; cases b), (fun _ b => by rw [s 11 (by decide), h11] at b; cases b), fun _ => ?_⟩
  · have e : j ≠ 16 := fun e => by rw [e, hn.n16] at hj; cases hj
    rw [setX_other _ e]; rw [setL_other e] at hl; exact h.vals j v' hj hl
  · rw [s 5 (by decide), s 1 (by decide)]; exact h.c5
  · rw [s 10 (by decide), s 5 (by decide)]; exact h.c10
  · rw [s 11 (by decide), s 10 (by decide)]; exact h.c11
  · rw [setX_other _ (by decide), setL_same]
    exact ⟨g, hx, g2, Nat.lt_of_lt_of_le g3 hc.size, (fun e => by cases e), fun _ => hp.blk, (fun _ b => by rw [s 5 (by decide), h5] at b; cases b), (fun _ b => by rw [s 10 (by decide), h10] at b; cases b), (fun _ b => by rw [s 11 (by decide), h11] at b; cases b)⟩
end
end Go.Proofs.YtmaachmidgfhdaaGreatDoor
