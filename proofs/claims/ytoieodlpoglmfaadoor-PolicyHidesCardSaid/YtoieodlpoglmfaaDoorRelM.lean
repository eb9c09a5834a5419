/-
  Maps of tags as plain functions on the tags' numbers: valid ones, images, moved tags, moves. Plain mathematics.
-/
import Derived.Test.YtoieodlpoglmfaaDoorLabM
namespace Go.Proofs.YtoieodlpoglmfaaDoor

/-- A set by its tags. -/
def setB (p : Nat → Bool) : Nat := (List.range 16).foldl (fun a u => if p u then a ||| 2 ^ u else a) 0
theorem setB_fold (p : Nat → Bool) : ∀ (l : List Nat) (a t : Nat), (l.foldl (fun a u => if p u then a ||| 2 ^ u else a) a).testBit t = (a.testBit t || (decide (t ∈ l) && p t))
  | [], a, t => by simp
  | u :: r, a, t => by
    rw [List.foldl_cons, setB_fold p r]
    by_cases hp : p u = true
    · rw [if_pos hp, Nat.testBit_or, Nat.testBit_two_pow]
      by_cases e : u = t
      · subst e; simp [hp]
      · have e2 : ¬ t = u := fun h => e h.symm
        simp [e, e2]
    · rw [if_neg hp]
      by_cases e : t = u
      · subst e
        have : p t = false := by simpa using hp
        simp [this]
      · simp [e]
theorem setB_bit (p : Nat → Bool) (t : Nat) : (setB p).testBit t = (decide (t < 16) && p t) := by
  unfold setB; rw [setB_fold]; simp
theorem setB_lt (p : Nat → Bool) : setB p < 65536 := by
  refine Nat.lt_pow_two_of_testBit (n := 16) _ fun i hi => ?_
  rw [setB_bit]
  have : ¬ i < 16 := by omega
  simp [this]
theorem eq_setB {s : Nat} (hs : s < 65536) {p : Nat → Bool} (h : ∀ t, t < 16 → s.testBit t = p t) : s = setB p := by
  refine Nat.eq_of_testBit_eq fun t => ?_
  rw [setB_bit]
  by_cases ht : t < 16
  · simp [ht, h t ht]
  · have : s.testBit t = false := by
      cases hb : s.testBit t with
      | false => rfl
      | true => exact absurd (bit_lt hs hb) ht
    simp [ht, this]
theorem setB_congr {p q : Nat → Bool} (h : ∀ t, t < 16 → p t = q t) : setB p = setB q := by
  refine eq_setB (setB_lt p) fun t ht => ?_
  rw [setB_bit]; simp [ht, h t ht]
theorem setB_add {p q : Nat → Bool} {u : Nat} (hu : u < 16) (h : ∀ t, t < 16 → q t = (p t || decide (t = u))) : withN (setB p) u = setB q := by
  refine eq_setB (withN_lt (setB_lt p) hu) fun t ht => ?_
  unfold withN
  rw [Nat.testBit_or, Nat.testBit_two_pow, setB_bit, h t ht]
  by_cases e : u = t
  · subst e; simp [ht]
  · have e2 : ¬ t = u := fun h => e h.symm
    simp [ht, e, e2]
theorem setB_zero {p : Nat → Bool} (h : ∀ t, t < 16 → p t = false) : setB p = 0 := by
  refine Nat.eq_of_testBit_eq fun t => ?_
  rw [setB_bit]
  by_cases ht : t < 16
  · simp [h t ht]
  · simp [ht]

/-- The sets of equal numbers below 16: a Bool for 'all below k'. -/
def allB (k : Nat) (p : Nat → Bool) : Bool := (List.range k).all p
theorem allB_iff {k : Nat} {p : Nat → Bool} : allB k p = true ↔ ∀ t, t < k → p t = true := by unfold allB; simp
def anyB (k : Nat) (p : Nat → Bool) : Bool := (List.range k).any p
theorem anyB_iff {k : Nat} {p : Nat → Bool} : anyB k p = true ↔ ∃ t, t < k ∧ p t = true := by unfold anyB; simp
theorem anyB_succ (k : Nat) (p : Nat → Bool) : anyB (k + 1) p = (anyB k p || p k) := by unfold anyB; rw [List.range_succ]; simp
theorem anyB_zero (p : Nat → Bool) : anyB 0 p = false := rfl
theorem allB_succ (k : Nat) (p : Nat → Bool) : allB (k + 1) p = (allB k p && p k) := by unfold allB; rw [List.range_succ]; simp

/-- Two maps hold the same. -/
def eqF (f g : Nat → Nat) : Bool := allB 16 fun t => f t == g t
theorem eqF_iff {f g : Nat → Nat} : eqF f g = true ↔ ∀ t, t < 16 → f t = g t := by unfold eqF; rw [allB_iff]; simp
theorem eqF_refl (f : Nat → Nat) : eqF f f = true := eqF_iff.2 fun _ _ => rfl

def MapOk (f : Nat → Nat) : Prop := ∀ t, t < 16 → f t < 256
/-- A map is valid. -/
def fineB (f : Nat → Nat) : Bool := allB 16 fun t => decide (f t < 16) && f (f t) == f t
theorem fineB_iff {f : Nat → Nat} : fineB f = true ↔ ∀ t, t < 16 → f t < 16 ∧ f (f t) = f t := by unfold fineB; rw [allB_iff]; simp
theorem fine_ok {f : Nat → Nat} (h : fineB f = true) : MapOk f := fun t ht => Nat.lt_trans ((fineB_iff.1 h) t ht).1 (by decide)

/-- One map, and then another one. -/
def thenF (f g : Nat → Nat) (t : Nat) : Nat := if f t < 16 then g (f t) else 0
theorem thenF_ok {f g : Nat → Nat} (hg : MapOk g) : MapOk (thenF f g) := fun _ _ => by
  unfold thenF
  split
  · exact hg _ ‹_›
  · decide
theorem fine_then (f : Nat → Nat) : eqF (thenF f f) f = fineB f := by
  rw [Bool.eq_iff_iff, eqF_iff, fineB_iff]
  constructor
  · intro h t ht
    have h1 := h t ht
    unfold thenF at h1
    split at h1
    · exact ⟨‹_›, h1⟩
    · rename_i h2; omega
  · intro h t ht
    unfold thenF
    rw [if_pos (h t ht).1]
    exact (h t ht).2
def idF (t : Nat) : Nat := t
theorem fine_id : fineB idF = true := fineB_iff.2 fun _ ht => ⟨ht, rfl⟩
theorem then_id {f : Nat → Nat} (h : fineB f = true) : eqF (thenF f idF) f = true := eqF_iff.2 fun t ht => by
  unfold thenF; rw [if_pos ((fineB_iff.1 h) t ht).1]; rfl
def updF (f : Nat → Nat) (k v t : Nat) : Nat := if t = k then v else f t
/-- A map that is written so far. -/
def toF (f g : Nat → Nat) (k t : Nat) : Nat := if t < k then f t else g t
theorem toF_upd (f g : Nat → Nat) (k : Nat) {v : Nat} (h : v = f k) : ∀ t, updF (toF f g k) k v t = toF f g (k + 1) t := fun t => by
  unfold updF toF
  by_cases h1 : t = k
  · subst h1; simp [h]
  · by_cases h2 : t < k
    · simp [h1, h2, show t < k + 1 by omega]
    · simp [h1, h2, show ¬ t < k + 1 by omega]
theorem toF_same (f g : Nat → Nat) (k : Nat) (h : g k = f k) : ∀ t, toF f g k t = toF f g (k + 1) t := fun t => by
  unfold toF
  by_cases h1 : t = k
  · subst h1; simp [h]
  · by_cases h2 : t < k
    · simp [h2, show t < k + 1 by omega]
    · simp [h2, show ¬ t < k + 1 by omega]

/-- Does a tag of the set go to u? -/
def hitB (f : Nat → Nat) (s u : Nat) : Bool := anyB 16 fun t => s.testBit t && f t == u
/-- The image of a set. -/
def imgN (f : Nat → Nat) (s : Nat) : Nat := setB (hitB f s)
theorem imgN_lt (f : Nat → Nat) (s : Nat) : imgN f s < 65536 := setB_lt _
theorem imgN_bit {f : Nat → Nat} {s u : Nat} : (imgN f s).testBit u = true ↔ u < 16 ∧ ∃ t, t < 16 ∧ s.testBit t = true ∧ f t = u := by
  unfold imgN hitB; rw [setB_bit]; simp [anyB_iff]
/-- The moved tags. -/
def movedN (f : Nat → Nat) : Nat := setB fun t => f t != t
theorem movedN_lt (f : Nat → Nat) : movedN f < 65536 := setB_lt _
theorem movedN_bit {f : Nat → Nat} {t : Nat} : (movedN f).testBit t = true ↔ t < 16 ∧ f t ≠ t := by
  unfold movedN; rw [setB_bit]; simp
theorem movedN_no {f : Nat → Nat} {t : Nat} (ht : t < 16) : (movedN f).testBit t = false ↔ f t = t := by
  unfold movedN; rw [setB_bit]; simp [ht]
def touchB (f : Nat → Nat) (a b : Nat) : Bool := movedN f &&& (a ||| b) != 0
theorem touchB_no {f : Nat → Nat} {a b : Nat} (h : touchB f a b = false) : ∀ t, t < 16 → (a ||| b).testBit t = true → f t = t := by
  intro t ht hb
  unfold touchB at h
  have h0 : movedN f &&& (a ||| b) = 0 := by simpa using h
  have h1 : (movedN f &&& (a ||| b)).testBit t = false := by rw [h0]; simp
  rw [Nat.testBit_and, hb, Bool.and_true] at h1
  exact (movedN_no ht).1 h1
theorem touchB_of {f : Nat → Nat} {a b : Nat} (h : ∀ t, t < 16 → (a ||| b).testBit t = true → f t = t) : touchB f a b = false := by
  unfold touchB
  have h0 : movedN f &&& (a ||| b) = 0 := by
    refine Nat.eq_of_testBit_eq fun t => ?_
    rw [Nat.testBit_and]
    cases h1 : (movedN f).testBit t with
    | false => simp
    | true =>
      have h2 := movedN_bit.1 h1
      cases h3 : (a ||| b).testBit t with
      | false => simp
      | true => exact absurd (h t h2.1 h3) h2.2
  rw [h0]; rfl

theorem img_mono {f : Nat → Nat} {a b : Nat} (h : subB a b = true) : subB (imgN f a) (imgN f b) = true := by
  rw [subB_iff] at *
  intro u hu hb
  obtain ⟨h1, t, h2, h3, h4⟩ := imgN_bit.1 hb
  exact imgN_bit.2 ⟨h1, t, h2, h t h2 h3, h4⟩
theorem img_flows {f : Nat → Nat} {a b c d : Nat} (h : flowsB a b c d = true) : flowsB (imgN f a) (imgN f b) (imgN f c) (imgN f d) = true := by
  unfold flowsB at *
  rw [Bool.and_eq_true] at *
  exact ⟨img_mono h.1, img_mono h.2⟩
theorem img_stays {f : Nat → Nat} {a : Nat} (hf : fineB f = true) : ∀ u, (imgN f a).testBit u = true → f u = u := by
  intro u hu
  obtain ⟨h1, t, h2, h3, rfl⟩ := imgN_bit.1 hu
  exact ((fineB_iff.1 hf) t h2).2
theorem img_of_stays {f : Nat → Nat} {a : Nat} (ha : a < 65536) (h : ∀ u, a.testBit u = true → f u = u) : imgN f a = a := by
  refine (eq_setB ha fun u hu => ?_).symm
  rw [Bool.eq_iff_iff]
  constructor
  · intro hb
    unfold hitB; rw [anyB_iff]
    exact ⟨u, hu, by simp [hb, h u hb]⟩
  · intro hh
    unfold hitB at hh; rw [anyB_iff] at hh
    obtain ⟨t, ht, h1⟩ := hh
    simp at h1
    rw [← h1.2, h t h1.1]; exact h1.1
theorem img_img {f : Nat → Nat} {a : Nat} (hf : fineB f = true) : imgN f (imgN f a) = imgN f a := img_of_stays (imgN_lt _ _) (img_stays hf)
theorem img_touch {f : Nat → Nat} {a b : Nat} (hf : fineB f = true) : touchB f (imgN f a) (imgN f b) = false := touchB_of fun t _ h => by
  rw [Nat.testBit_or, Bool.or_eq_true] at h
  rcases h with h | h
  · exact img_stays hf t h
  · exact img_stays hf t h
theorem img_untouched {f : Nat → Nat} {a b : Nat} (ha : a < 65536) (hb : b < 65536) (h : touchB f a b = false) : imgN f a = a ∧ imgN f b = b :=
  ⟨img_of_stays ha fun u hu => touchB_no h u (bit_lt ha hu) (by rw [Nat.testBit_or, hu]; rfl), img_of_stays hb fun u hu => touchB_no h u (bit_lt hb hu) (by rw [Nat.testBit_or, hu]; simp)⟩
theorem img_or (f : Nat → Nat) (a b : Nat) : imgN f (a ||| b) = imgN f a ||| imgN f b := by
  refine Nat.eq_of_testBit_eq fun u => ?_
  rw [Nat.testBit_or, Bool.eq_iff_iff, Bool.or_eq_true, imgN_bit, imgN_bit, imgN_bit]
  constructor
  · rintro ⟨h1, t, h2, h3, h4⟩
    rw [Nat.testBit_or, Bool.or_eq_true] at h3
    rcases h3 with h3 | h3
    · exact .inl ⟨h1, t, h2, h3, h4⟩
    · exact .inr ⟨h1, t, h2, h3, h4⟩
  · rintro (⟨h1, t, h2, h3, h4⟩ | ⟨h1, t, h2, h3, h4⟩)
    · exact ⟨h1, t, h2, by rw [Nat.testBit_or, h3]; rfl, h4⟩
    · exact ⟨h1, t, h2, by rw [Nat.testBit_or, h3]; simp, h4⟩
theorem img_moved {f : Nat → Nat} {a : Nat} (hf : fineB f = true) : imgN f a &&& movedN f = 0 := by
  refine Nat.eq_of_testBit_eq fun u => ?_
  rw [Nat.testBit_and]
  cases h : (imgN f a).testBit u with
  | false => simp
  | true =>
    have h1 := img_stays hf u h
    obtain ⟨h2, -⟩ := imgN_bit.1 h
    rw [(movedN_no h2).2 h1]; simp

/-- May a tag take another one's place? -/
def mayB (f : Nat → Nat) (a b : Int) : Bool := decide (0 ≤ a) && decide (a < 16) && decide (0 ≤ b) && decide (b < 16) && decide (a ≠ b) && (f a.toNat == a.toNat) && (f b.toNat == b.toNat)
theorem mayB_iff {f : Nat → Nat} {a b : Int} : mayB f a b = true ↔ 0 ≤ a ∧ a < 16 ∧ 0 ≤ b ∧ b < 16 ∧ a ≠ b ∧ f a.toNat = a.toNat ∧ f b.toNat = b.toNat := by
  unfold mayB; simp [and_assoc]
/-- The map with a tag in another one's place. -/
def moveF (f : Nat → Nat) (a b t : Nat) : Nat := if f t = a then b else f t
theorem move_then {f : Nat → Nat} {a b : Nat} (hf : fineB f = true) : ∀ t, t < 16 → thenF f (updF idF a b) t = moveF f a b t := fun t ht => by
  unfold thenF moveF updF idF
  rw [if_pos ((fineB_iff.1 hf) t ht).1]
theorem move_fine {f : Nat → Nat} {a b : Nat} (hf : fineB f = true) (hb : b < 16) (hab : a ≠ b) (hfb : f b = b) : fineB (moveF f a b) = true := by
  rw [fineB_iff] at *
  intro t ht
  have h := hf t ht
  unfold moveF
  by_cases h1 : f t = a
  · rw [if_pos h1]
    refine ⟨hb, ?_⟩
    rw [hfb, if_neg (fun e => hab e.symm)]
  · rw [if_neg h1]
    refine ⟨h.1, ?_⟩
    rw [h.2, if_neg h1]
/-- What some moves, as far as they may be, make of a map. -/
def madeF (f : Nat → Nat) (l : List (Int × Int)) : Nat → Nat := l.foldl (fun f x => if mayB f x.1 x.2 then moveF f x.1.toNat x.2.toNat else f) f
theorem madeF_snoc (f : Nat → Nat) (l : List (Int × Int)) (x : Int × Int) : madeF f (l ++ [x]) = if mayB (madeF f l) x.1 x.2 then moveF (madeF f l) x.1.toNat x.2.toNat else madeF f l := by
  unfold madeF; rw [List.foldl_append]; rfl
theorem step_fine {f : Nat → Nat} (hf : fineB f = true) {a b : Int} (h : mayB f a b = true) : fineB (moveF f a.toNat b.toNat) = true := by
  obtain ⟨h1, h2, h3, h4, h5, -, h7⟩ := mayB_iff.1 h
  exact move_fine hf (by omega) (by omega) h7
theorem madeF_fine : ∀ {l : List (Int × Int)} {f : Nat → Nat}, fineB f = true → fineB (madeF f l) = true
  | [], f, h => h
  | x :: r, f, h => by
    show fineB (madeF (if mayB f x.1 x.2 then moveF f x.1.toNat x.2.toNat else f) r) = true
    cases hm : mayB f x.1 x.2
    · exact madeF_fine (by simpa using h)
    · exact madeF_fine (by simpa using step_fine h hm)
end Go.Proofs.YtoieodlpoglmfaaDoor
