/-
  Journals in plain terms: which steps are committed on a disk, what each call answers and leaves.
-/
import Derived.Test.YtlbdpoolhmbgaaaFrmM
namespace Go.Proofs.Ytlbdpoolhmbgaaa

/-- Where a journal begins, its room, the generation, how many entries it regards as committed. -/
structure JS where
  at_ : Nat
  room : Nat
  gen : Nat
  n : Nat
/-- The step of entry k, if it is committed. -/
def jstepAt (S : DS) (a g k : Nat) : Option (List UInt8) :=
  if ((frR 82 (blockL S (a + 2 * k))).e = 0 ∧ (frR 82 (blockL S (a + 2 * k))).gen = g ∧ (frR 82 (blockL S (a + 2 * k))).seq = k) ∧
     ((frR 67 (blockL S (a + 2 * k + 1))).e = 0 ∧ (frR 67 (blockL S (a + 2 * k + 1))).gen = g ∧ (frR 67 (blockL S (a + 2 * k + 1))).seq = k) ∧ (frR 67 (blockL S (a + 2 * k + 1))).pay = []
  then some (frR 82 (blockL S (a + 2 * k))).pay else none
def stepsF (S : DS) (a g : Nat) : Nat → Nat → List (List UInt8)
  | 0, _ => []
  | f + 1, k => match jstepAt S a g k with
    | none => []
    | some p => p :: stepsF S a g f (k + 1)
/-- The committed steps. -/
def stepsL (S : DS) (a g room : Nat) : List (List UInt8) := stepsF S a g room 0
theorem stepsF_eq (S : DS) (a g : Nat) (l : List (List UInt8)) : ∀ f k, l.length ≤ f → (∀ e, (h : e < l.length) → jstepAt S a g (k + e) = some l[e]) → (l.length < f → jstepAt S a g (k + l.length) = none) → stepsF S a g f k = l := by
  induction l with
  | nil =>
    intro f k _ _ h
    cases f with
    | zero => rfl
    | succ f => rw [stepsF, show jstepAt S a g k = none from h (by simp)]
  | cons p l ih =>
    intro f k hf h1 h2
    cases f with
    | zero => simp at hf
    | succ f =>
      rw [stepsF, show jstepAt S a g k = some p from h1 0 (by simp)]
      simp only
      rw [ih f (k + 1) (by simpa using hf) (fun e he => by
        have := h1 (e + 1) (by simpa using he)
        rw [show k + (e + 1) = k + 1 + e by omega] at this
        simpa using this) (fun hl => by
        have := h2 (by simpa using hl)
        rw [show k + (p :: l).length = k + 1 + l.length by simp; omega] at this
        exact this)]
theorem stepsF_spec (S : DS) (a g : Nat) : ∀ f k, (stepsF S a g f k).length ≤ f ∧ (∀ e, (h : e < (stepsF S a g f k).length) → jstepAt S a g (k + e) = some (stepsF S a g f k)[e]) ∧ ((stepsF S a g f k).length < f → jstepAt S a g (k + (stepsF S a g f k).length) = none) := by
  intro f
  induction f with
  | zero => intro k; simp [stepsF]
  | succ f ih =>
    intro k
    rw [stepsF]
    cases hs : jstepAt S a g k with
    | none => simpa using hs
    | some p =>
      obtain ⟨h1, h2, h3⟩ := ih (k + 1)
      refine ⟨by simpa using h1, fun e he => ?_, fun hl => ?_⟩
      · cases e with
        | zero => simpa using hs
        | succ e =>
          have := h2 e (by simpa using he)
          rw [show k + (e + 1) = k + 1 + e by omega, this]; simp
      · have := h3 (by simpa using hl)
        rw [← this]; simp; congr 1; omega
theorem stepsL_eq {S : DS} {a g room : Nat} {l : List (List UInt8)} (hl : l.length ≤ room) (h1 : ∀ e, (h : e < l.length) → jstepAt S a g e = some l[e]) (h2 : l.length < room → jstepAt S a g l.length = none) : stepsL S a g room = l :=
  stepsF_eq S a g l room 0 hl (fun e he => by rw [Nat.zero_add]; exact h1 e he) (fun h => by rw [Nat.zero_add]; exact h2 h)
theorem stepsL_spec (S : DS) (a g room : Nat) : (stepsL S a g room).length ≤ room ∧ (∀ e, (h : e < (stepsL S a g room).length) → jstepAt S a g e = some (stepsL S a g room)[e]) ∧ ((stepsL S a g room).length < room → jstepAt S a g (stepsL S a g room).length = none) := by
  have := stepsF_spec S a g room 0
  simp only [Nat.zero_add] at this
  exact this

/-! What the calls answer and leave. -/
/-- Two blocks of the first entry that is not regarded as committed. -/
def put2E (S : DS) (J : JS) (x y : List UInt8) : Int :=
  if writeE S ((J.at_ + 2 * J.n : Nat) : Int) x ≠ 0 then writeE S ((J.at_ + 2 * J.n : Nat) : Int) x else writeE (writeS S ((J.at_ + 2 * J.n : Nat) : Int) x) ((J.at_ + 2 * J.n + 1 : Nat) : Int) y
def put2S (S : DS) (J : JS) (x y : List UInt8) : DS :=
  if writeE S ((J.at_ + 2 * J.n : Nat) : Int) x ≠ 0 then writeS S ((J.at_ + 2 * J.n : Nat) : Int) x else writeS (writeS S ((J.at_ + 2 * J.n : Nat) : Int) x) ((J.at_ + 2 * J.n + 1 : Nat) : Int) y
def addE (S : DS) (J : JS) (b : List UInt8) : Int := if J.n = J.room then 12 else if 112 < b.length then 5 else put2E S J (frL 82 J.gen J.n b) (frL 67 J.gen J.n [])
def addD (S : DS) (J : JS) (b : List UInt8) : DS := if J.n = J.room ∨ 112 < b.length then S else put2S S J (frL 82 J.gen J.n b) (frL 67 J.gen J.n [])
def addJ (S : DS) (J : JS) (b : List UInt8) : JS := if addE S J b = 0 then { J with n := J.n + 1 } else J
def cleanE (S : DS) (J : JS) : Int := if J.n = J.room then 0 else put2E S J (zeros 128) (zeros 128)
def cleanD (S : DS) (J : JS) : DS := if J.n = J.room then S else put2S S J (zeros 128) (zeros 128)
def openE (S : DS) (gen : Int) : Int := if gen < 0 ∨ 2147483647 < gen then 8 else if S.off then 19 else 0
def openR (S : DS) (J : JS) (gen : Int) : List (List UInt8) := if openE S gen = 0 then stepsL S J.at_ gen.toNat J.room else []
def openJ (S : DS) (J : JS) (gen : Int) : JS := if openE S gen = 0 then { J with gen := gen.toNat, n := (stepsL S J.at_ gen.toNat J.room).length } else J
/-- What every journal keeps. -/
structure JOk (S : DS) (J : JS) : Prop where
  n : J.n ≤ J.room
  room : J.room ≤ 64
  fits : J.at_ + 2 * J.room ≤ S.len
  gen : J.gen ≤ 2147483647

/-! Writing on a disk that is on. -/
theorem writeS_on {S : DS} {i : Nat} {l : List UInt8} (hi : i < S.len) (hl : l.length = 128) (ho : S.off = false) :
    writeS S (i : Int) l = ⟨putL S.all (128 * i) (writtenL S l), decide (S.fuse = 0), if S.fuse = 0 then -1 else if 0 < S.fuse then S.fuse - 1 else S.fuse, S.keep, S.wr + 1⟩ := by
  have hh : hasD S (i : Int) = true := by rw [hasD_iff]; omega
  unfold writeS; rw [if_pos (by simp [writeOk, hh, hl, ho])]; rfl
theorem writeE_on {S : DS} {i : Nat} {l : List UInt8} (hi : i < S.len) (hl : l.length = 128) (ho : S.off = false) : writeE S (i : Int) l = if S.fuse = 0 then 19 else 0 := by
  have hh : hasD S (i : Int) = true := by rw [hasD_iff]; omega
  unfold writeE; rw [if_neg (by rw [hh]; simp), if_neg (by omega), if_neg (by rw [ho]; simp)]
theorem writeE_off {S : DS} {i : Nat} {l : List UInt8} (hi : i < S.len) (hl : l.length = 128) (ho : S.off = true) : writeE S (i : Int) l = 19 ∧ writeS S (i : Int) l = S := by
  have hh : hasD S (i : Int) = true := by rw [hasD_iff]; omega
  refine ⟨?_, ?_⟩
  · unfold writeE; rw [if_neg (by rw [hh]; simp), if_neg (by omega), if_pos ho]
  · unfold writeS; rw [if_neg (by simp [writeOk, ho])]
theorem writeS_len2 {S : DS} (h : DSOk S) (i : Int) (l : List UInt8) : (writeS S i l).len = S.len := by unfold DS.len; rw [writeS_len S h]
/-- A write changes its block alone. -/
theorem blockL_write {S : DS} (h : DSOk S) {i : Nat} {l : List UInt8} (hi : i < S.len) (hl : l.length = 128) (ho : S.off = false) {j : Nat} : blockL (writeS S (i : Int) l) j = if j = i then writtenL S l else blockL S j := by
  have hw := writtenL_length h hl
  have ha := h.len
  rw [writeS_on hi hl ho]
  unfold blockL
  simp only
  apply List.ext_getElem?
  intro k
  by_cases hk : k < 128
  · rw [List.getElem?_take, if_pos hk, List.getElem?_drop, putL_get (by omega), hw]
    by_cases e : j = i
    · subst e
      rw [if_pos rfl, if_pos (by omega)]; congr 1; omega
    · rw [if_neg e, if_neg (by omega), List.getElem?_take, if_pos hk, List.getElem?_drop]
  · rw [List.getElem?_take, if_neg hk]
    by_cases e : j = i
    · rw [if_pos e, List.getElem?_eq_none (by omega)]
    · rw [if_neg e, List.getElem?_take, if_neg hk]
theorem blockL_off {S : DS} {i : Nat} {l : List UInt8} (hi : i < S.len) (hl : l.length = 128) (ho : S.off = true) (j : Nat) : blockL (writeS S (i : Int) l) j = blockL S j := by rw [(writeE_off hi hl ho).2]
theorem blockL_arm (S : DS) (n k : Int) (j : Nat) : blockL (armS S n k) j = blockL S j := by unfold blockL; rw [armS_all]
theorem blockL_power (S : DS) (j : Nat) : blockL (powerS S) j = blockL S j := rfl
theorem jstepAt_cong {S T : DS} {a k : Nat} (h1 : blockL S (a + 2 * k) = blockL T (a + 2 * k)) (h2 : blockL S (a + 2 * k + 1) = blockL T (a + 2 * k + 1)) (g : Nat) : jstepAt S a g k = jstepAt T a g k := by
  unfold jstepAt; rw [h1, h2]
theorem jstepAt_power (S : DS) (a g k : Nat) : jstepAt (powerS S) a g k = jstepAt S a g k := rfl
theorem jstepAt_arm (S : DS) (n m : Int) (a g k : Nat) : jstepAt (armS S n m) a g k = jstepAt S a g k := jstepAt_cong (blockL_arm S n m _) (blockL_arm S n m _) g

/-! Frames. -/
theorem frR_frL {kd : UInt8} {g n : Nat} {b : List UInt8} (hg : g ≤ 2147483647) (hn : n ≤ 65535) (hb : b.length ≤ 112) : frR kd (frL kd g n b) = ⟨g, n, b, 0⟩ := by
  have he : frWE (g : Int) (n : Int) b = 0 := by unfold frWE; rw [if_neg (by omega), if_neg (by omega)]
  have hw : frWL kd (g : Int) (n : Int) b = frL kd g n b := by unfold frWL; rw [if_pos he]; rfl
  have := frR_frW (kd := kd) he
  rw [hw] at this; exact this
theorem frR_zeros (kd : UInt8) : (frR kd (zeros 128)).e ≠ 0 := by
  have he : frRE kd (zeros 128) = 3 := by
    unfold frRE
    rw [if_neg (by simp [zeros]), if_pos]
    right; simp [zeros, frTail]
  unfold frR
  rw [if_neg (by omega), he]; decide
theorem tornL_all {l : List UInt8} (h : l.length = 128) : tornL 128 l = l := by
  unfold tornL
  rw [show (128 : Int).toNat = 128 from rfl, List.take_of_length_le (by omega), h]; simp
theorem frR_torn {kd : UInt8} {l : List UInt8} {k : Nat} (h : l.length = 128) (hk : k < 128) : (frR kd (tornL k l)).e ≠ 0 := by
  have h1 : frRE kd (tornL k l) = 3 := by
    refine torn_none (by rw [tornL_length (by omega), h]) ?_
    rw [tornL_get (by omega) (by omega), if_pos (by omega)]
  unfold frR
  rw [if_neg (by omega), h1]; decide
/-- Zeros, however torn, are no frame. -/
theorem frR_torn0 (kd : UInt8) {k : Nat} (hk : k ≤ 128) : (frR kd (tornL k (zeros 128))).e ≠ 0 := by
  by_cases h : k = 128
  · subst h
    rw [show ((128 : Nat) : Int) = 128 from rfl, tornL_all (by simp [zeros])]; exact frR_zeros kd
  · exact frR_torn (by simp [zeros]) (by omega)
theorem jstepAt_no {S : DS} {a g k : Nat} (h : (frR 67 (blockL S (a + 2 * k + 1))).e ≠ 0) : jstepAt S a g k = none := by
  unfold jstepAt; rw [if_neg (fun h2 => h h2.2.1.1)]
theorem jstepAt_frames {S : DS} {a g k : Nat} {b : List UInt8} (hg : g ≤ 2147483647) (hk : k ≤ 65535) (hb : b.length ≤ 112) (h1 : blockL S (a + 2 * k) = frL 82 g k b) (h2 : blockL S (a + 2 * k + 1) = frL 67 g k []) (g' : Nat) : jstepAt S a g' k = if g' = g then some b else none := by
  unfold jstepAt
  rw [h1, h2, frR_frL hg hk hb, frR_frL hg hk (by simp)]
  by_cases e : g' = g
  · subst e; simp
  · rw [if_neg e, if_neg]
    rintro ⟨⟨-, h3, -⟩, -⟩
    have h3' : (g : Int) = (g' : Int) := h3
    omega
theorem frL_len {kd : UInt8} {g n : Nat} {b : List UInt8} (hb : b.length ≤ 112) : (frL kd g n b).length = 128 := frL_length hb
theorem new_block (n j : Nat) (h : j < n) : blockL (DS.new n) j = zeros 128 := by
  unfold blockL DS.new zeros
  simp only [List.drop_replicate, List.take_replicate]
  congr 1; omega
end Go.Proofs.Ytlbdpoolhmbgaaa
