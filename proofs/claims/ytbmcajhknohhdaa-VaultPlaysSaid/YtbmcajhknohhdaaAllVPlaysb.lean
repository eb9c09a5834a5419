/-
  The program's frames: Write.
-/
import Derived.Test.YtbmcajhknohhdaaFrmM
import Derived.Test.YtbmcajhknohhdaaWirN
import Derived.Test.YtbmcajhknohhdaaDskK
import Derived.Test.YtbmcajhknohhdaaFrmR
import Derived.Deep.DeepCutAuto
import Derived.LoopTactic
import Derived.Test.YtbmcajhknohhdaaWirB
import Derived.Test.YtbmcajhknohhdaaDskB
import Derived.Test.YtbmcajhknohhdaaFrmS
import Derived.Test.YtbmcajhknohhdaaWirD
import Derived.Test.YtbmcajhknohhdaaLate
import Derived.Test.YtbmcajhknohhdaaWirE
import Derived.Test.YtbmcajhknohhdaaRowsC
import Derived.Test.YtbmcajhknohhdaaVActA
import Derived.Deep.CutBlock
import Derived.StillTail
import Derived.StillTailTactics
import Derived.Test.YtbmcajhknohhdaaCrcV
import Derived.Test.YtbmcajhknohhdaaFrmC
import Derived.Test.YtbmcajhknohhdaaWirV
import Derived.Test.YtbmcajhknohhdaaCrcG
import Derived.Test.YtbmcajhknohhdaaRowB
import Derived.Lib.BufferWrite
/-! JrnM -/
namespace Go.Proofs.Ytbmcajhknohhdaa

/-- Where a journal begins, its room, the generation, how many entries it regards as committed. -/
structure JS where
  at_ : Nat
  room : Nat
  gen : Nat
  n : Nat
/-- The step of entry k, if it is committed. -/
def jstepAt (S : DS) (a g k : Nat) : Option (List UInt8) :=
  if ((frR 82 (blockL S (a + 2 * k))).e = 0 ∧ (frR 82 (blockL S (a + 2 * k))).gen = g ∧ (frR 82 (blockL S (a + 2 * k))).seq = k) ∧
     ((frR 67 (blockL S (a + 2 * k + 1))).e = 0 ∧ (frR 67 (blockL S (a + 2 * k + 1))).gen = g ∧ (frR 67 (blockL S (a + 2 * k + 1))).seq = k) ∧ (frR 67 (blockL S (a + 2 * k + 1))).pay = []
  then some (frR 82 (blockL S (a + 2 * k))).pay else none
def stepsF (S : DS) (a g : Nat) : Nat → Nat → List (List UInt8)
  | 0, _ => []
  | f + 1, k => match jstepAt S a g k with
    | none => []
    | some p => p :: stepsF S a g f (k + 1)
/-- The committed steps. -/
def stepsL (S : DS) (a g room : Nat) : List (List UInt8) := stepsF S a g room 0
theorem stepsF_eq (S : DS) (a g : Nat) (l : List (List UInt8)) : ∀ f k, l.length ≤ f → (∀ e, (h : e < l.length) → jstepAt S a g (k + e) = some l[e]) → (l.length < f → jstepAt S a g (k + l.length) = none) → stepsF S a g f k = l := by
  induction l with
  | nil =>
    intro f k _ _ h
    cases f with
    | zero => rfl
    | succ f => rw [stepsF, show jstepAt S a g k = none from h (by simp)]
  | cons p l ih =>
    intro f k hf h1 h2
    cases f with
    | zero => simp at hf
    | succ f =>
      rw [stepsF, show jstepAt S a g k = some p from h1 0 (by simp)]
      simp only
      rw [ih f (k + 1) (by simpa using hf) (fun e he => by
        have := h1 (e + 1) (by simpa using he)
        rw [show k + (e + 1) = k + 1 + e by omega] at this
        simpa using this) (fun hl => by
        have := h2 (by simpa using hl)
        rw [show k + (p :: l).length = k + 1 + l.length by simp; omega] at this
        exact this)]
theorem stepsF_spec (S : DS) (a g : Nat) : ∀ f k, (stepsF S a g f k).length ≤ f ∧ (∀ e, (h : e < (stepsF S a g f k).length) → jstepAt S a g (k + e) = some (stepsF S a g f k)[e]) ∧ ((stepsF S a g f k).length < f → jstepAt S a g (k + (stepsF S a g f k).length) = none) := by
  intro f
  induction f with
  | zero => intro k; simp [stepsF]
  | succ f ih =>
    intro k
    rw [stepsF]
    cases hs : jstepAt S a g k with
    | none => simpa using hs
    | some p =>
      obtain ⟨h1, h2, h3⟩ := ih (k + 1)
      refine ⟨by simpa using h1, fun e he => ?_, fun hl => ?_⟩
      · cases e with
        | zero => simpa using hs
        | succ e =>
          have := h2 e (by simpa using he)
          rw [show k + (e + 1) = k + 1 + e by omega, this]; simp
      · have := h3 (by simpa using hl)
        rw [← this]; simp; congr 1; omega
theorem stepsL_eq {S : DS} {a g room : Nat} {l : List (List UInt8)} (hl : l.length ≤ room) (h1 : ∀ e, (h : e < l.length) → jstepAt S a g e = some l[e]) (h2 : l.length < room → jstepAt S a g l.length = none) : stepsL S a g room = l :=
  stepsF_eq S a g l room 0 hl (fun e he => by rw [Nat.zero_add]; exact h1 e he) (fun h => by rw [Nat.zero_add]; exact h2 h)
theorem stepsL_spec (S : DS) (a g room : Nat) : (stepsL S a g room).length ≤ room ∧ (∀ e, (h : e < (stepsL S a g room).length) → jstepAt S a g e = some (stepsL S a g room)[e]) ∧ ((stepsL S a g room).length < room → jstepAt S a g (stepsL S a g room).length = none) := by
  have := stepsF_spec S a g room 0
  simp only [Nat.zero_add] at this
  exact this

/-! What the calls answer and leave. -/
/-- Two blocks of the first entry that is not regarded as committed. -/
def put2E (S : DS) (J : JS) (x y : List UInt8) : Int :=
  if writeE S ((J.at_ + 2 * J.n : Nat) : Int) x ≠ 0 then writeE S ((J.at_ + 2 * J.n : Nat) : Int) x else writeE (writeS S ((J.at_ + 2 * J.n : Nat) : Int) x) ((J.at_ + 2 * J.n + 1 : Nat) : Int) y
def put2S (S : DS) (J : JS) (x y : List UInt8) : DS :=
  if writeE S ((J.at_ + 2 * J.n : Nat) : Int) x ≠ 0 then writeS S ((J.at_ + 2 * J.n : Nat) : Int) x else writeS (writeS S ((J.at_ + 2 * J.n : Nat) : Int) x) ((J.at_ + 2 * J.n + 1 : Nat) : Int) y
def addE (S : DS) (J : JS) (b : List UInt8) : Int := if J.n = J.room then 12 else if 112 < b.length then 5 else put2E S J (frL 82 J.gen J.n b) (frL 67 J.gen J.n [])
def addD (S : DS) (J : JS) (b : List UInt8) : DS := if J.n = J.room ∨ 112 < b.length then S else put2S S J (frL 82 J.gen J.n b) (frL 67 J.gen J.n [])
def addJ (S : DS) (J : JS) (b : List UInt8) : JS := if addE S J b = 0 then { J with n := J.n + 1 } else J
def cleanE (S : DS) (J : JS) : Int := if J.n = J.room then 0 else put2E S J (zeros 128) (zeros 128)
def cleanD (S : DS) (J : JS) : DS := if J.n = J.room then S else put2S S J (zeros 128) (zeros 128)
def openE (S : DS) (gen : Int) : Int := if gen < 0 ∨ 2147483647 < gen then 8 else if S.off then 19 else 0
def openR (S : DS) (J : JS) (gen : Int) : List (List UInt8) := if openE S gen = 0 then stepsL S J.at_ gen.toNat J.room else []
def openJ (S : DS) (J : JS) (gen : Int) : JS := if openE S gen = 0 then { J with gen := gen.toNat, n := (stepsL S J.at_ gen.toNat J.room).length } else J
/-- What every journal keeps. -/
structure JOk (S : DS) (J : JS) : Prop where
  n : J.n ≤ J.room
  room : J.room ≤ 64
  fits : J.at_ + 2 * J.room ≤ S.len
  gen : J.gen ≤ 2147483647

/-! Writing on a disk that is on. -/
theorem writeS_on {S : DS} {i : Nat} {l : List UInt8} (hi : i < S.len) (hl : l.length = 128) (ho : S.off = false) :
    writeS S (i : Int) l = ⟨putL S.all (128 * i) (writtenL S l), decide (S.fuse = 0), if S.fuse = 0 then -1 else if 0 < S.fuse then S.fuse - 1 else S.fuse, S.keep, S.wr + 1⟩ := by
  have hh : hasD S (i : Int) = true := by rw [hasD_iff]; omega
  unfold writeS; rw [if_pos (by simp [writeOk, hh, hl, ho])]; rfl
theorem writeE_on {S : DS} {i : Nat} {l : List UInt8} (hi : i < S.len) (hl : l.length = 128) (ho : S.off = false) : writeE S (i : Int) l = if S.fuse = 0 then 19 else 0 := by
  have hh : hasD S (i : Int) = true := by rw [hasD_iff]; omega
  unfold writeE; rw [if_neg (by rw [hh]; simp), if_neg (by omega), if_neg (by rw [ho]; simp)]
theorem writeE_off {S : DS} {i : Nat} {l : List UInt8} (hi : i < S.len) (hl : l.length = 128) (ho : S.off = true) : writeE S (i : Int) l = 19 ∧ writeS S (i : Int) l = S := by
  have hh : hasD S (i : Int) = true := by rw [hasD_iff]; omega
  refine ⟨?_, ?_⟩
  · unfold writeE; rw [if_neg (by rw [hh]; simp), if_neg (by omega), if_pos ho]
  · unfold writeS; rw [if_neg (by simp [writeOk, ho])]
theorem writeS_len2 {S : DS} (h : DSOk S) (i : Int) (l : List UInt8) : (writeS S i l).len = S.len := by unfold DS.len; rw [writeS_len S h]
/-- A write changes its block alone. -/
theorem blockL_write {S : DS} (h : DSOk S) {i : Nat} {l : List UInt8} (hi : i < S.len) (hl : l.length = 128) (ho : S.off = false) {j : Nat} : blockL (writeS S (i : Int) l) j = if j = i then writtenL S l else blockL S j := by
  have hw := writtenL_length h hl
  have ha := h.len
  rw [writeS_on hi hl ho]
  unfold blockL
  simp only
  apply List.ext_getElem?
  intro k
  by_cases hk : k < 128
  · rw [List.getElem?_take, if_pos hk, List.getElem?_drop, putL_get (by omega), hw]
    by_cases e : j = i
    · subst e
      rw [if_pos rfl, if_pos (by omega)]; congr 1; omega
    · rw [if_neg e, if_neg (by omega), List.getElem?_take, if_pos hk, List.getElem?_drop]
  · rw [List.getElem?_take, if_neg hk]
    by_cases e : j = i
    · rw [if_pos e, List.getElem?_eq_none (by omega)]
    · rw [if_neg e, List.getElem?_take, if_neg hk]
theorem blockL_off {S : DS} {i : Nat} {l : List UInt8} (hi : i < S.len) (hl : l.length = 128) (ho : S.off = true) (j : Nat) : blockL (writeS S (i : Int) l) j = blockL S j := by rw [(writeE_off hi hl ho).2]
theorem blockL_arm (S : DS) (n k : Int) (j : Nat) : blockL (armS S n k) j = blockL S j := by unfold blockL; rw [armS_all]
theorem blockL_power (S : DS) (j : Nat) : blockL (powerS S) j = blockL S j := rfl
theorem jstepAt_cong {S T : DS} {a k : Nat} (h1 : blockL S (a + 2 * k) = blockL T (a + 2 * k)) (h2 : blockL S (a + 2 * k + 1) = blockL T (a + 2 * k + 1)) (g : Nat) : jstepAt S a g k = jstepAt T a g k := by
  unfold jstepAt; rw [h1, h2]
theorem jstepAt_power (S : DS) (a g k : Nat) : jstepAt (powerS S) a g k = jstepAt S a g k := rfl
theorem jstepAt_arm (S : DS) (n m : Int) (a g k : Nat) : jstepAt (armS S n m) a g k = jstepAt S a g k := jstepAt_cong (blockL_arm S n m _) (blockL_arm S n m _) g

/-! Frames. -/
theorem frR_frL {kd : UInt8} {g n : Nat} {b : List UInt8} (hg : g ≤ 2147483647) (hn : n ≤ 65535) (hb : b.length ≤ 112) : frR kd (frL kd g n b) = ⟨g, n, b, 0⟩ := by
  have he : frWE (g : Int) (n : Int) b = 0 := by unfold frWE; rw [if_neg (by omega), if_neg (by omega)]
  have hw : frWL kd (g : Int) (n : Int) b = frL kd g n b := by unfold frWL; rw [if_pos he]; rfl
  have := frR_frW (kd := kd) he
  rw [hw] at this; exact this
theorem frR_zeros (kd : UInt8) : (frR kd (zeros 128)).e ≠ 0 := by
  have he : frRE kd (zeros 128) = 3 := by
    unfold frRE
    rw [if_neg (by simp [zeros]), if_pos]
    right; simp [zeros, frTail]
  unfold frR
  rw [if_neg (by omega), he]; decide
theorem tornL_all {l : List UInt8} (h : l.length = 128) : tornL 128 l = l := by
  unfold tornL
  rw [show (128 : Int).toNat = 128 from rfl, List.take_of_length_le (by omega), h]; simp
theorem frR_torn {kd : UInt8} {l : List UInt8} {k : Nat} (h : l.length = 128) (hk : k < 128) : (frR kd (tornL k l)).e ≠ 0 := by
  have h1 : frRE kd (tornL k l) = 3 := by
    refine torn_none (by rw [tornL_length (by omega), h]) ?_
    rw [tornL_get (by omega) (by omega), if_pos (by omega)]
  unfold frR
  rw [if_neg (by omega), h1]; decide
/-- Zeros, however torn, are no frame. -/
theorem frR_torn0 (kd : UInt8) {k : Nat} (hk : k ≤ 128) : (frR kd (tornL k (zeros 128))).e ≠ 0 := by
  by_cases h : k = 128
  · subst h
    rw [show ((128 : Nat) : Int) = 128 from rfl, tornL_all (by simp [zeros])]; exact frR_zeros kd
  · exact frR_torn (by simp [zeros]) (by omega)
theorem jstepAt_no {S : DS} {a g k : Nat} (h : (frR 67 (blockL S (a + 2 * k + 1))).e ≠ 0) : jstepAt S a g k = none := by
  unfold jstepAt; rw [if_neg (fun h2 => h h2.2.1.1)]
theorem jstepAt_frames {S : DS} {a g k : Nat} {b : List UInt8} (hg : g ≤ 2147483647) (hk : k ≤ 65535) (hb : b.length ≤ 112) (h1 : blockL S (a + 2 * k) = frL 82 g k b) (h2 : blockL S (a + 2 * k + 1) = frL 67 g k []) (g' : Nat) : jstepAt S a g' k = if g' = g then some b else none := by
  unfold jstepAt
  rw [h1, h2, frR_frL hg hk hb, frR_frL hg hk (by simp)]
  by_cases e : g' = g
  · subst e; simp
  · rw [if_neg e, if_neg]
    rintro ⟨⟨-, h3, -⟩, -⟩
    have h3' : (g : Int) = (g' : Int) := h3
    omega
theorem frL_len {kd : UInt8} {g n : Nat} {b : List UInt8} (hb : b.length ≤ 112) : (frL kd g n b).length = 128 := frL_length hb
theorem new_block (n j : Nat) (h : j < n) : blockL (DS.new n) j = zeros 128 := by
  unfold blockL DS.new zeros
  simp only [List.drop_replicate, List.take_replicate]
  congr 1; omega
end Go.Proofs.Ytbmcajhknohhdaa

/-! VltM -/
namespace Go.Proofs.Ytbmcajhknohhdaa

def blkN (n : Nat) : Nat := (n + 127) / 128
def fillL (b : List UInt8) : List UInt8 := b ++ zeros (128 * blkN b.length - b.length)
def payL (b : List UInt8) : List UInt8 := be b.length 4 ++ be (crcSum b) 4
def vheadL (g : Nat) (b : List UInt8) : List UInt8 := frL 86 g (blkN b.length) (payL b)
def vAt (from_ g : Nat) : Nat := from_ + 256 * (g % 2)
def chunkL (b : List UInt8) (k : Nat) : List UInt8 := ((fillL b).drop (128 * k)).take 128
theorem blkN_le (n : Nat) : n ≤ 128 * blkN n := by unfold blkN; omega
theorem blkN_lt (n : Nat) : 128 * blkN n < n + 128 := by unfold blkN; omega
theorem fillL_length (b : List UInt8) : (fillL b).length = 128 * blkN b.length := by
  unfold fillL zeros; rw [List.length_append, List.length_replicate]; have := blkN_le b.length; omega
theorem chunkL_length {b : List UInt8} {k : Nat} (h : k < blkN b.length) : (chunkL b k).length = 128 := by
  unfold chunkL; rw [List.length_take, List.length_drop, fillL_length]; omega
theorem payL_length (b : List UInt8) : (payL b).length = 8 := by unfold payL; rw [List.length_append, be_length, be_length]
theorem vheadL_length (g : Nat) (b : List UInt8) : (vheadL g b).length = 128 := frL_length (by rw [payL_length]; omega)
theorem vheadL_read {g : Nat} {b : List UInt8} (hg : g ≤ 2147483647) (hb : blkN b.length ≤ 255) : frR 86 (vheadL g b) = ⟨g, blkN b.length, payL b, 0⟩ := frR_frL hg (by omega) (by rw [payL_length]; omega)
theorem payL_size {b : List UInt8} (hb : b.length < 4294967296) : valB ((payL b).take 4) = b.length := by
  unfold payL
  rw [List.take_left' (be_length _ 4), valB_be _ _ (by simpa using hb)]

/-- Writes in turn, up to the first that fails. -/
def wrl (S : DS) : List (Nat × List UInt8) → Int × DS
  | [] => (0, S)
  | p :: r => if writeE S (p.1 : Int) p.2 = 0 then wrl (writeS S (p.1 : Int) p.2) r else (writeE S (p.1 : Int) p.2, writeS S (p.1 : Int) p.2)
theorem wrl_append (S : DS) (p q : List (Nat × List UInt8)) : wrl S (p ++ q) = if (wrl S p).1 = 0 then wrl (wrl S p).2 q else wrl S p := by
  induction p generalizing S with
  | nil => simp [wrl]
  | cons x p ih =>
    rw [List.cons_append, wrl, wrl]
    by_cases h : writeE S (x.1 : Int) x.2 = 0
    · rw [if_pos h, if_pos h, ih]
    · rw [if_neg h, if_neg h, if_neg h]
/-- What Save writes: the contents, then the head. -/
def bodyP (a : Nat) (b : List UInt8) (n : Nat) : List (Nat × List UInt8) := (List.range n).map fun k => (a + 1 + k, chunkL b k)
def planP (a g : Nat) (b : List UInt8) : List (Nat × List UInt8) := bodyP a b (blkN b.length) ++ [(a, vheadL g b)]
theorem bodyP_succ (a : Nat) (b : List UInt8) (n : Nat) : bodyP a b (n + 1) = bodyP a b n ++ [(a + 1 + n, chunkL b n)] := by unfold bodyP; rw [List.range_succ, List.map_append]; rfl
def saveE (S : DS) (from_ : Nat) (gen : Int) (b : List UInt8) : Int := if gen < 0 ∨ 2147483647 < gen then 8 else if 255 < blkN b.length then 12 else (wrl S (planP (vAt from_ gen.toNat) gen.toNat b)).1
def saveD (S : DS) (from_ : Nat) (gen : Int) (b : List UInt8) : DS := if (gen < 0 ∨ 2147483647 < gen) ∨ 255 < blkN b.length then S else (wrl S (planP (vAt from_ gen.toNat) gen.toNat b)).2
/-- What an area holds. -/
def segL (S : DS) (a n : Nat) : List UInt8 := (S.all.drop (128 * (a + 1))).take n
def sizeA (S : DS) (a : Nat) : Nat := valB ((frR 86 (blockL S a)).pay.take 4)
def hasV (S : DS) (a odd : Nat) : Option (Nat × List UInt8) :=
  if ((frR 86 (blockL S a)).e = 0 ∧ (frR 86 (blockL S a)).gen % 2 = odd ∧ (frR 86 (blockL S a)).pay.length = 8 ∧ (frR 86 (blockL S a)).seq ≤ 255) ∧ (frR 86 (blockL S a)).seq = blkN (sizeA S a) ∧
     fillL (segL S a (sizeA S a)) = segL S a (128 * blkN (sizeA S a)) ∧ vheadL (frR 86 (blockL S a)).gen.toNat (segL S a (sizeA S a)) = blockL S a
  then some ((frR 86 (blockL S a)).gen.toNat, segL S a (sizeA S a)) else none
structure LoadR where
  gen : Nat
  b : List UInt8
  e : Int
def pickL : Option (Nat × List UInt8) → Option (Nat × List UInt8) → LoadR
  | some x, some y => if x.1 < y.1 then ⟨y.1, y.2, 0⟩ else ⟨x.1, x.2, 0⟩
  | some x, none => ⟨x.1, x.2, 0⟩
  | none, some y => ⟨y.1, y.2, 0⟩
  | none, none => ⟨0, [], 6⟩
def loadR (S : DS) (from_ : Nat) : LoadR := if S.off then ⟨0, [], 19⟩ else pickL (hasV S from_ 0) (hasV S (from_ + 256) 1)

/-! What writes keep. -/
theorem wr_one (T : DS) (z : Int) (q : List UInt8) : (writeS T z q).wr ≤ T.wr + 1 := by
  unfold writeS; split
  · exact Int.le_refl _
  · omega
theorem wrl_keep (p : List (Nat × List UInt8)) : ∀ S : DS, DSOk S → (∀ x ∈ p, x.1 < S.len ∧ x.2.length = 128) →
    DSOk (wrl S p).2 ∧ (wrl S p).2.len = S.len ∧ (wrl S p).2.wr ≤ S.wr + p.length ∧ ∀ j, (∀ x ∈ p, j ≠ x.1) → blockL (wrl S p).2 j = blockL S j := by
  induction p with
  | nil => intro S ok _; exact ⟨ok, rfl, by simp [wrl], fun _ _ => rfl⟩
  | cons x p ih =>
    intro S ok h
    have ok1 := ok.write (x.1 : Int) x.2
    have l1 := writeS_len2 ok (x.1 : Int) x.2
    have w1 := wr_one S (x.1 : Int) x.2
    obtain ⟨hi, hx⟩ := h x (by simp)
    have b1 : ∀ j, j ≠ x.1 → blockL (writeS S (x.1 : Int) x.2) j = blockL S j := by
      intro j hj
      cases ho : S.off with
      | true => exact blockL_off hi hx ho j
      | false => rw [blockL_write ok hi hx ho, if_neg hj]
    rw [wrl]
    split
    · obtain ⟨k1, k2, k3, k4⟩ := ih _ ok1 (fun y hy => by rw [l1]; exact h y (by simp [hy]))
      refine ⟨k1, by rw [k2, l1], by simp only [List.length_cons]; omega, fun j hj => ?_⟩
      rw [k4 j (fun y hy => hj y (by simp [hy])), b1 j (hj x (by simp))]
    · exact ⟨ok1, l1, by simp only [List.length_cons]; omega, fun j hj => b1 j (hj x (by simp))⟩
/-- All of them, on a disk that is on and whose fuse is not met. -/
theorem wrl_all (p : List (Nat × List UInt8)) : ∀ S : DS, DSOk S → S.off = false → (S.fuse < 0 ∨ (p.length : Int) ≤ S.fuse) → (∀ x ∈ p, x.1 < S.len ∧ x.2.length = 128) → p.Pairwise (fun x y => x.1 ≠ y.1) →
    (wrl S p).1 = 0 ∧ (wrl S p).2.off = false ∧ (wrl S p).2.fuse = (if 0 ≤ S.fuse then S.fuse - p.length else S.fuse) ∧ (wrl S p).2.keep = S.keep ∧ (wrl S p).2.wr = S.wr + p.length ∧ ∀ x ∈ p, blockL (wrl S p).2 x.1 = x.2 := by
  induction p with
  | nil => intro S ok ho _ _ _; exact ⟨rfl, ho, by simp [wrl], rfl, by simp [wrl], fun x hx => by simp at hx⟩
  | cons x p ih =>
    intro S ok ho hf h hp
    obtain ⟨hi, hx⟩ := h x (by simp)
    have f0 := ok.fuse0
    have hfn : S.fuse ≠ 0 := by simp only [List.length_cons] at hf; omega
    have e1 := writeE_on hi hx ho
    rw [if_neg hfn] at e1
    have s1 := writeS_on hi hx ho
    have hw : writtenL S x.2 = x.2 := by unfold writtenL; rw [if_neg hfn]
    have ok1 := ok.write (x.1 : Int) x.2
    have l1 := writeS_len2 ok (x.1 : Int) x.2
    have o1 : (writeS S (x.1 : Int) x.2).off = false := by rw [s1]; simpa using hfn
    have f1 : (writeS S (x.1 : Int) x.2).fuse = if 0 < S.fuse then S.fuse - 1 else S.fuse := by rw [s1]; simp only; rw [if_neg hfn]
    have k1 : (writeS S (x.1 : Int) x.2).keep = S.keep := by rw [s1]
    have w1 : (writeS S (x.1 : Int) x.2).wr = S.wr + 1 := by rw [s1]
    have hp2 := List.pairwise_cons.1 hp
    rw [wrl, if_pos e1]
    have hsub : ∀ y ∈ p, y.1 < (writeS S (x.1 : Int) x.2).len ∧ y.2.length = 128 := fun y hy => by rw [l1]; exact h y (by simp [hy])
    obtain ⟨q1, q2, q3, q4, q5, q6⟩ := ih _ ok1 o1 (by rw [f1]; simp only [List.length_cons] at hf; split <;> omega) hsub hp2.2
    refine ⟨q1, q2, ?_, by rw [q4, k1], by rw [q5, w1]; simp only [List.length_cons]; omega, fun y hy => ?_⟩
    · rw [q3, f1]
      simp only [List.length_cons]
      by_cases h0 : 0 < S.fuse
      · rw [if_pos h0, if_pos (by omega), if_pos (by omega)]; omega
      · rw [if_neg h0, if_neg (by omega), if_neg (by omega)]
    · rcases List.mem_cons.1 hy with rfl | hy
      · rw [(wrl_keep p _ ok1 hsub).2.2.2 y.1 (fun z hz => hp2.1 z hz), blockL_write ok hi hx ho, if_pos rfl, hw]
      · exact q6 y hy
theorem wrl_off {S : DS} {i : Nat} {x : List UInt8} {p : List (Nat × List UInt8)} (hi : i < S.len) (hx : x.length = 128) (ho : S.off = true) : wrl S ((i, x) :: p) = (19, S) := by
  obtain ⟨h1, h2⟩ := writeE_off hi hx ho
  rw [wrl]; simp only; rw [h1, h2, if_neg (by decide)]
end Go.Proofs.Ytbmcajhknohhdaa

/-! VltK -/
namespace Go.Proofs.Ytbmcajhknohhdaa

theorem seg_succ (S : DS) (a m : Nat) : segL S a (128 * (m + 1)) = segL S a (128 * m) ++ blockL S (a + 1 + m) := by
  unfold segL blockL
  rw [Nat.mul_succ, List.take_add, List.drop_drop, show 128 * (a + 1) + 128 * m = 128 * (a + 1 + m) by omega]
theorem seg_cong {S T : DS} {a m : Nat} (h : ∀ k, k < m → blockL S (a + 1 + k) = blockL T (a + 1 + k)) : segL S a (128 * m) = segL T a (128 * m) := by
  induction m with
  | zero => simp [segL]
  | succ m ih => rw [seg_succ, seg_succ, ih (fun k hk => h k (by omega)), h m (by omega)]
theorem seg_take (S : DS) (a : Nat) {z m : Nat} (h : z ≤ m) : segL S a z = (segL S a m).take z := by
  unfold segL; rw [List.take_take, Nat.min_eq_left h]
theorem seg_chunks {S : DS} {a : Nat} {b : List UInt8} (h : ∀ k, k < blkN b.length → blockL S (a + 1 + k) = chunkL b k) : segL S a (128 * blkN b.length) = fillL b := by
  have hm : ∀ m, m ≤ blkN b.length → segL S a (128 * m) = (fillL b).take (128 * m) := by
    intro m
    induction m with
    | zero => intro _; simp [segL]
    | succ m ih =>
      intro hm
      rw [seg_succ, ih (by omega), h m (by omega), Nat.mul_succ, List.take_add]; rfl
  rw [hm _ (Nat.le_refl _), List.take_of_length_le (by rw [fillL_length]; exact Nat.le_refl _)]
theorem blk_size {n : Nat} (h : blkN n ≤ 255) : n ≤ 32640 := by have := blkN_le n; omega
theorem has_saved {S : DS} {a g odd : Nat} {b : List UInt8} (hg : g ≤ 2147483647) (ho : g % 2 = odd) (hb : blkN b.length ≤ 255) (h1 : blockL S a = vheadL g b) (h2 : ∀ k, k < blkN b.length → blockL S (a + 1 + k) = chunkL b k) : hasV S a odd = some (g, b) := by
  have hsz := blk_size hb
  have hr : frR 86 (blockL S a) = ⟨g, blkN b.length, payL b, 0⟩ := by rw [h1, vheadL_read hg hb]
  have hz : sizeA S a = b.length := by unfold sizeA; rw [hr]; exact payL_size (by omega)
  have hs : segL S a b.length = b := by
    rw [seg_take S a (blkN_le b.length), seg_chunks h2]
    unfold fillL; rw [List.take_left]
  unfold hasV
  rw [hz, hs, hr]
  rw [if_pos]
  · rfl
  · refine ⟨⟨rfl, ?_, payL_length b, ?_⟩, rfl, (seg_chunks h2).symm, ?_⟩
    · show (g : Int) % 2 = odd; omega
    · show ((blkN b.length : Nat) : Int) ≤ 255; omega
    · show vheadL ((g : Int)).toNat b = _; rw [Int.toNat_natCast, h1]
theorem has_no {S : DS} {a odd : Nat} (h : (frR 86 (blockL S a)).e ≠ 0) : hasV S a odd = none := by
  unfold hasV; rw [if_neg (fun h2 => h h2.1.1)]
theorem has_gen {S : DS} {a odd g : Nat} {b : List UInt8} (h : hasV S a odd = some (g, b)) : (frR 86 (blockL S a)).e = 0 ∧ (frR 86 (blockL S a)).gen.toNat = g := by
  unfold hasV at h
  split at h
  · rename_i h2
    simp only [Option.some.injEq, Prod.mk.injEq] at h
    exact ⟨h2.1.1, h.1⟩
  · cases h
theorem has_cong {S T : DS} {a odd : Nat} (h : ∀ j, a ≤ j → j < a + 256 → blockL S j = blockL T j) : hasV S a odd = hasV T a odd := by
  have h0 := h a (Nat.le_refl _) (by omega)
  have hs : ∀ z, z ≤ 128 * 255 → segL S a z = segL T a z := by
    intro z hz
    rw [seg_take S a hz, seg_take T a hz, seg_cong (T := T) (fun k hk => h (a + 1 + k) (by omega) (by omega))]
  have hz : sizeA S a = sizeA T a := by unfold sizeA; rw [h0]
  unfold hasV
  rw [hz, h0]
  by_cases hc : (frR 86 (blockL T a)).seq ≤ 255 ∧ (frR 86 (blockL T a)).seq = blkN (sizeA T a)
  · have hn : blkN (sizeA T a) ≤ 255 := by omega
    have hle := blk_size hn
    rw [hs _ (by omega), hs _ (by omega)]
  · rw [if_neg (fun h2 => hc ⟨h2.1.2.2.2, h2.2.1⟩), if_neg (fun h2 => hc ⟨h2.1.2.2.2, h2.2.1⟩)]
theorem frR_gen0 (kd : UInt8) (t : List UInt8) : 0 ≤ (frR kd t).gen := by
  unfold frR; split
  · show (0 : Int) ≤ (frGen t : Int); omega
  · exact Int.le_refl _
theorem has_power (S : DS) (a odd : Nat) : hasV (powerS S) a odd = hasV S a odd := rfl

/-! One Save. -/
theorem plan_length (a g : Nat) (b : List UInt8) : (planP a g b).length = blkN b.length + 1 := by simp [planP, bodyP]
theorem plan_fit {S : DS} {a g : Nat} {b : List UInt8} (h : a + 256 ≤ S.len) (hb : blkN b.length ≤ 255) : ∀ x ∈ planP a g b, x.1 < S.len ∧ x.2.length = 128 := by
  intro x hx
  unfold planP at hx
  rcases List.mem_append.1 hx with hx | hx
  · unfold bodyP at hx
    obtain ⟨k, hk, rfl⟩ := List.mem_map.1 hx
    have hk := List.mem_range.1 hk
    exact ⟨by show a + 1 + k < S.len; omega, chunkL_length hk⟩
  · rw [List.mem_singleton.1 hx]
    exact ⟨by show a < S.len; omega, vheadL_length g b⟩
theorem body_pair (a : Nat) (b : List UInt8) (n : Nat) : (bodyP a b n).Pairwise (fun x y => x.1 ≠ y.1) := by
  unfold bodyP
  rw [List.pairwise_map]
  exact List.Pairwise.imp (fun h => by show _ ≠ _; omega) (List.pairwise_lt_range (n := n))
theorem plan_pair (a g : Nat) (b : List UInt8) : (planP a g b).Pairwise (fun x y => x.1 ≠ y.1) := by
  unfold planP
  rw [List.pairwise_append]
  refine ⟨body_pair a b _, by simp, fun x hx y hy => ?_⟩
  unfold bodyP at hx
  obtain ⟨k, -, rfl⟩ := List.mem_map.1 hx
  rw [List.mem_singleton.1 hy]
  show a + 1 + k ≠ a; omega
theorem plan_in {a g : Nat} {b : List UInt8} {x : Nat × List UInt8} (hx : x ∈ planP a g b) : a ≤ x.1 ∧ x.1 ≤ a + blkN b.length := by
  unfold planP at hx
  rcases List.mem_append.1 hx with hx | hx
  · unfold bodyP at hx
    obtain ⟨k, hk, rfl⟩ := List.mem_map.1 hx
    have hk := List.mem_range.1 hk
    exact ⟨by show a ≤ a + 1 + k; omega, by show a + 1 + k ≤ _; omega⟩
  · rw [List.mem_singleton.1 hx]; exact ⟨Nat.le_refl _, by show a ≤ _; omega⟩
theorem plan_body {a g : Nat} {b : List UInt8} {k : Nat} (hk : k < blkN b.length) : (a + 1 + k, chunkL b k) ∈ planP a g b := by
  unfold planP bodyP
  exact List.mem_append.2 (.inl (List.mem_map.2 ⟨k, List.mem_range.2 hk, rfl⟩))
theorem plan_head (a g : Nat) (b : List UInt8) : (a, vheadL g b) ∈ planP a g b := List.mem_append.2 (.inr (by simp))
/-- Saved as a whole: held. -/
theorem save_whole {S : DS} {from_ g : Nat} {b : List UInt8} (ok : DSOk S) (ho : S.off = false) (hf : S.fuse < 0 ∨ ((blkN b.length + 1 : Nat) : Int) ≤ S.fuse) (hl : from_ + 512 ≤ S.len) (hg : g ≤ 2147483647) (hb : blkN b.length ≤ 255) :
    saveE S from_ g b = 0 ∧ DSOk (saveD S from_ g b) ∧ (saveD S from_ g b).len = S.len ∧ (saveD S from_ g b).off = false ∧ (saveD S from_ g b).fuse = (if 0 ≤ S.fuse then S.fuse - (blkN b.length + 1 : Nat) else S.fuse) ∧ (saveD S from_ g b).wr = S.wr + (blkN b.length + 1 : Nat) ∧
      hasV (saveD S from_ g b) (vAt from_ g) (g % 2) = some (g, b) ∧ ∀ j, ¬ (vAt from_ g ≤ j ∧ j < vAt from_ g + 256) → blockL (saveD S from_ g b) j = blockL S j := by
  have ha : vAt from_ g + 256 ≤ S.len := by unfold vAt; omega
  have hfit := plan_fit (g := g) ha hb
  have eE : saveE S from_ g b = (wrl S (planP (vAt from_ g) g b)).1 := by unfold saveE; rw [if_neg (by omega), if_neg (by omega), Int.toNat_natCast]
  have eD : saveD S from_ g b = (wrl S (planP (vAt from_ g) g b)).2 := by unfold saveD; rw [if_neg (by omega), Int.toNat_natCast]
  obtain ⟨k1, k2, -, k4⟩ := wrl_keep _ S ok hfit
  obtain ⟨q1, q2, q3, -, q5, q6⟩ := wrl_all _ S ok ho (by rw [plan_length]; exact hf) hfit (plan_pair _ g b)
  rw [plan_length] at q3 q5
  rw [eE, eD]
  refine ⟨q1, k1, k2, q2, q3, q5, has_saved hg rfl hb (q6 _ (plan_head _ g b)) (fun k hk => q6 _ (plan_body hk)), fun j hj => k4 j (fun x hx e => hj ?_)⟩
  have := plan_in hx
  omega
theorem torn_at {S : DS} {i : Nat} {x : List UInt8} {p q : List (Nat × List UInt8)} (ok : DSOk S) (ho : S.off = false) (hf : S.fuse = p.length) (hfit : ∀ y ∈ p ++ (i, x) :: q, y.1 < S.len ∧ y.2.length = 128) (hp : (p ++ (i, x) :: q).Pairwise (fun x y => x.1 ≠ y.1)) :
    (wrl S (p ++ (i, x) :: q)).1 = 19 ∧ blockL (wrl S (p ++ (i, x) :: q)).2 i = tornL S.keep x ∧ (∀ y ∈ p, blockL (wrl S (p ++ (i, x) :: q)).2 y.1 = y.2) ∧ ∀ j, j ≠ i → (∀ y ∈ p, j ≠ y.1) → blockL (wrl S (p ++ (i, x) :: q)).2 j = blockL S j := by
  obtain ⟨hp1, -, hp3⟩ := List.pairwise_append.1 hp
  have hsub : ∀ y ∈ p, y.1 < S.len ∧ y.2.length = 128 := fun y hy => hfit y (by simp [hy])
  obtain ⟨hi, hx⟩ := hfit (i, x) (by simp)
  simp only at hi hx
  obtain ⟨ok1, l1, -, k1⟩ := wrl_keep p S ok hsub
  obtain ⟨q1, q2, q3, q4, -, q6⟩ := wrl_all p S ok ho (by omega) hsub hp1
  have f1 : (wrl S p).2.fuse = 0 := by rw [q3, if_pos (by omega)]; omega
  rw [← l1] at hi
  have e1 := writeE_on hi hx q2
  rw [if_pos f1] at e1
  have ew : wrl S (p ++ (i, x) :: q) = (19, writeS (wrl S p).2 (i : Int) x) := by
    rw [wrl_append, if_pos q1, wrl]
    simp only
    rw [e1, if_neg (by decide)]
  have hw : writtenL (wrl S p).2 x = tornL S.keep x := by unfold writtenL; rw [if_pos f1, q4]
  rw [ew]
  refine ⟨rfl, ?_, fun y hy => ?_, fun j hj hy => ?_⟩
  · show blockL (writeS _ _ _) i = _
    rw [blockL_write ok1 hi hx q2, if_pos rfl, hw]
  · show blockL (writeS _ _ _) y.1 = _
    rw [blockL_write ok1 hi hx q2, if_neg (fun e => hp3 y hy (i, x) (by simp) e), q6 y hy]
  · show blockL (writeS _ _ _) j = _
    rw [blockL_write ok1 hi hx q2, if_neg hj, k1 j hy]
theorem body_split (a : Nat) (b : List UInt8) (n : Nat) : ∀ m, ∃ r, bodyP a b (n + 1 + m) = bodyP a b n ++ (a + 1 + n, chunkL b n) :: r := by
  intro m
  induction m with
  | zero => exact ⟨[], by rw [Nat.add_zero, bodyP_succ]⟩
  | succ m ih =>
    obtain ⟨r, hr⟩ := ih
    exact ⟨r ++ [(a + 1 + (n + 1 + m), chunkL b (n + 1 + m))], by rw [← Nat.add_assoc, bodyP_succ, hr]; simp⟩
theorem body_length (a : Nat) (b : List UInt8) (n : Nat) : (bodyP a b n).length = n := by simp [bodyP]
theorem body_in {a n : Nat} {b : List UInt8} {y : Nat × List UInt8} (h : y ∈ bodyP a b n) : a ≠ y.1 := by
  unfold bodyP at h
  obtain ⟨k, -, rfl⟩ := List.mem_map.1 h
  show a ≠ a + 1 + k; omega
/-- A Save that the fuse tears: at the write number n. -/
theorem save_torn {S : DS} {from_ g : Nat} {b : List UInt8} (ok : DSOk S) (ho : S.off = false) {n : Nat} (hf : S.fuse = n) (hn : n < blkN b.length + 1) (hl : from_ + 512 ≤ S.len) (hg : g ≤ 2147483647) (hb : blkN b.length ≤ 255) :
    saveE S from_ g b = 19 ∧ DSOk (saveD S from_ g b) ∧ (saveD S from_ g b).len = S.len ∧ (saveD S from_ g b).wr ≤ S.wr + (blkN b.length + 1 : Nat) ∧ (∀ j, ¬ (vAt from_ g ≤ j ∧ j < vAt from_ g + 256) → blockL (saveD S from_ g b) j = blockL S j) ∧
      (n < blkN b.length → blockL (saveD S from_ g b) (vAt from_ g) = blockL S (vAt from_ g)) ∧
      (n = blkN b.length → blockL (saveD S from_ g b) (vAt from_ g) = tornL S.keep (vheadL g b) ∧ ∀ k, k < blkN b.length → blockL (saveD S from_ g b) (vAt from_ g + 1 + k) = chunkL b k) := by
  have ha : vAt from_ g + 256 ≤ S.len := by unfold vAt; omega
  have eE : saveE S from_ g b = (wrl S (planP (vAt from_ g) g b)).1 := by unfold saveE; rw [if_neg (by omega), if_neg (by omega), Int.toNat_natCast]
  have eD : saveD S from_ g b = (wrl S (planP (vAt from_ g) g b)).2 := by unfold saveD; rw [if_neg (by omega), Int.toNat_natCast]
  rw [eE, eD]
  generalize vAt from_ g = a at *
  have hfit := plan_fit (g := g) ha hb
  have hpair := plan_pair a g b
  have hin := fun x (hx : x ∈ planP a g b) => plan_in hx
  obtain ⟨k1, k2, k3, k4⟩ := wrl_keep _ S ok hfit
  rw [plan_length] at k3
  by_cases hnb : n < blkN b.length
  · obtain ⟨r, hr⟩ := body_split a b n (blkN b.length - n - 1)
    rw [show n + 1 + (blkN b.length - n - 1) = blkN b.length by omega] at hr
    have hP : planP a g b = bodyP a b n ++ (a + 1 + n, chunkL b n) :: (r ++ [(a, vheadL g b)]) := by unfold planP; rw [hr]; simp
    have ht := torn_at (S := S) (i := a + 1 + n) (x := chunkL b n) (p := bodyP a b n) (q := r ++ [(a, vheadL g b)]) ok ho (by rw [body_length]; exact hf) (by rw [← hP]; exact hfit) (by rw [← hP]; exact hpair)
    rw [← hP] at ht
    refine ⟨ht.1, k1, k2, k3, fun j hj => k4 j (fun x hx e => hj ?_), fun _ => ht.2.2.2 a (by omega) (fun y hy => body_in hy), fun h => absurd h (by omega)⟩
    have := hin x hx; omega
  · obtain rfl : n = blkN b.length := by omega
    have hP : planP a g b = bodyP a b (blkN b.length) ++ (a, vheadL g b) :: [] := rfl
    have ht := torn_at (S := S) (i := a) (x := vheadL g b) (p := bodyP a b (blkN b.length)) (q := []) ok ho (by rw [body_length]; exact hf) (by rw [← hP]; exact hfit) (by rw [← hP]; exact hpair)
    rw [← hP] at ht
    refine ⟨ht.1, k1, k2, k3, fun j hj => k4 j (fun x hx e => hj ?_), fun h => absurd h hnb, fun _ => ⟨ht.2.1, fun k hk => ht.2.2.1 (a + 1 + k, chunkL b k) ?_⟩⟩
    · have := hin x hx; omega
    · unfold bodyP; exact List.mem_map.2 ⟨k, List.mem_range.2 hk, rfl⟩

/-- Behind i Saves, of the generations 1 to i. -/
structure VK (l : List (List UInt8)) (i : Nat) (S : DS) : Prop where
  ok : DSOk S
  len : S.len = 512
  off : S.off = false
  fuse : S.fuse = -1
  wr : S.wr ≤ 9 * i
  cur : ∀ k, i = k + 1 → ∀ h : k < l.length, hasV S (vAt 0 i) (i % 2) = some (i, l[k])
  old : (frR 86 (blockL S (vAt 0 (i + 1)))).e = 0 → (frR 86 (blockL S (vAt 0 (i + 1)))).gen < i
  none0 : i = 0 → (frR 86 (blockL S 0)).e ≠ 0
theorem VK.start (l : List (List UInt8)) : VK l 0 (DS.new 512) :=
  ⟨DSOk.new (by omega), DS.new_len 512, rfl, rfl, Int.le_refl _, fun k hk => by omega,
    fun h => absurd h (by rw [new_block _ _ (by unfold vAt; omega)]; exact frR_zeros 86), fun _ => by rw [new_block _ _ (by omega)]; exact frR_zeros 86⟩
theorem blk_small {b : List UInt8} (h : b.length ≤ 1000) : blkN b.length ≤ 8 := by unfold blkN; omega
theorem vAt_two (g : Nat) : vAt 0 (g + 2) = vAt 0 g := by unfold vAt; omega
theorem VK.head {l : List (List UInt8)} {i : Nat} {S : DS} (h : VK l i S) (hi : i ≤ l.length) : (frR 86 (blockL S (vAt 0 i))).e = 0 → (frR 86 (blockL S (vAt 0 i))).gen < i + 1 := by
  intro he
  cases i with
  | zero => exact absurd he (h.none0 rfl)
  | succ k =>
    have h1 := (has_gen (h.cur k rfl (by omega))).2
    have h2 := frR_gen0 86 (blockL S (vAt 0 (k + 1)))
    omega
theorem VK.save {l : List (List UInt8)} {i : Nat} {S : DS} (h : VK l i S) (hi : i < l.length) (h6 : i ≤ 6) (hb : l[i].length ≤ 1000) :
    saveE S 0 ((i + 1 : Nat) : Int) l[i] = 0 ∧ VK l (i + 1) (saveD S 0 ((i + 1 : Nat) : Int) l[i]) := by
  have h8 := blk_small hb
  obtain ⟨e1, ok', l', o', f', w', hs, hot⟩ := save_whole (from_ := 0) (g := i + 1) (b := l[i]) h.ok h.off (.inl (by rw [h.fuse]; decide)) (by rw [h.len]; decide) (by omega) (by omega)
  have hf := h.fuse
  have hw := h.wr
  refine ⟨e1, ok', by rw [l', h.len], o', by rw [f', if_neg (by omega), hf], by rw [w']; omega, fun k hk hl => ?_, ?_, fun h0 => by omega⟩
  · obtain rfl : k = i := by omega
    exact hs
  · rw [vAt_two, hot _ (by unfold vAt; omega)]
    have := h.head (by omega)
    intro he
    have := this he
    omega
/-- What is loaded. -/
theorem load_pick {S : DS} {fr g : Nat} {b : List UInt8} (ho : S.off = false) (h1 : hasV S (vAt fr g) (g % 2) = some (g, b)) (h2 : ∀ g' b', hasV S (vAt fr (g + 1)) ((g + 1) % 2) = some (g', b') → g' < g) : loadR S fr = ⟨g, b, 0⟩ := by
  unfold loadR
  rw [if_neg (by rw [ho]; decide)]
  rcases Nat.mod_two_eq_zero_or_one g with hg | hg
  · have e1 : vAt fr g = fr := by unfold vAt; omega
    have e2 : vAt fr (g + 1) = fr + 256 := by unfold vAt; omega
    rw [e1, hg] at h1
    rw [e2, show (g + 1) % 2 = 1 by omega] at h2
    rw [h1]
    cases h3 : hasV S (fr + 256) 1 with
    | none => rfl
    | some y =>
      have := h2 y.1 y.2 (by rw [h3])
      show (if g < y.1 then _ else _) = _
      rw [if_neg (by omega)]
  · have e1 : vAt fr g = fr + 256 := by unfold vAt; omega
    have e2 : vAt fr (g + 1) = fr := by unfold vAt; omega
    rw [e1, hg] at h1
    rw [e2, show (g + 1) % 2 = 0 by omega] at h2
    rw [h1]
    cases h3 : hasV S fr 0 with
    | none => rfl
    | some y =>
      have := h2 y.1 y.2 (by rw [h3])
      show (if y.1 < g then _ else _) = _
      rw [if_pos (by omega)]
theorem load_none {S : DS} {fr : Nat} (ho : S.off = false) (h1 : hasV S fr 0 = none) (h2 : hasV S (fr + 256) 1 = none) : loadR S fr = ⟨0, [], 6⟩ := by
  unfold loadR
  rw [if_neg (by rw [ho]; decide), h1, h2]; rfl
/-- The last Save, under the fuse (n, k): what it answers, what is loaded then. -/
theorem VK.last {l : List (List UInt8)} {S : DS} (h : VK l l.length S) (hl : l.length ≤ 6) {b : List UInt8} (hb : b.length ≤ 1000) {n k : Nat} (hn : n ≤ blkN b.length + 1) (hk : k ≤ 128) :
    saveE (armS S n k) 0 ((l.length + 1 : Nat) : Int) b = (if n = blkN b.length + 1 then 0 else 19) ∧
    loadR (powerS (saveD (armS S n k) 0 ((l.length + 1 : Nat) : Int) b)) 0 = (if n = blkN b.length + 1 ∨ (n = blkN b.length ∧ k = 128) then ⟨l.length + 1, b, 0⟩ else if l.length = 0 then ⟨0, [], 6⟩ else ⟨l.length, l.getD (l.length - 1) [], 0⟩) := by
  have h8 := blk_small hb
  have ha : armE (n : Int) (k : Int) = 0 := by unfold armE; rw [if_neg (by omega)]
  have okA := h.ok.arm (n : Int) (k : Int) (by omega)
  have eA : armS S n k = { S with fuse := n, keep := k } := by unfold armS; rw [if_pos ha]
  have oA : (armS S n k).off = false := by rw [eA]; exact h.off
  have fA : (armS S n k).fuse = n := by rw [eA]
  have kA : (armS S n k).keep = k := by rw [eA]
  have lA : (armS S n k).len = 512 := by unfold DS.len; rw [armS_all]; exact h.len
  have bA := fun j => blockL_arm S n k j
  clear eA
  generalize armS S n k = A at *
  have holdA : (frR 86 (blockL A (vAt 0 (l.length + 1)))).e = 0 → (frR 86 (blockL A (vAt 0 (l.length + 1)))).gen < l.length := by rw [bA]; exact h.old
  -- what the area of the generation before holds
  have hprev : ∀ T : DS, (∀ j, ¬ (vAt 0 (l.length + 1) ≤ j ∧ j < vAt 0 (l.length + 1) + 256) → blockL T j = blockL A j) → ∀ a odd, a = vAt 0 l.length → hasV T a odd = hasV S a odd := by
    intro T hT a odd hav
    refine has_cong (fun j h1 h2 => ?_)
    rw [hT j (by subst hav; unfold vAt at *; omega), bA]
  by_cases hw : n = blkN b.length + 1
  · obtain ⟨e1, ok', l', o', f', w', hs, hot⟩ := save_whole (from_ := 0) (g := l.length + 1) (b := b) okA oA (.inr (by rw [fA]; omega)) (by rw [lA]; decide) (by omega) (by omega)
    refine ⟨by rw [if_pos hw]; exact e1, ?_⟩
    rw [if_pos (.inl hw)]
    refine load_pick rfl hs (fun g' b' hh => ?_)
    obtain ⟨g1, g2⟩ := has_gen hh
    rw [vAt_two, blockL_power, hot _ (by unfold vAt; omega), bA] at g1 g2
    have := h.head (Nat.le_refl _) g1
    have := frR_gen0 86 (blockL S (vAt 0 l.length))
    omega
  · obtain ⟨e1, ok', l', w', hot, hA1, hA2⟩ := save_torn (from_ := 0) (g := l.length + 1) (b := b) okA oA fA (by omega) (by rw [lA]; decide) (by omega) (by omega)
    refine ⟨by rw [if_neg hw]; exact e1, ?_⟩
    have hpv := hprev _ hot
    by_cases hfull : n = blkN b.length ∧ k = 128
    · rw [if_pos (.inr hfull)]
      obtain ⟨hd, hc⟩ := hA2 hfull.1
      rw [kA, hfull.2, show ((128 : Nat) : Int) = 128 from rfl, tornL_all (vheadL_length _ _)] at hd
      refine load_pick rfl (has_saved (by omega) rfl (by omega) hd hc) (fun g' b' hh => ?_)
      obtain ⟨g1, g2⟩ := has_gen hh
      rw [vAt_two, blockL_power, hot _ (by unfold vAt; omega), bA] at g1 g2
      have := h.head (Nat.le_refl _) g1
      have := frR_gen0 86 (blockL S (vAt 0 l.length))
      omega
    · rw [if_neg (by rintro (h1 | h1); exact hw h1; exact hfull h1)]
      -- the head of the new area: as it was, or torn
      have hnew : (frR 86 (blockL (saveD A 0 ((l.length + 1 : Nat) : Int) b) (vAt 0 (l.length + 1)))).e = 0 → (frR 86 (blockL (saveD A 0 ((l.length + 1 : Nat) : Int) b) (vAt 0 (l.length + 1)))).gen < l.length := by
        by_cases hnb : n < blkN b.length
        · rw [hA1 hnb]; exact holdA
        · have hd := (hA2 (by omega)).1
          rw [kA] at hd
          rw [hd]
          intro he
          exact absurd he (frR_torn (vheadL_length _ _) (by have : ¬ k = 128 := fun e => hfull ⟨by omega, e⟩; omega))
      by_cases h0 : l.length = 0
      · rw [if_pos h0]
        have e0 : vAt 0 l.length = 0 := by unfold vAt; omega
        have e1' : vAt 0 (l.length + 1) = 0 + 256 := by unfold vAt; omega
        refine load_none rfl ?_ (has_no ?_)
        · show hasV (saveD A 0 ((l.length + 1 : Nat) : Int) b) 0 0 = none
          rw [hpv 0 0 e0.symm]
          exact has_no (h.none0 h0)
        · show (frR 86 (blockL (saveD A 0 ((l.length + 1 : Nat) : Int) b) (0 + 256))).e ≠ 0
          rw [e1'] at hnew
          intro he
          have := hnew he
          have := frR_gen0 86 (blockL (saveD A 0 ((l.length + 1 : Nat) : Int) b) (0 + 256))
          omega
      · rw [if_neg h0]
        have hcur := h.cur (l.length - 1) (by omega) (by omega)
        have eg : l.getD (l.length - 1) [] = l[l.length - 1]'(by omega) := by rw [List.getD, List.getElem?_eq_getElem (by omega)]; rfl
        rw [eg]
        refine load_pick rfl ?_ (fun g' b' hh => ?_)
        · show hasV (saveD A 0 ((l.length + 1 : Nat) : Int) b) _ _ = _
          rw [hpv _ _ rfl]; exact hcur
        · obtain ⟨g1, g2⟩ := has_gen hh
          have := hnew g1
          have := frR_gen0 86 (blockL (saveD A 0 ((l.length + 1 : Nat) : Int) b) (vAt 0 (l.length + 1)))
          have g2' : (frR 86 (blockL (saveD A 0 ((l.length + 1 : Nat) : Int) b) (vAt 0 (l.length + 1)))).gen.toNat = g' := g2
          omega
end Go.Proofs.Ytbmcajhknohhdaa

/-! VltC -/
namespace Go.Proofs.Ytbmcajhknohhdaa
open Go.RowKit

/-- What the memory of a vault is, apart from the disk's. At w vb db a G: at vb a vault on the disk at db that begins at block a. -/
structure VltRel where
  At : World → Nat → Nat → Nat → (Nat → Prop) → Prop
  lt : ∀ {w vb db a G}, At w vb db a G → ∀ k, G k → k < w.heap.size
  kept : ∀ {w w' vb db a G} {T : Nat → Prop}, At w vb db a G → Chg T w w' → (∀ k, G k → ¬ T k) → At w' vb db a G
structure VP (K : DiskRel) (R : VltRel) (w : World) (vb db : Nat) (S : DS) (a : Nat) (F : Nat → Prop) : Prop where
  ok : DSOk S
  fits : a + 512 ≤ S.len
  ex : ∃ D G, K.At w db S D ∧ R.At w vb db a G ∧ (∀ k, D k → ¬ G k) ∧ ∀ k, F k ↔ (D k ∨ G k)
theorem VP.lt {K : DiskRel} {R : VltRel} {w : World} {vb db : Nat} {S : DS} {a : Nat} {F : Nat → Prop} (h : VP K R w vb db S a F) : ∀ k, F k → k < w.heap.size := by
  obtain ⟨D, G, h1, h2, -, h4⟩ := h.ex
  intro k hk
  rcases (h4 k).1 hk with h5 | h5
  · exact (K.lt h1).2 k h5
  · exact R.lt h2 k h5
theorem VP.kept {K : DiskRel} {R : VltRel} {w w' : World} {vb db : Nat} {S : DS} {a : Nat} {F T : Nat → Prop} (h : VP K R w vb db S a F) (hc : Chg T w w') (hF : ∀ k, F k → ¬ T k) : VP K R w' vb db S a F := by
  obtain ⟨D, G, h1, h2, h3, h4⟩ := h.ex
  exact ⟨h.ok, h.fits, D, G, K.kept h1 hc (fun k hk => hF k ((h4 k).2 (.inl hk))), R.kept h2 hc (fun k hk => hF k ((h4 k).2 (.inr hk))), h3, h4⟩
/-- The disk alone was called. -/
theorem VP.disk {K : DiskRel} {R : VltRel} {w w' : World} {vb db : Nat} {S S' : DS} {a : Nat} {F : Nat → Prop} (h : VP K R w vb db S a F) (ok : DSOk S') (hl : S'.len = S.len) {D : Nat → Prop}
    (hx : ∃ G, R.At w vb db a G ∧ (∀ k, D k → ¬ G k) ∧ ∀ k, F k ↔ (D k ∨ G k)) {D' : Nat → Prop} (hA : K.At w' db S' D') (hs : ∀ k, D' k → D k ∨ w.heap.size ≤ k) (hc : Chg D w w') :
    ∃ F', VP K R w' vb db S' a F' ∧ (∀ k, F' k → F k ∨ w.heap.size ≤ k) ∧ Chg F w w' := by
  obtain ⟨G, h2, h3, h4⟩ := hx
  have hG := R.lt h2
  refine ⟨fun k => D' k ∨ G k, ⟨ok, by rw [hl]; exact h.fits, D', G, hA, R.kept h2 hc (fun k hk hd => h3 k hd hk), fun k hk hg => ?_, fun _ => Iff.rfl⟩, fun k hk => ?_, hc.mono fun k _ hk => (h4 k).2 (.inl hk)⟩
  · rcases hs k hk with h5 | h5
    · exact h3 k h5 hg
    · have := hG k hg; omega
  · rcases hk with hk | hk
    · rcases hs k hk with h5 | h5
      · exact .inl ((h4 k).2 (.inl h5))
      · exact .inr h5
    · exact .inl ((h4 k).2 (.inr hk))

/-! The vault's own. -/
def VNewC (K : DiskRel) (R : VltRel) : Prop := ∀ (a : Nat) (w : World) (db : Nat) (S : DS) (D : Nat → Prop), K.At w db S D → DSOk S → a + 512 ≤ S.len →
  Calls Try.prog 8 #[ptrV db, .int .i64 (a : Int)] w fun e w' => ∃ vb F, e = .returned (.tuple #[ptrV vb, .int .i64 0]) ∧ VP K R w' vb db S a F ∧ (∀ k, F k → D k ∨ w.heap.size ≤ k) ∧ Below w.heap.size w w'
def VNewNoC (K : DiskRel) : Prop := ∀ (a : Int) (w : World) (db : Nat) (S : DS) (D : Nat → Prop), K.At w db S D → DSOk S → a < 0 ∨ (S.len : Int) < a + 512 → -9223372036854775808 ≤ a → a ≤ 9223372036854775807 →
  Calls Try.prog 8 #[ptrV db, .int .i64 a] w fun e w' => e = .returned (.tuple #[.pointer none, .int .i64 8]) ∧ Below w.heap.size w w'
def VNewNilC : Prop := ∀ (w : World), Calls Try.prog 8 #[.pointer none, .int .i64 0] w fun e w' => e = .returned (.tuple #[.pointer none, .int .i64 2]) ∧ Below w.heap.size w w'
def VBlocksC : Prop := ∀ (n : Int) (w : World), n ≤ 9223372036854775807 → Calls Try.prog 25 #[.int .i64 n] w fun e w' => e = .returned (.int .i64 (if n < 1 then 0 else ((blkN n.toNat : Nat) : Int))) ∧ w = w'
def VSaveC (K : DiskRel) (R : VltRel) : Prop := ∀ {w vb db S a F p len cap b} (gen : Int), VP K R w vb db S a F → S.wr ≤ 900000 → BsAt w p len cap b → b.length ≤ 100000 → (∀ x, p = some x → b ≠ [] → ¬ F x.block ∧ x.block < w.heap.size) →
  Calls Try.prog 12 #[ptrV vb, .int .i64 gen, .slice p len cap] w fun e w' => ∃ F', e = .returned (.int .i64 (saveE S a gen b)) ∧ VP K R w' vb db (saveD S a gen b) a F' ∧ (∀ k, F' k → F k ∨ w.heap.size ≤ k) ∧ Chg F w w'
def VLoadC (K : DiskRel) (R : VltRel) : Prop := ∀ {w vb db S a F}, VP K R w vb db S a F →
  Calls Try.prog 21 #[ptrV vb] w fun e w' => ∃ p c, e = .returned (.tuple #[.int .i64 ((loadR S a).gen : Int), .slice p (loadR S a).b.length c, .int .i64 (loadR S a).e]) ∧ BsAt w' p (loadR S a).b.length c (loadR S a).b ∧ (∀ x, p = some x → w.heap.size ≤ x.block) ∧ Below w.heap.size w w'
def VNilSaveC : Prop := ∀ (p : Option Addr) (len cap : Nat) (w : World), Calls Try.prog 12 #[.pointer none, .int .i64 0, .slice p len cap] w fun e w' => e = .returned (.int .i64 2) ∧ Below w.heap.size w w'
def VAliveC : Prop := ∀ (w : World), Calls Try.prog 9 #[] w fun e w' => e = .returned (.bool true) ∧ Below w.heap.size w w'
def DOnV (K : DiskRel) : Prop := ∀ {w b S F}, K.At w b S F → DSOk S → Calls Try.prog 23 #[ptrV b] w fun e w' => e = .returned (.bool (!S.off)) ∧ Below w.heap.size w w'
def DWritesC (K : DiskRel) : Prop := ∀ {w b S F}, K.At w b S F → DSOk S → Calls Try.prog 24 #[ptrV b] w fun e w' => e = .returned (.int .i64 S.wr) ∧ Below w.heap.size w w'

/-- In V: a vault on a disk that were made since w; what was there in w has not changed. -/
structure VW (K : DiskRel) (R : VltRel) (w : World) (vb db : Nat) (S : DS) (a : Nat) (V : World) : Prop where
  below : Below w.heap.size w V
  ex : ∃ F, VP K R V vb db S a F ∧ ∀ k, F k → w.heap.size ≤ k
theorem VW.ok {K : DiskRel} {R : VltRel} {w : World} {vb db : Nat} {S : DS} {a : Nat} {V : World} (h : VW K R w vb db S a V) : DSOk S := by
  obtain ⟨F, h1, -⟩ := h.ex; exact h1.ok
theorem VW.to {w V V' : World} {F F' : Nat → Prop} (hb : Below w.heap.size w V) (ho : ∀ k, F k → w.heap.size ≤ k) (hs : ∀ k, F' k → F k ∨ V.heap.size ≤ k) (hc : Chg F V V') :
    Below w.heap.size w V' ∧ ∀ k, F' k → w.heap.size ≤ k :=
  ⟨hb.trans (hc.below hb.size ho), fun k hk => (hs k hk).elim (ho k) (fun h => Nat.le_trans hb.size h)⟩
theorem VW.step {K : DiskRel} {R : VltRel} {w : World} {vb db : Nat} {S : DS} {a : Nat} {V V' : World} (h : VW K R w vb db S a V) (hB : Below V.heap.size V V') : VW K R w vb db S a V' := by
  obtain ⟨F, h1, h2⟩ := h.ex
  exact ⟨h.below.trans (hB.mono h.below.size), F, h1.kept (Chg.ofBelow (S := fun _ => False) hB) (fun _ _ h => h), h2⟩
section
variable {K : DiskRel} {R : VltRel} {w : World} {vb db : Nat} {S : DS} {a : Nat} {V : World}
/-- Bytes of the world w are saved. -/
theorem VW.save (c : VSaveC K R) (h : VW K R w vb db S a V) (gen : Int) (hw : S.wr ≤ 900000) {p : Option Addr} {len cap : Nat} {b : List UInt8} (hb : BsAt w p len cap b) (hl : b.length ≤ 100000) :
    Calls Try.prog 12 #[ptrV vb, .int .i64 gen, .slice p len cap] V fun e w' => e = .returned (.int .i64 (saveE S a gen b)) ∧ VW K R w vb db (saveD S a gen b) a w' := by
  obtain ⟨F, h1, h2⟩ := h.ex
  refine (c gen h1 hw (hb.below h.below (Nat.le_refl _)) hl (fun x hx hne => ?_)).mono fun e w' ⟨F', he, hp, hs, hc⟩ => ?_
  · have hlt : x.block < w.heap.size := by
      subst hx
      rcases hb.place with ⟨h3, -⟩ | ⟨h3, -⟩ | ⟨g, off, h3, h4, -⟩
      · cases h3
      · exact absurd h3 hne
      · cases h3; exact h4
    exact ⟨fun hf => by have := h2 _ hf; omega, Nat.lt_of_lt_of_le hlt h.below.size⟩
  · obtain ⟨k1, k2⟩ := VW.to h.below h2 hs hc
    exact ⟨he, k1, F', hp, k2⟩
/-- Bytes that were made since, apart from the vault. -/
theorem VW.save2 (c : VSaveC K R) {W : World} (h : VW K R w vb db S a W) (hB : Below W.heap.size W V) (gen : Int) (hw : S.wr ≤ 900000) {p : Option Addr} {len cap : Nat} {b : List UInt8} (hb : BsAt V p len cap b) (hl : b.length ≤ 100000) (hp : ∀ x, p = some x → b ≠ [] → W.heap.size ≤ x.block) :
    Calls Try.prog 12 #[ptrV vb, .int .i64 gen, .slice p len cap] V fun e w' => e = .returned (.int .i64 (saveE S a gen b)) ∧ VW K R w vb db (saveD S a gen b) a w' := by
  obtain ⟨F, h1, h2⟩ := h.ex
  have hlt := h1.lt
  have h1' := h1.kept (Chg.ofBelow (S := fun _ => False) hB) (fun _ _ h => h)
  have hb' := h.below.trans (hB.mono h.below.size)
  refine (c gen h1' hw hb hl (fun x hx hne => ?_)).mono fun e w' ⟨F', he, hp, hs, hc⟩ => ?_
  · have h3 := hp x hx hne
    refine ⟨fun hf => by have := hlt _ hf; omega, ?_⟩
    subst hx
    rcases hb.place with ⟨h3, -⟩ | ⟨h3, -⟩ | ⟨g, off, h3, h4, -⟩
    · cases h3
    · exact absurd h3 hne
    · cases h3; exact h4
  · obtain ⟨k1, k2⟩ := VW.to hb' h2 hs hc
    exact ⟨he, k1, F', hp, k2⟩
/-- A Save keeps other bytes that were made since some world in which the vault was there. -/
theorem VW.saveK (c : VSaveC K R) {W : World} (h : VW K R w vb db S a W) (hB : Below W.heap.size W V) (gen : Int) (hw : S.wr ≤ 900000) {q : Option Addr} {n c2 : Nat} {m : List UInt8} (hb : BsAt V q n c2 m) (hq : ∀ x, q = some x → W.heap.size ≤ x.block) :
    Calls Try.prog 12 #[ptrV vb, .int .i64 gen, .slice none 0 0] V fun e w' => e = .returned (.int .i64 (saveE S a gen [])) ∧ BsAt w' q n c2 m ∧ VW K R w vb db (saveD S a gen []) a w' := by
  obtain ⟨F, h1, h2⟩ := h.ex
  have hlt := h1.lt
  have h1' := h1.kept (Chg.ofBelow (S := fun _ => False) hB) (fun _ _ h => h)
  have hb' := h.below.trans (hB.mono h.below.size)
  refine (c gen h1' hw (bsAt_nil V) (by simp) (fun x hx => by cases hx)).mono fun e w' ⟨F', he, hp, hs, hc⟩ => ?_
  obtain ⟨k1, k2⟩ := VW.to hb' h2 hs hc
  exact ⟨he, hb.chg hc (fun x hx hf => by have := hq x hx; have := hlt _ hf; omega), k1, F', hp, k2⟩
theorem VW.load (c : VLoadC K R) (h : VW K R w vb db S a V) :
    Calls Try.prog 21 #[ptrV vb] V fun e w' => ∃ p c, e = .returned (.tuple #[.int .i64 ((loadR S a).gen : Int), .slice p (loadR S a).b.length c, .int .i64 (loadR S a).e]) ∧ BsAt w' p (loadR S a).b.length c (loadR S a).b ∧ VW K R w vb db S a w' := by
  obtain ⟨F, h1, -⟩ := h.ex
  exact (c h1).mono fun e w' ⟨p, c, he, hb, _, hB⟩ => ⟨p, c, he, hb, h.step hB⟩
/-- What is loaded lies in new memory. -/
theorem VW.load2 (c : VLoadC K R) (h : VW K R w vb db S a V) :
    Calls Try.prog 21 #[ptrV vb] V fun e w' => ∃ p c, e = .returned (.tuple #[.int .i64 ((loadR S a).gen : Int), .slice p (loadR S a).b.length c, .int .i64 (loadR S a).e]) ∧ BsAt w' p (loadR S a).b.length c (loadR S a).b ∧ (∀ x, p = some x → V.heap.size ≤ x.block) ∧ Below V.heap.size V w' := by
  obtain ⟨F, h1, -⟩ := h.ex
  exact c h1
theorem VW.arm (c : DArmC K) (h : VW K R w vb db S a V) (n keep : Int) (hn : n ≤ 9223372036854775807) :
    Calls Try.prog 14 #[ptrV db, .int .i64 n, .int .i64 keep] V fun e w' => e = .returned (.int .i64 (armE n keep)) ∧ VW K R w vb db (armS S n keep) a w' := by
  obtain ⟨F, h1, h2⟩ := h.ex
  obtain ⟨D, G, g1, g2⟩ := h1.ex
  refine (c n keep g1 h1.ok hn).mono fun e w' ⟨D', he, hA, hs, hc⟩ => ?_
  obtain ⟨F', hp, hs2, hc2⟩ := h1.disk (h1.ok.arm n keep hn) (by unfold DS.len; rw [armS_all]) ⟨G, g2⟩ hA hs hc
  obtain ⟨k1, k2⟩ := VW.to h.below h2 hs2 hc2
  exact ⟨he, k1, F', hp, k2⟩
theorem VW.power (c : DPowerC K) (h : VW K R w vb db S a V) :
    Calls Try.prog 16 #[ptrV db] V fun e w' => e = .returned (.tuple #[]) ∧ VW K R w vb db (powerS S) a w' := by
  obtain ⟨F, h1, h2⟩ := h.ex
  obtain ⟨D, G, g1, g2⟩ := h1.ex
  refine (c g1 h1.ok).mono fun e w' ⟨D', he, hA, hs, hc⟩ => ?_
  obtain ⟨F', hp, hs2, hc2⟩ := h1.disk h1.ok.power rfl ⟨G, g2⟩ hA hs hc
  obtain ⟨k1, k2⟩ := VW.to h.below h2 hs2 hc2
  exact ⟨he, k1, F', hp, k2⟩
theorem VW.on (c : DOnV K) (h : VW K R w vb db S a V) : Calls Try.prog 23 #[ptrV db] V fun e w' => e = .returned (.bool (!S.off)) ∧ VW K R w vb db S a w' := by
  obtain ⟨F, h1, -⟩ := h.ex
  obtain ⟨D, G, g1, -⟩ := h1.ex
  exact (c g1 h1.ok).mono fun e w' ⟨he, hB⟩ => ⟨he, h.step hB⟩
theorem VW.writes (c : DWritesC K) (h : VW K R w vb db S a V) : Calls Try.prog 24 #[ptrV db] V fun e w' => e = .returned (.int .i64 S.wr) ∧ VW K R w vb db S a w' := by
  obtain ⟨F, h1, -⟩ := h.ex
  obtain ⟨D, G, g1, -⟩ := h1.ex
  exact (c g1 h1.ok).mono fun e w' ⟨he, hB⟩ => ⟨he, h.step hB⟩
end
/-- A new vault on a new disk. -/
theorem VW.made {K : DiskRel} {R : VltRel} (c : VNewC K R) {w V : World} {db n : Nat} {D : Nat → Prop} (hD : K.At V db (DS.new n) D) (hown : ∀ k, D k → w.heap.size ≤ k) (hB : Below w.heap.size w V) (a : Nat) (hn : n ≤ 1024) (hf : a + 512 ≤ n) :
    Calls Try.prog 8 #[ptrV db, .int .i64 (a : Int)] V fun e w' => ∃ vb, e = .returned (.tuple #[ptrV vb, .int .i64 0]) ∧ VW K R w vb db (DS.new n) a w' :=
  (c a V db (DS.new n) D hD (DSOk.new hn) (by rw [DS.new_len]; exact hf)).mono fun e w' ⟨vb, F, he, hp, hs, hB2⟩ =>
    ⟨vb, he, hB.trans (hB2.mono hB.size), F, hp, fun k hk => (hs k hk).elim (hown k) (fun h => Nat.le_trans hB.size h)⟩
end Go.Proofs.Ytbmcajhknohhdaa

/-! VltB -/
namespace Go.Proofs.Ytbmcajhknohhdaa
open Go.RowKit

def blkZ (n : Int) : Nat := if n < 1 then 0 else blkN n.toNat
theorem blkZ_nat (n : Nat) : blkZ (n : Int) = blkN n := by
  unfold blkZ
  by_cases h : n = 0
  · subst h; rfl
  · rw [if_neg (by omega), Int.toNat_natCast]
set_option maxHeartbeats 1600000 in
theorem rvBlocks_any (n : Int) (w : World) (h1 : -9223372036854775808 ≤ n) (h2 : n ≤ 9223372036854775807) :
    Calls Try.prog 26 #[.int .i64 n] w fun e w' => e = .returned (.int .i64 (blkZ n : Int)) ∧ w = w' := by
  by_cases hn : n < 1
  · have e : blkZ n = 0 := by unfold blkZ; rw [if_pos hn]
    rw [e]
    clear e
    go_enter Try.func26, Try.ntmps26
    go_wp2_with fail
    go_loop [0, 3] (fun a k => a = .int .i64 n ∧ k = .int .i64 0) (fun _ _ => 0)
    case atStart => exact ⟨rfl, rfl⟩
    case round =>
      obtain ⟨rfl, rfl⟩ := hrel
      have d : decide (0 < n) = false := by simp; omega
      go_wp2_with fail
      go_ret
      exact ⟨rfl, rfl⟩
  · obtain ⟨m, rfl⟩ := Int.eq_ofNat_of_zero_le (show 0 ≤ n by omega)
    rw [blkZ_nat]
    have hm : m ≤ 9223372036854775807 := by omega
    clear h1 h2 hn
    go_enter Try.func26, Try.ntmps26
    go_wp2_with fail
    go_loop [0, 3] (fun a k => ∃ j : Nat, j ≤ blkN m ∧ a = .int .i64 ((m : Int) - 128 * j) ∧ k = .int .i64 j) (fun _ k => blkN m - (intOf k).toNat)
    case atStart => exact ⟨0, Nat.zero_le _, by simp, rfl⟩
    case round =>
      obtain ⟨j, hj, rfl, rfl⟩ := hrel
      have hb1 := blkN_le m
      have hb2 := blkN_lt m
      have hkw : IntKind.i64.wrap ((j : Int) + 1) = (j : Int) + 1 := IntWalk.i64_in _ (by omega)
      by_cases hlt : j < blkN m
      · have hw : IntKind.i64.wrap ((m : Int) - 128 * (j : Int) - 128) = (m : Int) - 128 * (j : Int) - 128 := IntWalk.i64_in _ (by omega)
        have E := Lib.hid (show (m : Int) - 128 * (j : Int) - 128 = (m : Int) - 128 * ((j + 1 : Nat) : Int) by omega)
        have d : decide (0 < (m : Int) - 128 * (j : Int)) = true := by simp; omega
        have hx := Lib.hid hlt
        generalize hX : (m : Int) - 128 * (j : Int) = X at *
        clear hX hlt hb1 hb2
        go_wp2_with fail
        go_round
        case rel => exact ⟨j + 1, hx.out, by rw [E.out], by go_num⟩
        case measure => have := hx.out; simp [intOf]; omega
      · obtain rfl : j = blkN m := by omega
        have d : decide (0 < (m : Int) - 128 * ((blkN m : Nat) : Int)) = false := by simp; omega
        generalize (m : Int) - 128 * ((blkN m : Nat) : Int) = X at *
        go_wp2_with fail
        go_ret
        exact ⟨rfl, rfl⟩
end Go.Proofs.Ytbmcajhknohhdaa

/-! VltD -/
namespace Go.Proofs.Ytbmcajhknohhdaa
open Go.RowKit

theorem rvBlocks_len (n : Nat) (w : World) (h : n ≤ 9223372036854775807) : Calls Try.prog 26 #[.int .i64 (n : Int)] w fun e w' => e = .returned (.int .i64 ((blkN n : Nat) : Int)) ∧ w = w' := by
  have := rvBlocks_any (n : Int) w (by omega) (by omega)
  rw [blkZ_nat] at this
  exact this
set_option maxRecDepth 100000 in
set_option maxHeartbeats 3200000 in
theorem rvFilled_any (p : Option Addr) (len cap : Nat) (b : List UInt8) (w : World) (h : BsAt w p len cap b) (hl : b.length ≤ 100000) :
    Calls Try.prog 31 #[.slice p len cap] w fun e w' => ∃ q c, e = .returned (.slice q (fillL b).length c) ∧ w'.ownsRow w.heap.size 5 1 (.slice q (fillL b).length c) (fillL b).length (bvs (fillL b)) ∧ Below w.heap.size w w' := by
  have hsame := h.same
  subst hsame
  have HBk := Lib.hid (fun V => rvBlocks_len b.length V (by omega))
  have hb1 := blkN_le b.length
  have hb2 := blkN_lt b.length
  have hbs0 := h.below (belowNew w (.cells #[] 5)) (Nat.le_refl _)
  have hown : (w.alloc (.cells #[] 5)).ownsRow w.heap.size 5 1 (.slice (some ⟨w.heap.size, 0, none⟩) 0 0) ([] : List UInt8).length (bvs []) := World.ownsRow_lit w #[] 0 (Nat.le_refl _) (by decide) rfl
  have HB2 := Lib.hid hbs0
  have hq : ([] : List UInt8).length + b.length ≤ 140737488355328 := by simp; omega
  have hfl : fillL b = b ++ zeros (128 * blkN b.length - b.length) := rfl
  have HF := Lib.hid hfl
  obtain ⟨n, hn⟩ : ∃ n, n = b.length := ⟨_, rfl⟩
  have HNl := Lib.hid hn
  rw [← hn] at HBk hb1 hb2 HF ⊢
  have hn5 : n ≤ 100000 := by omega
  clear h hbs0 hfl hn hl
  generalize blkN n = K at *
  have hmw : IntKind.i64.wrap (128 * (K : Int)) = 128 * (K : Int) := IntWalk.i64_in _ (by omega)
  go_enter Try.func31, Try.ntmps31
  have tok1 : True := trivial
  go_wp2_with (at_builtin; have _t := tok1; refine wpList_append_bytes rfl _ _ 31 rfl w.heap.size 5 Try.underlying31 infoU8 rfl hown rfl (by rw [HNl.out]; exact HB2.out) hq (by simp) ?_; intro p1 n1 c1 w1 hrow1 hg1 hn1; have HR1 := Lib.hid hrow1; have HB1 := Lib.hid ((belowNew w _).grown hg1 (by simp) (fun k hk => by cases hk; exact Nat.le_refl _)); clear hrow1 hg1 hn1 hown tok1)
  rw [List.nil_append] at HR1
  go_loopw [3] (fun v wr => ∃ j : Nat, j ≤ 128 * K - n ∧ wr.ownsRow w.heap.size 5 1 v (b ++ zeros j).length (bvs (b ++ zeros j)) ∧ Below w.heap.size w wr) (fun v _ => 128 * K - (match v with | .slice _ n _ => n | _ => 0))
  case atStart => exact ⟨0, Nat.zero_le _, by rw [show b ++ zeros 0 = b by simp [zeros]]; exact HR1.out, HB1.out⟩
  case round =>
    obtain ⟨j, hj, hR, hB⟩ := hrel
    have hlen : (b ++ zeros j).length = n + j := by rw [List.length_append, HNl.out]; simp [zeros]
    have HLen := Lib.hid hlen
    obtain ⟨p2, c2, rfl⟩ := own_form hR
    have HR2 := Lib.hid hR
    have HBr := Lib.hid hB
    clear hR hB
    have HZ := Lib.hid (show b ++ zeros (j + 1) = b ++ zeros j ++ [0] by rw [zeros_succ, List.append_assoc])
    by_cases hlt : j < 128 * K - n
    · generalize b ++ zeros j = T2 at *
      have hown3 := HR2.out.alloc (.cells #[.int .u8 0] 5)
      have HS3 := Lib.hid (bsAt_new wr #[.int .u8 0] 5 0 [0] (by simp [maxLen]) (fun i hi => by
        obtain rfl : i = 0 := by simp at hi; omega
        rfl))
      have HQ3 := Lib.hid (HBr.out.alloc HBr.out.size (.cells #[.int .u8 0] 5))
      have hq3 : T2.length + [(0 : UInt8)].length ≤ 140737488355328 := by have := HLen.out; simp only [List.length_cons, List.length_nil]; omega
      have hlt2 : T2.length < 128 * K := by have := HLen.out; omega
      have d1 : decide ((T2.length : Int) < 128 * (K : Int)) = true := by simp; omega
      have HL2 := Lib.hid (show (T2 ++ [(0 : UInt8)]).length = T2.length + 1 by simp)
      clear hlen
      go_wp2_with fail
      refine (HBk.out _).mono ?_
      rintro e w4 ⟨rfl, rfl⟩
      go_wp2_with (at_builtin; refine wpList_append_bytes rfl _ _ 31 rfl w.heap.size 5 Try.underlying31 infoU8 rfl hown3 rfl HS3.out hq3 HQ3.out.size ?_; intro p3 n3 c3 w3 hrow hg3 hn3; have HR3 := Lib.hid hrow; have HB3 := Lib.hid (HQ3.out.grown hg3 HQ3.out.size (fun k hk => (hown3.lt k hk).1)); clear hrow hg3 hn3 hown3)
      obtain rfl : n3 = T2.length + 1 := by
        obtain ⟨pv, cv, e⟩ := own_form HR3.out
        cases e; rw [HL2.out]
      go_roundw
      case rel => exact ⟨j + 1, by omega, by rw [HZ.out]; exact HR3.out, HB3.out⟩
      case measure => simp; omega
    · obtain rfl : j = 128 * K - n := by omega
      rw [← HF.out] at HR2 HLen
      rw [← HF.out]
      have d1 : decide (((fillL b).length : Int) < 128 * (K : Int)) = false := by have := HLen.out; simp; omega
      have hl9 : (fillL b).length ≤ 200000 := by have := HLen.out; omega
      clear hlen
      generalize hT : fillL b = T2 at *
      have HT := Lib.hid hT
      clear hT
      go_wp2_with fail
      refine (HBk.out _).mono ?_
      rintro e w4 ⟨rfl, rfl⟩
      go_wp2_with fail
      go_ret
      rw [HT.out]
      exact ⟨p2, c2, rfl, HR2.out, HBr.out⟩
theorem okN_four {n : Nat} (h : n < 4294967296) : okN (n : Int) ((4 : Nat) : Int) = true := by
  rw [okN_iff]
  refine ⟨by omega, by omega, by omega, ?_⟩
  rw [Int.toNat_natCast]
  simp; omega
set_option maxRecDepth 100000 in
set_option maxHeartbeats 3200000 in
theorem rvHead_any (g : Nat) (p : Option Addr) (len cap : Nat) (b : List UInt8) (w : World) (h : BsAt w p len cap b) (hg : g ≤ 2147483647) (hb : blkN b.length ≤ 255) :
    Calls Try.prog 32 #[.int .i64 (g : Int), .slice p len cap] w fun e w' => ∃ q c, e = .returned (.slice q 128 c) ∧ w'.ownsRow w.heap.size 5 1 (.slice q 128 c) 128 (bvs (vheadL g b)) ∧ Below w.heap.size w w' := by
  have hsame := h.same
  subst hsame
  have hsz := blk_size hb
  have HBk := Lib.hid (fun V => rvBlocks_len b.length V (by omega))
  have HBs := Lib.hid h
  have HN1 : Hid (∀ V : World, Calls Try.prog 45 #[.int .i64 (b.length : Int), .int .i64 4] V (RNumIs V true (be b.length 4))) := Lib.hid (fun V => by
    have := rnum_in b.length 4 V (by omega) (by omega) (by omega)
    rw [okN_four (by omega)] at this
    exact this)
  have hc := crcSum_lt b
  have HN2 : Hid (∀ V : World, Calls Try.prog 45 #[.int .i64 ((crcSum b : Nat) : Int), .int .i64 4] V (RNumIs V true (be (crcSum b) 4))) := Lib.hid (fun V => by
    have := rnum_in (crcSum b) 4 V (by omega) (by omega) (by omega)
    rw [okN_four (by omega)] at this
    exact this)
  have HW := Lib.hid (fun (q : Option Addr) (n c : Nat) (V : World) (hV : BsAt V q n c (payL b)) => rfWrite_any 86 (g : Int) ((blkN b.length : Nat) : Int) q n c (payL b) V hV)
  have he : frWE (g : Int) ((blkN b.length : Nat) : Int) (payL b) = 0 := by unfold frWE; rw [if_neg (by omega), if_neg (by rw [payL_length]; omega)]
  have hwl : frWL 86 (g : Int) ((blkN b.length : Nat) : Int) (payL b) = vheadL g b := by unfold frWL; rw [if_pos he]; rfl
  rw [he, hwl, vheadL_length] at HW
  have hcw : IntKind.i64.wrap ((crcSum b : Nat) : Int) = ((crcSum b : Nat) : Int) := IntWalk.i64_in _ (by omega)
  have HP := Lib.hid (show payL b = be b.length 4 ++ be (crcSum b) 4 from rfl)
  have hl5 : b.length ≤ 1000000 := by omega
  clear h he hwl hc hb
  go_enter Try.func32, Try.ntmps32
  go_wp2_with fail
  refine (HN1.out _).mono ?_
  rintro e w1 ⟨p1, n1, c1, y1, rfl, hb1, hy1, hB1⟩
  have hy := hy1 rfl
  subst hy
  have HB1 := Lib.hid hB1
  have HY1 := Lib.hid hb1
  have HSum := Lib.hid (rcSum_any p b.length cap b w1 (HBs.out.below hB1 (Nat.le_refl _)) hl5)
  clear hb1 hy1 hB1 HN1
  go_wp2_with fail
  refine HSum.out.mono ?_
  rintro e w2 ⟨rfl, rfl⟩
  go_wp2_with fail
  refine (HN2.out _).mono ?_
  rintro e w3 ⟨p3, n3, c3, y3, rfl, hb3, hy3, hB3⟩
  have hy := hy3 rfl
  subst hy
  have HB3 := Lib.hid (HB1.out.trans (hB3.mono HB1.out.size))
  have HY3 := Lib.hid (HY1.out.below hB3 (Nat.le_refl _))
  have HZ3 := Lib.hid hb3
  have h4a : (be b.length 4).length = 4 := be_length _ _
  have h4b : (be (crcSum b) 4).length = 4 := be_length _ _
  clear hb3 hy3 hB3 HN2 HSum HB1 HY1
  generalize be b.length 4 = X1 at *
  generalize be (crcSum b) 4 = X2 at *
  have hq1 : ([] : List UInt8).length + X1.length ≤ 140737488355328 := by rw [h4a]; simp
  have tok1 : True := trivial
  go_upto_region 5 with (at_builtin; have _t := tok1; refine wpList_append_bytes rfl _ _ 31 rfl w.heap.size 5 Try.underlying31 infoU8 (l := []) rfl (World.ownsRow_nil _ _ _ _) rfl HY3.out hq1 HB3.out.size ?_; intro p5 n5 c5 w5 hrow5 hg5 hn5; have HR5 := Lib.hid hrow5; have HB5 := Lib.hid (HB3.out.grown hg5 HB3.out.size (fun k hk => by cases hk)); have HG5 := Lib.hid (HZ3.out.kept hg5.size (fun a _ hlt => hg5.block a.block hlt (fun e => by cases e))); clear hrow5 hg5 hn5 tok1)
  rw [List.nil_append] at HR5
  have hq2 : X1.length + X2.length ≤ 140737488355328 := by omega
  have tok2 : True := trivial
  go_upto_region 6 with (at_builtin; have _t := tok2; refine wpList_append_bytes rfl _ _ 31 rfl w.heap.size 5 Try.underlying31 infoU8 rfl HR5.out rfl HG5.out hq2 HB5.out.size ?_; intro p6 n6 c6 w6 hrow6 hg6 hn6; have HR6 := Lib.hid hrow6; have HB6 := Lib.hid (HB5.out.grown hg6 HB5.out.size (fun k hk => (HR5.out.lt k hk).1)); clear hrow6 hg6 hn6 tok2)
  rw [← HP.out] at HR6
  obtain ⟨q6, d6, e6, hbs6⟩ := BsAt.ofRow HR6.out
  rw [Value.slice.injEq] at e6
  obtain ⟨rfl, rfl, rfl⟩ := e6
  have HW6 := Lib.hid (HW.out p6 _ c6 w6 hbs6)
  clear hbs6 HW
  generalize (payL b).length = np at *
  go_wp2_with fail
  refine (HBk.out _).mono ?_
  rintro e w7 ⟨rfl, rfl⟩
  go_wp2_with fail
  refine HW6.out.mono ?_
  rintro e w8 ⟨q8, c8, rfl, hR8, hB8⟩
  have HB8 := Lib.hid (HB6.out.trans (hB8.mono HB6.out.size))
  have HR8 := Lib.hid (own_base2 hR8 HB6.out.size)
  clear hR8 hB8 HW6
  go_wp2_with fail
  go_ret
  exact ⟨q8, c8, rfl, HR8.out, HB8.out⟩
end Go.Proofs.Ytbmcajhknohhdaa

/-! VltE -/
namespace Go.Proofs.Ytbmcajhknohhdaa
open Go.RowKit

theorem plan_split (a g : Nat) (b : List UInt8) {k : Nat} (hk : k < blkN b.length) : ∃ r, planP a g b = bodyP a b k ++ (a + 1 + k, chunkL b k) :: r := by
  obtain ⟨r, hr⟩ := body_split a b k (blkN b.length - k - 1)
  rw [show k + 1 + (blkN b.length - k - 1) = blkN b.length by omega] at hr
  exact ⟨r ++ [(a, vheadL g b)], by unfold planP; rw [hr]; simp⟩
theorem wrl_stop {S T : DS} {a g k : Nat} {b : List UInt8} (hk : k < blkN b.length) (h : wrl S (bodyP a b k) = (0, T)) (hne : writeE T ((a + 1 + k : Nat) : Int) (chunkL b k) ≠ 0) : wrl S (planP a g b) = (writeE T ((a + 1 + k : Nat) : Int) (chunkL b k), writeS T ((a + 1 + k : Nat) : Int) (chunkL b k)) := by
  obtain ⟨r, hr⟩ := plan_split a g b hk
  rw [hr, wrl_append, h, if_pos rfl, wrl]
  simp only
  rw [if_neg hne]
theorem wrl_more {S T : DS} {a k : Nat} {b : List UInt8} (h : wrl S (bodyP a b k) = (0, T)) (he : writeE T ((a + 1 + k : Nat) : Int) (chunkL b k) = 0) : wrl S (bodyP a b (k + 1)) = (0, writeS T ((a + 1 + k : Nat) : Int) (chunkL b k)) := by
  rw [bodyP_succ, wrl_append, h, if_pos rfl, wrl]
  simp only
  rw [if_pos he]; rfl
theorem wrl_end {S T : DS} {a g : Nat} {b : List UInt8} (h : wrl S (bodyP a b (blkN b.length)) = (0, T)) : wrl S (planP a g b) = (writeE T (a : Int) (vheadL g b), writeS T (a : Int) (vheadL g b)) := by
  unfold planP
  rw [wrl_append, h, if_pos rfl, wrl]
  simp only
  by_cases he : writeE T (a : Int) (vheadL g b) = 0
  · rw [if_pos he, wrl, he]
  · rw [if_neg he]
theorem foot_lt {B : Nat} {w : World} {c : Nat} {v : Value} {S : DS} (h : RDisk B w c v S) : ∀ k, foot c v k → k < w.heap.size := by
  intro k hk
  rcases hk with rfl | hk
  · exact h.blk.lt
  · exact (h.row.lt k hk).2
theorem RDisk.below {B : Nat} {w w' : World} {c : Nat} {v : Value} {S : DS} (h : RDisk B w c v S) (hB : Below w.heap.size w w') : RDisk B w' c v S :=
  ⟨h.blk.below hB h.blk.lt, own_below h.row hB (Nat.le_refl _), h.apart⟩

/-- Bytes are read as before where what changed lies apart (no bytes are read anywhere). -/
theorem BsAt.chg2 {S : Nat → Prop} {w w' : World} {p : Option Addr} {len cap : Nat} {l : List UInt8} (h : BsAt w p len cap l) (hc : Chg S w w') (hp : ∀ a, p = some a → l ≠ [] → ¬ S a.block) : BsAt w' p len cap l := by
  by_cases hl : l = []
  · subst hl
    refine ⟨h.same, h.le, h.small, ?_⟩
    rcases h.place with h1 | h1 | ⟨g, off, rfl, -, -⟩
    · exact .inl h1
    · exact .inr (.inl h1)
    · exact .inr (.inl ⟨rfl, by simp⟩)
  · exact h.chg hc fun a ha => hp a ha hl
theorem dropP {p : Option Addr} {cap n : Nat} {P : Nat → Prop} (h : ∀ a, p = some a → P a.block) : ∀ a, (if cap = n then p else p.map (·.add n)) = some a → P a.block := by
  intro a ha
  split at ha
  · exact h a ha
  · cases p with
    | none => cases ha
    | some q =>
      simp only [Option.map_some, Option.some.injEq] at ha
      rw [← ha]
      have : (q.add n).block = q.block := by unfold Addr.add; split <;> rfl
      rw [this]; exact h q rfl
theorem bs_range {w : World} {p : Option Addr} {len cap lo hi : Nat} {l : List UInt8} (h : BsAt w p len cap l) (h1 : lo ≤ hi) (h2 : hi ≤ l.length) : BsAt w (if cap = lo then p else p.map (·.add lo)) (hi - lo) (cap - lo) ((l.drop lo).take (hi - lo)) := by
  have ht := bs_take (n := hi) h h2
  have hd := bs_drop (n := lo) ht (by rw [List.length_take]; omega)
  rw [List.drop_take] at hd
  exact hd

set_option maxRecDepth 100000 in
set_option maxHeartbeats 6400000 in
theorem rvSave_main {B : Nat} {w : World} {c : Nat} {v : Value} {S : DS} (fr g : Nat) {p : Option Addr} {cap : Nat} {b : List UInt8} (h : RDisk B w c v S) (hok : DSOk S) (hwr : S.wr ≤ 900000) (hb : BsAt w p b.length cap b) (hpf : ∀ x, p = some x → b ≠ [] → ¬ foot c v x.block)
    (hg : g ≤ 2147483647) (hn : blkN b.length ≤ 255) (hfr : fr ≤ 100000) :
    Calls Try.prog 13 #[ptrV c, .int .i64 (fr : Int), .int .i64 (g : Int), .slice p b.length cap] w fun e w' => e = .returned (.int .i64 (saveE S fr g b)) ∧ RDisk B w' c v (saveD S fr g b) ∧ Chg (foot c v) w w' := by
  have hsz := blk_size hn
  have HBk := Lib.hid (fun V => rvBlocks_len b.length V (by omega))
  have hfo := foot_lt h
  have HFl := Lib.hid (rvFilled_any p b.length cap b w hb (by omega))
  have eE : saveE S fr g b = (wrl S (planP (vAt fr g) g b)).1 := by unfold saveE; rw [if_neg (by omega), if_neg (by omega), Int.toNat_natCast]
  have eD : saveD S fr g b = (wrl S (planP (vAt fr g) g b)).2 := by unfold saveD; rw [if_neg (by omega), Int.toNat_natCast]
  have HE := Lib.hid (And.intro eE eD)
  have hav : vAt fr g = fr + 256 * (g % 2) := rfl
  have HRd := Lib.hid h
  have HOk := Lib.hid hok
  have HBs := Lib.hid hb
  have HPf := Lib.hid hpf
  have HFo := Lib.hid hfo
  have hl9 : b.length ≤ 9223372036854775807 := by omega
  have d1 : decide ((g : Int) < 0) = false := by simp
  have d2 : decide ((2147483647 : Int) < (g : Int)) = false := by simp; omega
  have d3 : decide ((255 : Int) < ((blkN b.length : Nat) : Int)) = false := by simp; omega
  have hfw : IntKind.i64.wrap ((fr : Int) + 256) = (fr : Int) + 256 := IntWalk.i64_in _ (by omega)
  clear h hok hb hpf eE eD hfo
  generalize hN : blkN b.length = n at *
  have HNn := Lib.hid hN
  clear hN
  unfold ptrV
  go_enter Try.func13, Try.ntmps13
  go_wp2_with fail
  refine (HBk.out _).mono ?_
  rintro e w0 ⟨rfl, rfl⟩
  go_upto_region 6 with fail
  obtain ⟨a, ha⟩ : ∃ a, a = vAt fr g := ⟨_, rfl⟩
  have HAa := Lib.hid ha
  rw [hav] at ha
  go_upto_if 26 with fail
  go_cut [9] (fun s wx => s = .int .i64 (a : Int) ∧ wx = w)
  case first =>
    rcases Nat.mod_two_eq_zero_or_one g with h2 | h2
    · have q : ((g : Int) % 2 == 1) = false := by simp; omega
      have E := Lib.hid (show (fr : Int) = (a : Int) by omega)
      clear ha h2 hav
      go_wp2_with fail
      go_meet
      exact ⟨by rw [E.out], rfl⟩
    · have q : ((g : Int) % 2 == 1) = true := by simp; omega
      have E := Lib.hid (show (fr : Int) + 256 = (a : Int) by omega)
      clear ha h2 hav
      go_wp2_with fail
      go_meet
      exact ⟨by rw [E.out], rfl⟩
  case rest =>
  obtain ⟨rfl, rfl⟩ := hcut
  have ha9 : a ≤ 200000 := by omega
  rw [← HAa.out] at HE
  clear ha hav HAa
  go_wp2_with fail
  refine HFl.out.mono ?_
  rintro e w1 ⟨pf, cf, rfl, hrow, hB1⟩
  obtain ⟨qf, df, ef, hbf⟩ := BsAt.ofRow hrow
  rw [Value.slice.injEq] at ef
  obtain ⟨rfl, -, rfl⟩ := ef
  have hapf : ∀ x, pf = some x → ¬ foot c v x.block := fun x hx hf => by
    subst hx
    have := (hrow.lt x.block rfl).1
    have := HFo.out _ hf
    omega
  have HAp := Lib.hid hapf
  have HF1 := Lib.hid hbf
  have HR1 := Lib.hid (HRd.out.below hB1)
  have HB1 := Lib.hid hB1
  have HBs1 := Lib.hid (HBs.out.below hB1 (Nat.le_refl _))
  have hfl : (fillL b).length = 128 * n := by rw [fillL_length, HNn.out]
  have hcf := hbf.le
  clear hbf hB1 hrow hapf HFl
  go_wp2_with fail
  have hle : 128 * n ≤ cf := by rw [← hfl]; exact hcf
  go_loopw [11] (fun i wr => ∃ (k : Nat) (T : DS), k ≤ n ∧ i = .int .i64 k ∧ wrl S (bodyP a b k) = (0, T) ∧ DSOk T ∧ T.wr ≤ S.wr + k ∧ RDisk B wr c v T ∧ Chg (foot c v) w1 wr) (fun i _ => n - (intOf i).toNat)
  case atStart => exact ⟨0, S, Nat.zero_le _, rfl, rfl, HOk.out, by omega, HR1.out, Chg.refl _ _⟩
  case round =>
    obtain ⟨k, T, hk, rfl, hP, hokT, hwT, hRT, hC⟩ := hrel
    have HP := Lib.hid hP
    have HOT := Lib.hid hokT
    have HRT := Lib.hid hRT
    have HC := Lib.hid hC
    clear hP hokT hRT hC
    by_cases hlt : k < n
    · have hlt2 : k < blkN b.length := by rw [HNn.out]; exact hlt
      have HK2 := Lib.hid hlt2
      have m1 : IntKind.i64.wrap (128 * (k : Int)) = 128 * (k : Int) := IntWalk.i64_in _ (by omega)
      have m2 : IntKind.i64.wrap (128 * (k : Int) + 128) = 128 * (k : Int) + 128 := IntWalk.i64_in _ (by omega)
      have m3 : IntKind.i64.wrap ((a : Int) + 1) = (a : Int) + 1 := IntWalk.i64_in _ (by omega)
      have m4 : IntKind.i64.wrap ((a : Int) + 1 + (k : Int)) = (a : Int) + 1 + (k : Int) := IntWalk.i64_in _ (by omega)
      have u1 := fun (V : World) => run_range (w := V) (p := pf) (len := 128 * n) (cap := cf) (lo := 128 * k) (hi := 128 * k + 128) (x := 128 * (k : Int)) (y := 128 * (k : Int) + 128) (by omega) (by omega) (by omega) (by omega)
      have hsub := bs_range (lo := 128 * k) (hi := 128 * k + 128) (HF1.out.chg HC.out HAp.out) (by omega) (by rw [hfl]; omega)
      have hsubP := dropP (cap := cf) (n := 128 * k) (P := fun k => ¬ foot c v k) HAp.out
      rw [show 128 * k + 128 - 128 * k = 128 by omega] at u1 hsub
      have hch : ((fillL b).drop (128 * k)).take 128 = chunkL b k := rfl
      rw [hch] at hsub
      have hwr := rdWrite_any ((a + 1 + k : Nat) : Int) HRT.out HOT.out (by omega) hsub hsubP
      rw [show ((a + 1 + k : Nat) : Int) = (a : Int) + 1 + (k : Int) by omega] at hwr
      have HWr := Lib.hid hwr
      have HEi := Lib.hid (show ((a + 1 + k : Nat) : Int) = (a : Int) + 1 + (k : Int) by omega)
      have hw1 := wr_one T ((a : Int) + 1 + (k : Int)) (chunkL b k)
      have hx := Lib.hid hlt
      clear hsub hsubP hch hwr hlt hlt2
      generalize (if cf = 128 * k then pf else pf.map (·.add (128 * k))) = pk at *
      unfold ptrV at *
      go_wp2_with fail
      refine (HBk.out _).mono ?_
      rintro e w2 ⟨rfl, rfl⟩
      go_wp2_with fail
      refine HWr.out.mono ?_
      rintro e w3 ⟨rfl, hR3, hC3⟩
      have HR3 := Lib.hid hR3
      have HC3 := Lib.hid (HC.out.trans hC3)
      clear hR3 hC3 HWr m1 m2 m3 m4 u1
      by_cases he : writeE T ((a : Int) + 1 + (k : Int)) (chunkL b k) = 0
      · have hmore := wrl_more HP.out (by rw [HEi.out]; exact he)
        rw [HEi.out] at hmore
        have HM := Lib.hid hmore
        rw [he]
        clear he hmore
        go_wp2_with fail
        go_roundw
        case rel => exact ⟨k + 1, _, by have := hx.out; omega, by go_num, HM.out, HOT.out.write _ _, by omega, HR3.out, HC3.out⟩
        case measure => have := hx.out; simp [intOf]; omega
      · have hstop := wrl_stop (g := g) HK2.out HP.out (by rw [HEi.out]; exact he)
        rw [HEi.out] at hstop
        have HSt := Lib.hid hstop
        have d5 : (writeE T ((a : Int) + 1 + (k : Int)) (chunkL b k) == 0) = false := by simpa using he
        clear he hstop
        generalize hZ : writeE T ((a : Int) + 1 + (k : Int)) (chunkL b k) = z at *
        have HZ := Lib.hid hZ
        clear hZ
        go_wp2_with fail
        go_ret
        rw [HE.out.1, HE.out.2, HSt.out]
        exact ⟨rfl, HR3.out, (Chg.ofBelow HB1.out).trans HC3.out⟩
    · obtain rfl : k = n := by omega
      have hP := HP.out
      rw [← HNn.out] at hP
      have hend := wrl_end (g := g) hP
      have HEn := Lib.hid hend
      have hbr := HBs1.out.chg2 HC.out HPf.out
      have HHd := Lib.hid (rvHead_any g p b.length cap b wr hbr hg (by rw [HNn.out]; exact hn))
      clear hP hend hbr
      go_wp2_with fail
      refine (HBk.out _).mono ?_
      rintro e w2 ⟨rfl, rfl⟩
      go_wp2_with fail
      refine HHd.out.mono ?_
      rintro e w3 ⟨q3, c3, rfl, hr3, hB3⟩
      have hlen := vheadL_length g b
      have hb3 : BsAt w3 q3 128 c3 (vheadL g b) := by
        rw [← hlen] at hr3
        obtain ⟨q4, c4, e4, h4⟩ := BsAt.ofRow hr3
        rw [Value.slice.injEq] at e4
        obtain ⟨rfl, -, rfl⟩ := e4
        rw [hlen] at h4; exact h4
      have hq3 : ∀ x, q3 = some x → ¬ foot c v x.block := fun x hx hf => by
        subst hx
        have := (hr3.lt x.block rfl).1
        have := foot_lt HRT.out _ hf
        omega
      have HWr := Lib.hid (rdWrite_any (a : Int) (HRT.out.below hB3) HOT.out (by omega) hb3 hq3)
      have HB3 := Lib.hid hB3
      clear hr3 hB3 hb3 hq3 HHd hlen
      unfold ptrV at *
      go_wp2_with fail
      refine HWr.out.mono ?_
      rintro e w4 ⟨rfl, hR4, hC4⟩
      have HR4 := Lib.hid hR4
      have HC4 := Lib.hid hC4
      clear hR4 hC4 HWr
      go_wp2_with fail
      go_ret
      rw [HE.out.1, HE.out.2, HEn.out]
      exact ⟨rfl, HR4.out, ((Chg.ofBelow HB1.out).trans HC.out).trans ((Chg.ofBelow HB3.out).trans HC4.out)⟩
set_option maxRecDepth 100000 in
set_option maxHeartbeats 3200000 in
theorem rvSave_any {B : Nat} {w : World} {c : Nat} {v : Value} {S : DS} (fr : Nat) (gen : Int) {p : Option Addr} {len cap : Nat} {b : List UInt8} (h : RDisk B w c v S) (hok : DSOk S) (hwr : S.wr ≤ 900000) (hb : BsAt w p len cap b) (hl : b.length ≤ 100000) (hpf : ∀ x, p = some x → b ≠ [] → ¬ foot c v x.block) (hfr : fr ≤ 100000) :
    Calls Try.prog 13 #[ptrV c, .int .i64 (fr : Int), .int .i64 gen, .slice p len cap] w fun e w' => e = .returned (.int .i64 (saveE S fr gen b)) ∧ RDisk B w' c v (saveD S fr gen b) ∧ Chg (foot c v) w w' := by
  have hsame := hb.same
  subst hsame
  by_cases hg : gen < 0 ∨ 2147483647 < gen
  · have HE := Lib.hid (show saveE S fr gen b = 8 ∧ saveD S fr gen b = S from ⟨by unfold saveE; rw [if_pos hg], by unfold saveD; rw [if_pos (.inl hg)]⟩)
    have HR := Lib.hid h
    have hc : gen < 0 ∨ (¬ gen < 0 ∧ 2147483647 < gen) := by omega
    clear h hok hwr hb hl hpf hg
    generalize b.length = n at *
    unfold ptrV
    rcases hc with h1 | ⟨h1, h2⟩
    · have d1 : decide (gen < 0) = true := by simpa using h1
      clear h1
      go_enter Try.func13, Try.ntmps13
      go_wp2_with fail
      go_ret
      exact ⟨by rw [HE.out.1]; rfl, by rw [HE.out.2]; exact HR.out, Chg.refl _ _⟩
    · have d1 : decide (gen < 0) = false := by simpa using h1
      have d2 : decide (2147483647 < gen) = true := by simpa using h2
      clear h1 h2
      go_enter Try.func13, Try.ntmps13
      go_wp2_with fail
      go_ret
      exact ⟨by rw [HE.out.1]; rfl, by rw [HE.out.2]; exact HR.out, Chg.refl _ _⟩
  · obtain ⟨g, rfl⟩ := Int.eq_ofNat_of_zero_le (show 0 ≤ gen by omega)
    by_cases hn : 255 < blkN b.length
    · have HE := Lib.hid (show saveE S fr g b = 12 ∧ saveD S fr g b = S from ⟨by unfold saveE; rw [if_neg hg, if_pos hn], by unfold saveD; rw [if_pos (.inr hn)]⟩)
      have HR := Lib.hid h
      have HBk := Lib.hid (fun V => rvBlocks_len b.length V (by omega))
      have d1 : decide ((g : Int) < 0) = false := by simp
      have d2 : decide ((2147483647 : Int) < (g : Int)) = false := by simp; omega
      have d3 : decide ((255 : Int) < ((blkN b.length : Nat) : Int)) = true := by simp; omega
      have hl9 : b.length ≤ 9223372036854775807 := by omega
      clear h hok hwr hb hl hpf hg hn
      generalize b.length = n at *
      generalize blkN n = N at *
      unfold ptrV
      go_enter Try.func13, Try.ntmps13
      go_wp2_with fail
      refine (HBk.out _).mono ?_
      rintro e w2 ⟨rfl, rfl⟩
      go_wp2_with fail
      go_ret
      exact ⟨by rw [HE.out.1]; rfl, by rw [HE.out.2]; exact HR.out, Chg.refl _ _⟩
    · exact rvSave_main fr g h hok hwr hb hpf (by omega) (by omega) hfr
end Go.Proofs.Ytbmcajhknohhdaa

/-! VltF -/
namespace Go.Proofs.Ytbmcajhknohhdaa
open Go.RowKit

def HasIs (S : DS) (a odd : Nat) (w : World) (e : Ending) (w' : World) : Prop := ∃ g p n c ok, e = .returned (.tuple #[.int .i64 g, .slice p n c, .bool ok]) ∧ Below w.heap.size w w' ∧
  match hasV S a odd with
  | some x => ok = true ∧ g = (x.1 : Int) ∧ n = x.2.length ∧ BsAt w' p n c x.2
  | none => ok = false
theorem hasIs_no {S : DS} {a odd : Nat} {w w' : World} {e : Ending} (h : hasV S a odd = none) (g : Int) (p : Option Addr) (n c : Nat) (he : e = .returned (.tuple #[.int .i64 g, .slice p n c, .bool false])) (hB : Below w.heap.size w w') : HasIs S a odd w e w' :=
  ⟨g, p, n, c, false, he, hB, by rw [h]⟩
theorem results_tmp3v {fn : Func} {t u v : Tmp} (h : fn.results = #[.tmp t, .tmp u, .tmp v]) (tmps : Array Value) (P : Program) (w : World) :
    (results fn tmps).run P w = .ok (.tuple #[tmps.getD t undef, tmps.getD u undef, tmps.getD v undef]) w := by
  simp [results, h]
theorem readL_on {S : DS} {i : Nat} (hi : i < S.len) (ho : S.off = false) : readL S (i : Int) = blockL S i ∧ readE S (i : Int) = 0 := by
  have hh : hasD S (i : Int) = true := by rw [hasD_iff]; omega
  have he : readE S (i : Int) = 0 := by unfold readE; rw [if_neg (by rw [hh]; simp), if_neg (by rw [ho]; simp)]
  exact ⟨by unfold readL; rw [if_pos he]; rfl, he⟩
theorem blockL_len {S : DS} (ok : DSOk S) {i : Nat} (hi : i < S.len) : (blockL S i).length = 128 := by
  have := ok.len
  unfold blockL; rw [List.length_take, List.length_drop]; omega
theorem fr_pay_le (kd : UInt8) (t : List UInt8) : (frR kd t).pay.length ≤ t.length := by
  unfold frR; split
  · show (frPay t).length ≤ _; unfold frPay; rw [List.length_take, List.length_drop]; omega
  · simp
theorem fr_small {kd : UInt8} {t : List UInt8} (h : (frR kd t).e = 0) : (frR kd t).gen ≤ 2147483647 := by
  have h1 := (frW_frR h).1
  unfold frWE at h1
  split at h1
  · cases h1
  · omega
theorem fr_seq0 (kd : UInt8) (t : List UInt8) : 0 ≤ (frR kd t).seq := by
  unfold frR; split
  · show (0 : Int) ≤ (frSeq t : Int); omega
  · exact Int.le_refl _
theorem row_new {w V w' : World} {q : Option Addr} {c n : Nat} {l : List UInt8} (hl : l.length = n) (hr : w'.ownsRow V.heap.size 5 1 (.slice q n c) n (bvs l)) (hs : w.heap.size ≤ V.heap.size) : BsNew w l (.slice q n c) w' := by
  subst hl
  obtain ⟨p, d, e, hb⟩ := BsAt.ofRow hr
  rw [Value.slice.injEq] at e
  obtain ⟨rfl, -, rfl⟩ := e
  exact ⟨q, _, c, rfl, hb, fun a ha => by
    subst ha
    have := hr.lt a.block rfl
    exact ⟨Nat.le_trans hs this.1, this.2⟩⟩
set_option maxRecDepth 100000 in
set_option maxHeartbeats 12800000 in
theorem rvHas_any {B : Nat} {w : World} {c : Nat} {v : Value} {S : DS} (a odd : Nat) (h : RDisk B w c v S) (hok : DSOk S) (ho : S.off = false) (hf : a + 256 ≤ S.len) (hodd : odd ≤ 1) :
    Calls Try.prog 38 #[ptrV c, .int .i64 (a : Int), .int .i64 (odd : Int)] w (HasIs S a odd w) := by
  obtain ⟨hr1, hr2⟩ := readL_on (i := a) (by omega) ho
  have hrd := rdRead_any (a : Int) h hok
  have hbl := blockL_len hok (i := a) (by omega)
  rw [hr1, hr2, hbl] at hrd
  have HRead := Lib.hid hrd
  have HRd := Lib.hid h
  have HOk := Lib.hid hok
  have HBl := Lib.hid hbl
  have hpl := fr_pay_le 86 (blockL S a)
  rw [hbl] at hpl
  have hgs := @fr_small 86 (blockL S a)
  have hg0 := frR_gen0 86 (blockL S a)
  have hs0 := fr_seq0 86 (blockL S a)
  have few := hok.few
  clear h hok ho hr1 hr2 hrd hbl
  unfold ptrV at *
  by_cases hc : (frR 86 (blockL S a)).e = 0 ∧ (frR 86 (blockL S a)).gen % 2 = odd ∧ (frR 86 (blockL S a)).pay.length = 8 ∧ (frR 86 (blockL S a)).seq ≤ 255
  case neg =>
    have HNo := Lib.hid (show hasV S a odd = none by unfold hasV; rw [if_neg (fun h2 => hc h2.1)])
    have HRf := Lib.hid (fun (q : Option Addr) (n c : Nat) (V : World) (hV : BsAt V q n c (blockL S a)) => rfRead_any 86 q n c (blockL S a) V hV)
    have hpl9 : (frR 86 (blockL S a)).pay.length ≤ 9223372036854775807 := by omega
    clear HRd HBl
    generalize frR 86 (blockL S a) = r at *
    obtain ⟨rg, rs, rp, re⟩ := r
    simp only at hc hpl hgs hg0 hs0 hpl9
    obtain ⟨rg, rfl⟩ := Int.eq_ofNat_of_zero_le hg0
    have hcs : (re ≠ 0) ∨ (re = 0 ∧ (rg : Int) % 2 ≠ odd) ∨ (re = 0 ∧ (rg : Int) % 2 = odd ∧ rp.length ≠ 8) ∨ (re = 0 ∧ (rg : Int) % 2 = odd ∧ rp.length = 8 ∧ 255 < rs) := by
      by_cases h1 : re = 0
      · by_cases h2 : (rg : Int) % 2 = odd
        · by_cases h3 : rp.length = 8
          · refine .inr (.inr (.inr ⟨h1, h2, h3, ?_⟩))
            have : ¬ rs ≤ 255 := fun h4 => hc ⟨h1, h2, h3, h4⟩
            omega
          · exact .inr (.inr (.inl ⟨h1, h2, h3⟩))
        · exact .inr (.inl ⟨h1, h2⟩)
      · exact .inl h1
    have HCs := Lib.hid hcs
    clear hc hcs hgs hg0 hs0 hpl
    generalize hL : rp.length = L at *
    clear hL
    go_enter Try.func38, Try.ntmps38
    go_wp2_with fail
    refine HRead.out.mono ?_
    rintro e w1 ⟨p1, c1, rfl, hb1, hB1⟩
    have HB1 := Lib.hid hB1
    have HRf1 := Lib.hid (HRf.out p1 128 c1 w1 hb1)
    clear hb1 hB1 HRead HRf
    go_wp2_with fail
    refine HRf1.out.mono ?_
    rintro e w2 ⟨p2, c2, rfl, hb2, hB2⟩
    have HB2 := Lib.hid (HB1.out.trans (hB2.mono HB1.out.size))
    clear hb2 hB2 HRf1 HB1
    rcases HCs.out with h1 | ⟨h1, h2⟩ | ⟨h1, h2, h3⟩ | ⟨h1, h2, h3, h4⟩
    · have d1 : (re == 0) = false := by simpa using h1
      have d0 : (re != 0) = true := by simpa using h1
      clear HCs
      go_upto_region 3 with fail
      go_wp2_with fail
      refine bodyPost_ret (results_tmp3v rfl _ _ _) rfl ?_
      exact hasIs_no HNo.out 0 none 0 0 rfl HB2.out
    · have d2 : ((rg : Int) % 2 == (odd : Int)) = false := by simpa using h2
      have d2' : ((rg : Int) % 2 != (odd : Int)) = true := by simpa using h2
      subst h1
      clear HCs h2
      go_upto_region 3 with fail
      go_wp2_with fail
      refine bodyPost_ret (results_tmp3v rfl _ _ _) rfl ?_
      exact hasIs_no HNo.out 0 none 0 0 rfl HB2.out
    · have d2 : ((rg : Int) % 2 == (odd : Int)) = true := by simpa using h2
      have d3 : ((L : Int) == 8) = false := by simp; omega
      have d2' : ((rg : Int) % 2 != (odd : Int)) = false := by simpa using h2
      have d3' : ((L : Int) != 8) = true := by simp; omega
      subst h1
      clear HCs h2 h3
      go_upto_region 3 with fail
      go_wp2_with fail
      refine bodyPost_ret (results_tmp3v rfl _ _ _) rfl ?_
      exact hasIs_no HNo.out 0 none 0 0 rfl HB2.out
    · have d2 : ((rg : Int) % 2 == (odd : Int)) = true := by simpa using h2
      have d3 : ((L : Int) == 8) = true := by simp; omega
      have d2' : ((rg : Int) % 2 != (odd : Int)) = false := by simpa using h2
      have d3' : ((L : Int) != 8) = false := by simp; omega
      have d4 : decide (255 < rs) = true := by simpa using h4
      subst h1
      clear HCs h2 h3 h4
      go_upto_region 3 with fail
      go_wp2_with fail
      refine bodyPost_ret (results_tmp3v rfl _ _ _) rfl ?_
      exact hasIs_no HNo.out 0 none 0 0 rfl HB2.out
  case pos =>
  obtain ⟨hre, hrg, hrp, hrs⟩ := hc
  obtain ⟨g, hgg⟩ := Int.eq_ofNat_of_zero_le hg0
  obtain ⟨sq, hss⟩ := Int.eq_ofNat_of_zero_le hs0
  have hgle : g ≤ 2147483647 := by have := hgs hre; omega
  have hsle : sq ≤ 255 := by omega
  obtain ⟨P, hP⟩ : ∃ P, P = (frR 86 (blockL S a)).pay := ⟨_, rfl⟩
  have HRf : Hid (∀ (q : Option Addr) (n c : Nat) (V : World), BsAt V q n c (blockL S a) → Calls Try.prog 50 #[.int .u8 86, .slice q n c] V fun e w' => ∃ q2 c2, e = .returned (.tuple #[.int .i64 (g : Int), .int .i64 (sq : Int), .slice q2 8 c2, .int .i64 0]) ∧ BsAt w' q2 8 c2 P ∧ Below V.heap.size V w') := Lib.hid (fun q n c V hV => by
    have := rfRead_any 86 q n c (blockL S a) V hV
    rw [hrp, hre, hgg, hss, ← hP] at this
    exact this)
  have hPl : P.length = 8 := by rw [hP]; exact hrp
  have hsz : sizeA S a = valB (P.take 4) := by unfold sizeA; rw [hP]
  have hzl : valB (P.take 4) < 4294967296 := valB_small _ (by rw [List.length_take]; omega)
  have hfst : (frR 86 (blockL S a)).e = 0 ∧ (frR 86 (blockL S a)).gen % 2 = odd ∧ (frR 86 (blockL S a)).pay.length = 8 ∧ (frR 86 (blockL S a)).seq ≤ 255 := ⟨hre, hrg, hrp, hrs⟩
  have hhas : hasV S a odd = if sq = blkN (sizeA S a) ∧ fillL (segL S a (sizeA S a)) = segL S a (128 * blkN (sizeA S a)) ∧ vheadL g (segL S a (sizeA S a)) = blockL S a then some (g, segL S a (sizeA S a)) else none := by
    unfold hasV
    rw [hss, hgg] at *
    simp only [Int.toNat_natCast]
    by_cases hx : sq = blkN (sizeA S a) ∧ fillL (segL S a (sizeA S a)) = segL S a (128 * blkN (sizeA S a)) ∧ vheadL g (segL S a (sizeA S a)) = blockL S a
    · rw [if_pos hx, if_pos ⟨hfst, by omega, hx.2⟩]
    · rw [if_neg hx, if_neg (fun h2 => hx ⟨by omega, h2.2.2⟩)]
  have HHas := Lib.hid hhas
  have HSz := Lib.hid hsz
  have d2 : ((g : Int) % 2 == (odd : Int)) = true := by simp; omega
  have d2' : ((g : Int) % 2 != (odd : Int)) = false := by simp; omega
  have d4 : decide ((255 : Int) < (sq : Int)) = false := by simp; omega
  clear hhas hsz hfst hre hrg hrp hrs hgg hss hP hpl hgs hg0 hs0
  go_enter Try.func38, Try.ntmps38
  go_wp2_with fail
  refine HRead.out.mono ?_
  rintro e w1 ⟨p1, c1, rfl, hb1, hB1⟩
  have HB1 := Lib.hid hB1
  have HH1 := Lib.hid hb1
  have HRf1 := Lib.hid (HRf.out p1 128 c1 w1 hb1)
  clear hb1 hB1 HRead HRf
  go_wp2_with fail
  refine HRf1.out.mono ?_
  rintro e w2 ⟨p2, c2, rfl, hb2, hB2⟩
  have HB2 := Lib.hid (HB1.out.trans (hB2.mono HB1.out.size))
  have HH2 := Lib.hid (HH1.out.below hB2 (Nat.le_refl _))
  have HP2 := Lib.hid hb2
  clear hb2 hB2 HRf1 HB1 HH1
  go_upto_region 3 with fail
  go_wp2_with fail
  go_loop [15, 16] (fun z i => ∃ j : Nat, j ≤ 4 ∧ i = .int .i64 j ∧ z = .int .i64 (valB (P.take j) : Nat)) (fun _ i => 4 - (intOf i).toNat)
  case atStart => exact ⟨0, by omega, rfl, by simp [valB]⟩
  case round =>
    obtain ⟨j, hj, rfl, rfl⟩ := hrel
    by_cases hlt : j < 4
    · obtain ⟨g', off, rfl, hcell⟩ : ∃ g' off, p2 = some ⟨g', off, none⟩ ∧ w2.cell? ⟨g', off + j, none⟩ = some (.int .u8 ((P[j]'(by omega)).toNat : Int)) := by
        rcases HP2.out.place with ⟨-, h2⟩ | ⟨h2, -⟩ | ⟨g', off, rfl, -, h3⟩
        · have := HP2.out.le; omega
        · rw [h2] at hPl; simp at hPl
        · exact ⟨g', off, rfl, h3 j (by omega)⟩
      have hvs := valB_small (P.take j) (by simp; omega)
      have hx : (P[j]'(by omega)).toNat < 256 := (P[j]'(by omega)).toNat_lt
      have HN := Lib.hid (valB_take_succ P j (by omega))
      generalize valB (P.take j) = aa at *
      generalize (P[j]'(by omega)).toNat = x at *
      have m1 : IntKind.i64.wrap (256 * (aa : Int)) = 256 * (aa : Int) := IntWalk.i64_in _ (by omega)
      have m2 : IntKind.i64.wrap (x : Int) = (x : Int) := IntWalk.i64_in _ (by omega)
      have m3 : IntKind.i64.wrap (256 * (aa : Int) + (x : Int)) = 256 * (aa : Int) + (x : Int) := IntWalk.i64_in _ (by omega)
      have q1 : ¬ 8 ≤ j := by omega
      have q2 : (j : Int) < 8 := by omega
      go_wp2_with fail
      go_round
      case rel => exact ⟨j + 1, by omega, by go_num, by rw [HN.out]; simp⟩
      case measure => simp [intOf]; omega
    · obtain rfl : j = 4 := by omega
      rw [← HSz.out] at hzl ⊢
      have HBk := Lib.hid (rvBlocks_len (sizeA S a) w2 (by omega))
      generalize hz : sizeA S a = z at *
      clear hlt HSz HP2
      by_cases hbz : sq = blkN z
      case neg =>
        have HNo := Lib.hid (show hasV S a odd = none by rw [HHas.out, if_neg (fun h2 => hbz h2.1)])
        have d5 : (((blkN z : Nat) : Int) == (sq : Int)) = false := by simp; omega
        clear HHas HRd hbz
        generalize blkN z = bz at *
        go_wp2_with fail
        refine HBk.out.mono ?_
        rintro e w3 ⟨rfl, rfl⟩
        go_wp2_with fail
        refine bodyPost_ret (results_tmp3v rfl _ _ _) rfl ?_
        exact hasIs_no HNo.out 0 none 0 0 rfl HB2.out
      case pos =>
      have hzs : z ≤ 128 * sq := by rw [hbz]; exact blkN_le z
      rw [← hbz] at HBk HHas
      clear hbz
      have HR2 := Lib.hid (HRd.out.below HB2.out)
      obtain ⟨pv, cv, rfl⟩ := own_v HRd.out.row
      have hc0 : w2.cell? ⟨c, 0, none⟩ = some (.slice pv S.all.length cv) := HR2.out.blk.cell 0
      have hbA : BsAt w2 pv S.all.length cv S.all := by
        obtain ⟨q, c', e', hq⟩ := BsAt.ofRow HR2.out.row
        rw [Value.slice.injEq] at e'
        obtain ⟨rfl, -, rfl⟩ := e'
        exact hq
      have hAl := HOk.out.len
      have hcv := hbA.le
      have hseg := bs_range (lo := 128 * (a + 1)) (hi := 128 * (a + 1 + sq)) hbA (by omega) (by omega)
      rw [show 128 * (a + 1 + sq) - 128 * (a + 1) = 128 * sq by omega] at hseg
      have hsg : (S.all.drop (128 * (a + 1))).take (128 * sq) = segL S a (128 * sq) := rfl
      rw [hsg] at hseg
      have u1 := fun (V : World) => run_range (w := V) (p := pv) (len := S.all.length) (cap := cv) (lo := 128 * (a + 1)) (hi := 128 * (a + 1 + sq)) (x := 128 * ((a : Int) + 1)) (y := 128 * ((a : Int) + 1 + (sq : Int))) (by omega) (by omega) (by omega) (by omega)
      rw [show 128 * (a + 1 + sq) - 128 * (a + 1) = 128 * sq by omega] at u1
      have m1 : IntKind.i64.wrap ((a : Int) + 1) = (a : Int) + 1 := IntWalk.i64_in _ (by omega)
      have m2 : IntKind.i64.wrap (128 * ((a : Int) + 1)) = 128 * ((a : Int) + 1) := IntWalk.i64_in _ (by omega)
      have m3 : IntKind.i64.wrap ((a : Int) + 1 + (sq : Int)) = (a : Int) + 1 + (sq : Int) := IntWalk.i64_in _ (by omega)
      have m4 : IntKind.i64.wrap (128 * ((a : Int) + 1 + (sq : Int))) = 128 * ((a : Int) + 1 + (sq : Int)) := IntWalk.i64_in _ (by omega)
      generalize hps : (if cv = 128 * (a + 1) then pv else pv.map (·.add (128 * (a + 1)))) = ps at *
      have HPs := Lib.hid (show Option.map (fun x => x.add (128 * (a + 1))) pv = ps by rw [← hps, if_neg (by omega)])
      have hcs : z ≤ cv - 128 * (a + 1) := by have := hseg.le; omega
      have u2 := fun (V : World) => run_upto V ps (128 * sq) (cv - 128 * (a + 1)) z hcs
      have hsl : (segL S a (128 * sq)).length = 128 * sq := hseg.same.symm
      have hb0 := bs_take (n := z) hseg (by omega)
      rw [← seg_take S a hzs] at hb0
      have HSeg := Lib.hid hseg
      have HB0 := Lib.hid (hb0.below (belowNew w2 (.cells #[] 5)) (Nat.le_refl _))
      have hzl2 : (segL S a z).length = z := hb0.same.symm
      have hown : (w2.alloc (.cells #[] 5)).ownsRow w.heap.size 5 1 (.slice (some ⟨w2.heap.size, 0, none⟩) 0 0) ([] : List UInt8).length (bvs []) := World.ownsRow_lit w2 #[] 0 HB2.out.size (by decide) rfl
      have hq : ([] : List UInt8).length + (segL S a z).length ≤ 140737488355328 := by rw [hzl2]; simp; omega
      have HB2a := Lib.hid (HB2.out.alloc HB2.out.size (.cells #[] 5))
      have HHb := Lib.hid (HH2.out)
      have fewz : z ≤ 32640 := by omega
      have HBk5 := Lib.hid (show blkN z ≤ 255 by unfold blkN; omega)
      have d5 : ((sq : Int) == (sq : Int)) = true := by simp
      clear hps hbA hseg hsg hb0 hzl HH2
      go_wp2_with fail
      refine HBk.out.mono ?_
      rintro e w3 ⟨rfl, rfl⟩
      go_upto_region 13 with fail
      rw [HPs.out, show 128 * (a + 1 + sq) - 128 * (a + 1) = 128 * sq by omega]
      have tok1 : True := trivial
      go_upto_region 14 with (at_builtin; have _t := tok1; refine wpList_append_bytes rfl _ _ 31 rfl w.heap.size 5 Try.underlying31 infoU8 rfl hown rfl HB0.out hq HB2a.out.size ?_; intro p13 n13 c13 w13 hrow hg hn; have HR13 := Lib.hid hrow; have HG13 := Lib.hid hg; clear hrow hg hn hown tok1)
      rw [List.nil_append] at HR13
      have hg13 : Below w2.heap.size w2 w13 := (belowNew w2 _).grown HG13.out (by simp) (fun k hk => by cases hk; exact Nat.le_refl _)
      have HB13 := Lib.hid (HB2.out.trans (hg13.mono HB2.out.size))
      have HBlk := Lib.hid (HHb.out.below hg13 (Nat.le_refl _))
      have HSg := Lib.hid (HSeg.out.below hg13 (Nat.le_refl _))
      obtain ⟨q13, d13, e13, hb13⟩ := BsAt.ofRow HR13.out
      rw [Value.slice.injEq] at e13
      obtain ⟨rfl, rfl, rfl⟩ := e13
      have HBz := Lib.hid hb13
      clear hb13 hg13 HR13 HG13 HB0 HSeg hc0 u1 u2 m1 m2 m3 m4 HB2a hq HHb
      have HL1 := Lib.hid (lists_eq (fillL (segL S a z)) (segL S a (128 * sq)))
      have HL2 := Lib.hid (lists_eq (vheadL g (segL S a z)) (blockL S a))
      by_cases hx : fillL (segL S a z) = segL S a (128 * sq)
      · have HE1 := Lib.hid (show decide (fillL (segL S a z) = segL S a (128 * sq)) = true by simpa using hx)
        by_cases hy : vheadL g (segL S a z) = blockL S a
        · have HE2 := Lib.hid (show decide (vheadL g (segL S a z) = blockL S a) = true by simpa using hy)
          clear hx hy
          refine wp_region_F (fun V => Below w13.heap.size w13 V) [Fact.is (.int .i64 (g : Int)), Fact.is (.slice p13 (segL S a z).length c13), Fact.is (.slice p13 (segL S a z).length c13), bsFact w13 (fillL (segL S a z)), Fact.is (.string ⟨(fillL (segL S a z)).toArray⟩), Fact.is (.slice ps (128 * sq) (cv - 128 * (a + 1))), Fact.is (.string ⟨(segL S a (128 * sq)).toArray⟩), Fact.is (.bool true), Fact.is (.bool true), Fact.is (.int .i64 (g : Int)), Fact.is (.slice p13 (segL S a z).length c13), bsFact w13 (vheadL g (segL S a z)), Fact.is (.string ⟨(vheadL g (segL S a z)).toArray⟩), Fact.is (.slice p1 128 c1), Fact.is (.string ⟨(blockL S a).toArray⟩), Fact.is (.bool true), Fact.is (.bool true), Fact.is (.int .i64 (g : Int)), Fact.is (.slice p13 (segL S a z).length c13), Fact.is (.bool true)]
            (fun x => { tmps := #[.pointer (some ⟨c, 0, none⟩), .int .i64 (a : Int), .int .i64 (odd : Int), undef, undef, undef, x 17, x 18, x 19, .slice p1 128 c1, .int .i64 0, .int .i64 (g : Int), .int .i64 (sq : Int), .slice p2 8 c2, .int .i64 0, .int .i64 (z : Int), .int .i64 ((4 : Nat) : Int), .slice ps (128 * sq) (cv - 128 * (a + 1)), .slice p13 (segL S a z).length c13, .tuple #[.slice p1 128 c1, .int .i64 0], .pointer (some ⟨c, 0, none⟩), .int .i64 (a : Int), .tuple #[.slice p1 128 c1, .int .i64 0], .slice p1 128 c1, .int .i64 0, .tuple #[.int .i64 (g : Int), .int .i64 (sq : Int), .slice p2 8 c2, .int .i64 0], .slice p1 128 c1, .tuple #[.int .i64 (g : Int), .int .i64 (sq : Int), .slice p2 8 c2, .int .i64 0], .int .i64 (g : Int), .int .i64 (sq : Int), .slice p2 8 c2, .int .i64 0, .int .i64 0, .bool false, .bool false, .int .i64 (g : Int), .int .i64 ((g : Int) % 2), .int .i64 (odd : Int), .bool false, .bool false, .bool false, .slice p2 8 c2, .int .i64 8, .bool false, .bool false, .bool false, .int .i64 (sq : Int), .bool false, .bool false, .int .i64 4, .bool false, u51, u52, u53, u54, u55, u56, u57, u58, u59, u60, .int .i64 (z : Int), .int .i64 (sq : Int), .int .i64 (sq : Int), .bool false, .pointer (some ⟨c, 0, none⟩), .pointer (some ⟨c, 0, none⟩), .pointer (some ⟨c, 0, none⟩), .slice pv (128 * S.len) cv, .int .i64 (a : Int), .int .i64 ((a : Int) + 1), .int .i64 (128 * ((a : Int) + 1)), .int .i64 (a : Int), .int .i64 ((a : Int) + 1), .int .i64 (sq : Int), .int .i64 ((a : Int) + 1 + (sq : Int)), .int .i64 (128 * ((a : Int) + 1 + (sq : Int))), .slice ps (128 * sq) (cv - 128 * (a + 1)), .slice (some ⟨w2.heap.size, 0, none⟩) 0 0, .slice ps (128 * sq) (cv - 128 * (a + 1)), .int .i64 (z : Int), .slice ps z (cv - 128 * (a + 1)), .slice p13 (segL S a z).length c13, x 0, x 1, x 2, x 3, x 4, x 5, x 6, x 7, x 8, x 9, x 10, x 11, x 12, x 13, x 14, x 15, x 16], defers := [] }) (fun i => ([undef, undef, undef, undef, undef, undef, undef, undef, undef, undef, undef, undef, undef, undef, undef, undef, undef, .int .i64 0, .slice none 0 0, .bool false] : List Value).getD i undef) (by kernel_rfl) rfl rfl (by kernel_rfl) ((Below.refl _ _).drew) (fun u v hu hB => hu.trans (hB.mono hu.size)) ?_ ?_
          · refine ⟨⟨fun x v => rfl, fun x V hC hD => ?_⟩, ?_⟩
            · clear hD
              refine want_yes rfl ?_
              exact leads_value (v := .int .i64 (g : Int)) (by go_simp) ⟨Below.refl _ _, rfl⟩
            refine ⟨⟨fun x v => rfl, fun x V hC hD => ?_⟩, ?_⟩
            · clear hD
              refine want_yes rfl ?_
              exact leads_value (v := .slice p13 (segL S a z).length c13) (by go_simp) ⟨Below.refl _ _, rfl⟩
            refine ⟨⟨fun x v => rfl, fun x V hC hD => ?_⟩, ?_⟩
            · clear hD
              refine want_yes rfl ?_
              exact leads_value (v := .slice p13 (segL S a z).length c13) (by go_simp) ⟨Below.refl _ _, rfl⟩
            refine ⟨⟨fun x v => rfl, fun x V hC hD => ?_⟩, ?_⟩
            · have e2 : (x 2) = .slice p13 (segL S a z).length c13 := hD.1 rfl
              clear hD
              refine want_yes rfl ?_
              exact leads_enter2 (by go_simp) ((rvFilled_any _ _ _ _ V (HBz.out.below hC (Nat.le_refl _)) (by omega)).mono fun en w'' ⟨q, c', he, hr, hB⟩ => ⟨_, he, hB, row_new rfl hr hC.size⟩)
            refine ⟨⟨fun x v => rfl, fun x V hC hD => ?_⟩, ?_⟩
            · have e3 : BsNew w13 (fillL (segL S a z)) (x 3) V := hD.1 rfl
              clear hD
              refine want_yes rfl ?_
              obtain ⟨pp, nn, cc, hv, hbs, -⟩ := e3
              have q := run_string_bs (P := Try.prog) V 31 5 9 Try.underlying31 Try.underlying5 Try.underlying9 hbs
              exact leads_value (v := .string ⟨(fillL (segL S a z)).toArray⟩) (by go_simp) ⟨Below.refl _ _, rfl⟩
            refine ⟨⟨fun x v => rfl, fun x V hC hD => ?_⟩, ?_⟩
            · clear hD
              refine want_yes rfl ?_
              exact leads_value (v := .slice ps (128 * sq) (cv - 128 * (a + 1))) (by go_simp) ⟨Below.refl _ _, rfl⟩
            refine ⟨⟨fun x v => rfl, fun x V hC hD => ?_⟩, ?_⟩
            · have e5 : (x 5) = .slice ps (128 * sq) (cv - 128 * (a + 1)) := hD.1 rfl
              clear hD
              refine want_yes rfl ?_
              have q := run_string_bs (P := Try.prog) V 31 5 9 Try.underlying31 Try.underlying5 Try.underlying9 (HSg.out.below hC (Nat.le_refl _))
              exact leads_value (v := .string ⟨(segL S a (128 * sq)).toArray⟩) (by go_simp) ⟨Below.refl _ _, rfl⟩
            refine ⟨⟨fun x v => rfl, fun x V hC hD => ?_⟩, ?_⟩
            · have e4 : (x 4) = .string ⟨(fillL (segL S a z)).toArray⟩ := hD.1 rfl
              have e6 : (x 6) = .string ⟨(segL S a (128 * sq)).toArray⟩ := hD.2.1 rfl
              clear hD
              refine want_yes rfl ?_
              have q2 := HL1.out
              exact leads_value (v := .bool true) (by go_simp; exact of_decide_eq_true HE1.out) ⟨Below.refl _ _, rfl⟩
            refine ⟨⟨fun x v => rfl, fun x V hC hD => ?_⟩, ?_⟩
            · have e7 : (x 7) = .bool true := hD.1 rfl
              have e3 : BsNew w13 (fillL (segL S a z)) (x 3) V := hD.2.1 rfl
              clear hD
              refine want_yes rfl ?_
              exact leads_value (v := .bool true) (by go_simp) ⟨Below.refl _ _, rfl⟩
            refine ⟨⟨fun x v => rfl, fun x V hC hD => ?_⟩, ?_⟩
            · have e8 : (x 8) = .bool true := hD.1 rfl
              clear hD
              refine want_yes (by simp [Region.wanted, yielded, e8]) ?_
              exact leads_value (v := .int .i64 (g : Int)) (by go_simp) ⟨Below.refl _ _, rfl⟩
            refine ⟨⟨fun x v => rfl, fun x V hC hD => ?_⟩, ?_⟩
            · have e8 : (x 8) = .bool true := hD.1 rfl
              clear hD
              refine want_yes (by simp [Region.wanted, yielded, e8]) ?_
              exact leads_value (v := .slice p13 (segL S a z).length c13) (by go_simp) ⟨Below.refl _ _, rfl⟩
            refine ⟨⟨fun x v => rfl, fun x V hC hD => ?_⟩, ?_⟩
            · have e9 : (x 9) = .int .i64 (g : Int) := hD.1 rfl
              have e10 : (x 10) = .slice p13 (segL S a z).length c13 := hD.2.1 rfl
              have e8 : (x 8) = .bool true := hD.2.2.1 rfl
              clear hD
              refine want_yes (by simp [Region.wanted, yielded, e8]) ?_
              exact leads_enter2 (by go_simp) ((rvHead_any g _ _ _ _ V (HBz.out.below hC (Nat.le_refl _)) hgle (by rw [hzl2]; exact HBk5.out)).mono fun en w'' ⟨q, c', he, hr, hB⟩ => ⟨_, he, hB, row_new (vheadL_length g _) hr hC.size⟩)
            refine ⟨⟨fun x v => rfl, fun x V hC hD => ?_⟩, ?_⟩
            · have e11 : BsNew w13 (vheadL g (segL S a z)) (x 11) V := hD.1 rfl
              have e8 : (x 8) = .bool true := hD.2.1 rfl
              clear hD
              refine want_yes (by simp [Region.wanted, yielded, e8]) ?_
              obtain ⟨pp, nn, cc, hv, hbs, -⟩ := e11
              have q := run_string_bs (P := Try.prog) V 31 5 9 Try.underlying31 Try.underlying5 Try.underlying9 hbs
              exact leads_value (v := .string ⟨(vheadL g (segL S a z)).toArray⟩) (by go_simp) ⟨Below.refl _ _, rfl⟩
            refine ⟨⟨fun x v => rfl, fun x V hC hD => ?_⟩, ?_⟩
            · have e8 : (x 8) = .bool true := hD.1 rfl
              clear hD
              refine want_yes (by simp [Region.wanted, yielded, e8]) ?_
              exact leads_value (v := .slice p1 128 c1) (by go_simp) ⟨Below.refl _ _, rfl⟩
            refine ⟨⟨fun x v => rfl, fun x V hC hD => ?_⟩, ?_⟩
            · have e13 : (x 13) = .slice p1 128 c1 := hD.1 rfl
              have e8 : (x 8) = .bool true := hD.2.1 rfl
              clear hD
              refine want_yes (by simp [Region.wanted, yielded, e8]) ?_
              have q := run_string_bs (P := Try.prog) V 31 5 9 Try.underlying31 Try.underlying5 Try.underlying9 (HBlk.out.below hC (Nat.le_refl _))
              exact leads_value (v := .string ⟨(blockL S a).toArray⟩) (by go_simp) ⟨Below.refl _ _, rfl⟩
            refine ⟨⟨fun x v => rfl, fun x V hC hD => ?_⟩, ?_⟩
            · have e12 : (x 12) = .string ⟨(vheadL g (segL S a z)).toArray⟩ := hD.1 rfl
              have e14 : (x 14) = .string ⟨(blockL S a).toArray⟩ := hD.2.1 rfl
              have e8 : (x 8) = .bool true := hD.2.2.1 rfl
              clear hD
              refine want_yes (by simp [Region.wanted, yielded, e8]) ?_
              have q2 := HL2.out
              exact leads_value (v := .bool true) (by go_simp; exact of_decide_eq_true HE2.out) ⟨Below.refl _ _, rfl⟩
            refine ⟨⟨fun x v => rfl, fun x V hC hD => ?_⟩, ?_⟩
            · have e8 : (x 8) = .bool true := hD.1 rfl
              have e15 : (x 15) = .bool true := hD.2.1 rfl
              clear hD
              refine want_yes rfl ?_
              exact leads_value (v := .bool true) (by go_simp) ⟨Below.refl _ _, rfl⟩
            refine ⟨⟨fun x v => rfl, fun x V hC hD => ?_⟩, ?_⟩
            · have e0 : (x 0) = .int .i64 (g : Int) := hD.1 rfl
              have e11 : BsNew w13 (vheadL g (segL S a z)) (x 11) V := hD.2.1 rfl
              clear hD
              refine want_yes rfl ?_
              exact leads_value (v := .int .i64 (g : Int)) (by go_simp) ⟨Below.refl _ _, rfl⟩
            refine ⟨⟨fun x v => rfl, fun x V hC hD => ?_⟩, ?_⟩
            · have e1 : (x 1) = .slice p13 (segL S a z).length c13 := hD.1 rfl
              have e17 : (x 17) = .int .i64 (g : Int) := hD.2.1 rfl
              have e0 : (x 0) = .int .i64 (g : Int) := hD.2.2.1 rfl
              clear hD
              refine want_yes rfl ?_
              exact leads_value (v := .slice p13 (segL S a z).length c13) (by go_simp) ⟨Below.refl _ _, rfl⟩
            refine ⟨⟨fun x v => rfl, fun x V hC hD => ?_⟩, ?_⟩
            · have e16 : (x 16) = .bool true := hD.1 rfl
              have e18 : (x 18) = .slice p13 (segL S a z).length c13 := hD.2.1 rfl
              have e0 : (x 0) = .int .i64 (g : Int) := hD.2.2.1 rfl
              have e1 : (x 1) = .slice p13 (segL S a z).length c13 := hD.2.2.2.1 rfl
              have e2 : (x 2) = .slice p13 (segL S a z).length c13 := hD.2.2.2.2.1 rfl
              have e3 : BsNew w13 (fillL (segL S a z)) (x 3) V := hD.2.2.2.2.2.1 rfl
              have e4 : (x 4) = .string ⟨(fillL (segL S a z)).toArray⟩ := hD.2.2.2.2.2.2.1 rfl
              have e5 : (x 5) = .slice ps (128 * sq) (cv - 128 * (a + 1)) := hD.2.2.2.2.2.2.2.1 rfl
              have e6 : (x 6) = .string ⟨(segL S a (128 * sq)).toArray⟩ := hD.2.2.2.2.2.2.2.2.1 rfl
              have e7 : (x 7) = .bool true := hD.2.2.2.2.2.2.2.2.2.1 rfl
              have e8 : (x 8) = .bool true := hD.2.2.2.2.2.2.2.2.2.2.1 rfl
              have e9 : (x 9) = .int .i64 (g : Int) := hD.2.2.2.2.2.2.2.2.2.2.2.1 rfl
              have e10 : (x 10) = .slice p13 (segL S a z).length c13 := hD.2.2.2.2.2.2.2.2.2.2.2.2.1 rfl
              have e11 : BsNew w13 (vheadL g (segL S a z)) (x 11) V := hD.2.2.2.2.2.2.2.2.2.2.2.2.2.1 rfl
              have e12 : (x 12) = .string ⟨(vheadL g (segL S a z)).toArray⟩ := hD.2.2.2.2.2.2.2.2.2.2.2.2.2.2.1 rfl
              have e13 : (x 13) = .slice p1 128 c1 := hD.2.2.2.2.2.2.2.2.2.2.2.2.2.2.2.1 rfl
              have e14 : (x 14) = .string ⟨(blockL S a).toArray⟩ := hD.2.2.2.2.2.2.2.2.2.2.2.2.2.2.2.2.1 rfl
              have e15 : (x 15) = .bool true := hD.2.2.2.2.2.2.2.2.2.2.2.2.2.2.2.2.2.1 rfl
              have e17 : (x 17) = .int .i64 (g : Int) := hD.2.2.2.2.2.2.2.2.2.2.2.2.2.2.2.2.2.2.2.1 rfl
              clear hD
              refine want_yes rfl ?_
              exact leads_value (v := .bool true) (by go_simp) ⟨Below.refl _ _, rfl⟩
            trivial
          · intro x1 V hC hF
            have e17 : x1 17 = .int .i64 (g : Int) := hF 17 (by simp)
            have e18 : x1 18 = .slice p13 (segL S a z).length c13 := hF 18 (by simp)
            have e19 : x1 19 = .bool true := hF 19 (by simp)
            have HV := Lib.hid (show Below w13.heap.size w13 V from hC)
            clear hF hC
            rw [e17, e18, e19]
            clear e17 e18 e19
            go_wp2_with fail
            refine bodyPost_ret (results_tmp3v rfl _ _ _) rfl ?_
            exact ⟨g, p13, _, c13, true, rfl, HB13.out.trans (HV.out.mono HB13.out.size), by rw [HHas.out, if_pos ⟨by first | rfl | trivial, of_decide_eq_true HE1.out, of_decide_eq_true HE2.out⟩]; exact ⟨by simp, by simp, by simp, HBz.out.below HV.out (Nat.le_refl _)⟩⟩
        · have HE2 := Lib.hid (show decide (vheadL g (segL S a z) = blockL S a) = false by simpa using hy)
          clear hx hy
          refine wp_region_F (fun V => Below w13.heap.size w13 V) [Fact.is (.int .i64 (g : Int)), Fact.is (.slice p13 (segL S a z).length c13), Fact.is (.slice p13 (segL S a z).length c13), bsFact w13 (fillL (segL S a z)), Fact.is (.string ⟨(fillL (segL S a z)).toArray⟩), Fact.is (.slice ps (128 * sq) (cv - 128 * (a + 1))), Fact.is (.string ⟨(segL S a (128 * sq)).toArray⟩), Fact.is (.bool true), Fact.is (.bool true), Fact.is (.int .i64 (g : Int)), Fact.is (.slice p13 (segL S a z).length c13), bsFact w13 (vheadL g (segL S a z)), Fact.is (.string ⟨(vheadL g (segL S a z)).toArray⟩), Fact.is (.slice p1 128 c1), Fact.is (.string ⟨(blockL S a).toArray⟩), Fact.is (.bool false), Fact.is (.bool false), Fact.is (.int .i64 (g : Int)), Fact.is (.slice p13 (segL S a z).length c13), Fact.is (.bool false)]
            (fun x => { tmps := #[.pointer (some ⟨c, 0, none⟩), .int .i64 (a : Int), .int .i64 (odd : Int), undef, undef, undef, x 17, x 18, x 19, .slice p1 128 c1, .int .i64 0, .int .i64 (g : Int), .int .i64 (sq : Int), .slice p2 8 c2, .int .i64 0, .int .i64 (z : Int), .int .i64 ((4 : Nat) : Int), .slice ps (128 * sq) (cv - 128 * (a + 1)), .slice p13 (segL S a z).length c13, .tuple #[.slice p1 128 c1, .int .i64 0], .pointer (some ⟨c, 0, none⟩), .int .i64 (a : Int), .tuple #[.slice p1 128 c1, .int .i64 0], .slice p1 128 c1, .int .i64 0, .tuple #[.int .i64 (g : Int), .int .i64 (sq : Int), .slice p2 8 c2, .int .i64 0], .slice p1 128 c1, .tuple #[.int .i64 (g : Int), .int .i64 (sq : Int), .slice p2 8 c2, .int .i64 0], .int .i64 (g : Int), .int .i64 (sq : Int), .slice p2 8 c2, .int .i64 0, .int .i64 0, .bool false, .bool false, .int .i64 (g : Int), .int .i64 ((g : Int) % 2), .int .i64 (odd : Int), .bool false, .bool false, .bool false, .slice p2 8 c2, .int .i64 8, .bool false, .bool false, .bool false, .int .i64 (sq : Int), .bool false, .bool false, .int .i64 4, .bool false, u51, u52, u53, u54, u55, u56, u57, u58, u59, u60, .int .i64 (z : Int), .int .i64 (sq : Int), .int .i64 (sq : Int), .bool false, .pointer (some ⟨c, 0, none⟩), .pointer (some ⟨c, 0, none⟩), .pointer (some ⟨c, 0, none⟩), .slice pv (128 * S.len) cv, .int .i64 (a : Int), .int .i64 ((a : Int) + 1), .int .i64 (128 * ((a : Int) + 1)), .int .i64 (a : Int), .int .i64 ((a : Int) + 1), .int .i64 (sq : Int), .int .i64 ((a : Int) + 1 + (sq : Int)), .int .i64 (128 * ((a : Int) + 1 + (sq : Int))), .slice ps (128 * sq) (cv - 128 * (a + 1)), .slice (some ⟨w2.heap.size, 0, none⟩) 0 0, .slice ps (128 * sq) (cv - 128 * (a + 1)), .int .i64 (z : Int), .slice ps z (cv - 128 * (a + 1)), .slice p13 (segL S a z).length c13, x 0, x 1, x 2, x 3, x 4, x 5, x 6, x 7, x 8, x 9, x 10, x 11, x 12, x 13, x 14, x 15, x 16], defers := [] }) (fun i => ([undef, undef, undef, undef, undef, undef, undef, undef, undef, undef, undef, undef, undef, undef, undef, undef, undef, .int .i64 0, .slice none 0 0, .bool false] : List Value).getD i undef) (by kernel_rfl) rfl rfl (by kernel_rfl) ((Below.refl _ _).drew) (fun u v hu hB => hu.trans (hB.mono hu.size)) ?_ ?_
          · refine ⟨⟨fun x v => rfl, fun x V hC hD => ?_⟩, ?_⟩
            · clear hD
              refine want_yes rfl ?_
              exact leads_value (v := .int .i64 (g : Int)) (by go_simp) ⟨Below.refl _ _, rfl⟩
            refine ⟨⟨fun x v => rfl, fun x V hC hD => ?_⟩, ?_⟩
            · clear hD
              refine want_yes rfl ?_
              exact leads_value (v := .slice p13 (segL S a z).length c13) (by go_simp) ⟨Below.refl _ _, rfl⟩
            refine ⟨⟨fun x v => rfl, fun x V hC hD => ?_⟩, ?_⟩
            · clear hD
              refine want_yes rfl ?_
              exact leads_value (v := .slice p13 (segL S a z).length c13) (by go_simp) ⟨Below.refl _ _, rfl⟩
            refine ⟨⟨fun x v => rfl, fun x V hC hD => ?_⟩, ?_⟩
            · have e2 : (x 2) = .slice p13 (segL S a z).length c13 := hD.1 rfl
              clear hD
              refine want_yes rfl ?_
              exact leads_enter2 (by go_simp) ((rvFilled_any _ _ _ _ V (HBz.out.below hC (Nat.le_refl _)) (by omega)).mono fun en w'' ⟨q, c', he, hr, hB⟩ => ⟨_, he, hB, row_new rfl hr hC.size⟩)
            refine ⟨⟨fun x v => rfl, fun x V hC hD => ?_⟩, ?_⟩
            · have e3 : BsNew w13 (fillL (segL S a z)) (x 3) V := hD.1 rfl
              clear hD
              refine want_yes rfl ?_
              obtain ⟨pp, nn, cc, hv, hbs, -⟩ := e3
              have q := run_string_bs (P := Try.prog) V 31 5 9 Try.underlying31 Try.underlying5 Try.underlying9 hbs
              exact leads_value (v := .string ⟨(fillL (segL S a z)).toArray⟩) (by go_simp) ⟨Below.refl _ _, rfl⟩
            refine ⟨⟨fun x v => rfl, fun x V hC hD => ?_⟩, ?_⟩
            · clear hD
              refine want_yes rfl ?_
              exact leads_value (v := .slice ps (128 * sq) (cv - 128 * (a + 1))) (by go_simp) ⟨Below.refl _ _, rfl⟩
            refine ⟨⟨fun x v => rfl, fun x V hC hD => ?_⟩, ?_⟩
            · have e5 : (x 5) = .slice ps (128 * sq) (cv - 128 * (a + 1)) := hD.1 rfl
              clear hD
              refine want_yes rfl ?_
              have q := run_string_bs (P := Try.prog) V 31 5 9 Try.underlying31 Try.underlying5 Try.underlying9 (HSg.out.below hC (Nat.le_refl _))
              exact leads_value (v := .string ⟨(segL S a (128 * sq)).toArray⟩) (by go_simp) ⟨Below.refl _ _, rfl⟩
            refine ⟨⟨fun x v => rfl, fun x V hC hD => ?_⟩, ?_⟩
            · have e4 : (x 4) = .string ⟨(fillL (segL S a z)).toArray⟩ := hD.1 rfl
              have e6 : (x 6) = .string ⟨(segL S a (128 * sq)).toArray⟩ := hD.2.1 rfl
              clear hD
              refine want_yes rfl ?_
              have q2 := HL1.out
              exact leads_value (v := .bool true) (by go_simp; exact of_decide_eq_true HE1.out) ⟨Below.refl _ _, rfl⟩
            refine ⟨⟨fun x v => rfl, fun x V hC hD => ?_⟩, ?_⟩
            · have e7 : (x 7) = .bool true := hD.1 rfl
              have e3 : BsNew w13 (fillL (segL S a z)) (x 3) V := hD.2.1 rfl
              clear hD
              refine want_yes rfl ?_
              exact leads_value (v := .bool true) (by go_simp) ⟨Below.refl _ _, rfl⟩
            refine ⟨⟨fun x v => rfl, fun x V hC hD => ?_⟩, ?_⟩
            · have e8 : (x 8) = .bool true := hD.1 rfl
              clear hD
              refine want_yes (by simp [Region.wanted, yielded, e8]) ?_
              exact leads_value (v := .int .i64 (g : Int)) (by go_simp) ⟨Below.refl _ _, rfl⟩
            refine ⟨⟨fun x v => rfl, fun x V hC hD => ?_⟩, ?_⟩
            · have e8 : (x 8) = .bool true := hD.1 rfl
              clear hD
              refine want_yes (by simp [Region.wanted, yielded, e8]) ?_
              exact leads_value (v := .slice p13 (segL S a z).length c13) (by go_simp) ⟨Below.refl _ _, rfl⟩
            refine ⟨⟨fun x v => rfl, fun x V hC hD => ?_⟩, ?_⟩
            · have e9 : (x 9) = .int .i64 (g : Int) := hD.1 rfl
              have e10 : (x 10) = .slice p13 (segL S a z).length c13 := hD.2.1 rfl
              have e8 : (x 8) = .bool true := hD.2.2.1 rfl
              clear hD
              refine want_yes (by simp [Region.wanted, yielded, e8]) ?_
              exact leads_enter2 (by go_simp) ((rvHead_any g _ _ _ _ V (HBz.out.below hC (Nat.le_refl _)) hgle (by rw [hzl2]; exact HBk5.out)).mono fun en w'' ⟨q, c', he, hr, hB⟩ => ⟨_, he, hB, row_new (vheadL_length g _) hr hC.size⟩)
            refine ⟨⟨fun x v => rfl, fun x V hC hD => ?_⟩, ?_⟩
            · have e11 : BsNew w13 (vheadL g (segL S a z)) (x 11) V := hD.1 rfl
              have e8 : (x 8) = .bool true := hD.2.1 rfl
              clear hD
              refine want_yes (by simp [Region.wanted, yielded, e8]) ?_
              obtain ⟨pp, nn, cc, hv, hbs, -⟩ := e11
              have q := run_string_bs (P := Try.prog) V 31 5 9 Try.underlying31 Try.underlying5 Try.underlying9 hbs
              exact leads_value (v := .string ⟨(vheadL g (segL S a z)).toArray⟩) (by go_simp) ⟨Below.refl _ _, rfl⟩
            refine ⟨⟨fun x v => rfl, fun x V hC hD => ?_⟩, ?_⟩
            · have e8 : (x 8) = .bool true := hD.1 rfl
              clear hD
              refine want_yes (by simp [Region.wanted, yielded, e8]) ?_
              exact leads_value (v := .slice p1 128 c1) (by go_simp) ⟨Below.refl _ _, rfl⟩
            refine ⟨⟨fun x v => rfl, fun x V hC hD => ?_⟩, ?_⟩
            · have e13 : (x 13) = .slice p1 128 c1 := hD.1 rfl
              have e8 : (x 8) = .bool true := hD.2.1 rfl
              clear hD
              refine want_yes (by simp [Region.wanted, yielded, e8]) ?_
              have q := run_string_bs (P := Try.prog) V 31 5 9 Try.underlying31 Try.underlying5 Try.underlying9 (HBlk.out.below hC (Nat.le_refl _))
              exact leads_value (v := .string ⟨(blockL S a).toArray⟩) (by go_simp) ⟨Below.refl _ _, rfl⟩
            refine ⟨⟨fun x v => rfl, fun x V hC hD => ?_⟩, ?_⟩
            · have e12 : (x 12) = .string ⟨(vheadL g (segL S a z)).toArray⟩ := hD.1 rfl
              have e14 : (x 14) = .string ⟨(blockL S a).toArray⟩ := hD.2.1 rfl
              have e8 : (x 8) = .bool true := hD.2.2.1 rfl
              clear hD
              refine want_yes (by simp [Region.wanted, yielded, e8]) ?_
              have q2 := HL2.out
              exact leads_value (v := .bool false) (by go_simp; exact of_decide_eq_false HE2.out) ⟨Below.refl _ _, rfl⟩
            refine ⟨⟨fun x v => rfl, fun x V hC hD => ?_⟩, ?_⟩
            · have e8 : (x 8) = .bool true := hD.1 rfl
              have e15 : (x 15) = .bool false := hD.2.1 rfl
              clear hD
              refine want_yes rfl ?_
              exact leads_value (v := .bool false) (by go_simp) ⟨Below.refl _ _, rfl⟩
            refine ⟨⟨fun x v => rfl, fun x V hC hD => ?_⟩, ?_⟩
            · have e0 : (x 0) = .int .i64 (g : Int) := hD.1 rfl
              have e11 : BsNew w13 (vheadL g (segL S a z)) (x 11) V := hD.2.1 rfl
              clear hD
              refine want_yes rfl ?_
              exact leads_value (v := .int .i64 (g : Int)) (by go_simp) ⟨Below.refl _ _, rfl⟩
            refine ⟨⟨fun x v => rfl, fun x V hC hD => ?_⟩, ?_⟩
            · have e1 : (x 1) = .slice p13 (segL S a z).length c13 := hD.1 rfl
              have e17 : (x 17) = .int .i64 (g : Int) := hD.2.1 rfl
              have e0 : (x 0) = .int .i64 (g : Int) := hD.2.2.1 rfl
              clear hD
              refine want_yes rfl ?_
              exact leads_value (v := .slice p13 (segL S a z).length c13) (by go_simp) ⟨Below.refl _ _, rfl⟩
            refine ⟨⟨fun x v => rfl, fun x V hC hD => ?_⟩, ?_⟩
            · have e16 : (x 16) = .bool false := hD.1 rfl
              have e18 : (x 18) = .slice p13 (segL S a z).length c13 := hD.2.1 rfl
              have e0 : (x 0) = .int .i64 (g : Int) := hD.2.2.1 rfl
              have e1 : (x 1) = .slice p13 (segL S a z).length c13 := hD.2.2.2.1 rfl
              have e2 : (x 2) = .slice p13 (segL S a z).length c13 := hD.2.2.2.2.1 rfl
              have e3 : BsNew w13 (fillL (segL S a z)) (x 3) V := hD.2.2.2.2.2.1 rfl
              have e4 : (x 4) = .string ⟨(fillL (segL S a z)).toArray⟩ := hD.2.2.2.2.2.2.1 rfl
              have e5 : (x 5) = .slice ps (128 * sq) (cv - 128 * (a + 1)) := hD.2.2.2.2.2.2.2.1 rfl
              have e6 : (x 6) = .string ⟨(segL S a (128 * sq)).toArray⟩ := hD.2.2.2.2.2.2.2.2.1 rfl
              have e7 : (x 7) = .bool true := hD.2.2.2.2.2.2.2.2.2.1 rfl
              have e8 : (x 8) = .bool true := hD.2.2.2.2.2.2.2.2.2.2.1 rfl
              have e9 : (x 9) = .int .i64 (g : Int) := hD.2.2.2.2.2.2.2.2.2.2.2.1 rfl
              have e10 : (x 10) = .slice p13 (segL S a z).length c13 := hD.2.2.2.2.2.2.2.2.2.2.2.2.1 rfl
              have e11 : BsNew w13 (vheadL g (segL S a z)) (x 11) V := hD.2.2.2.2.2.2.2.2.2.2.2.2.2.1 rfl
              have e12 : (x 12) = .string ⟨(vheadL g (segL S a z)).toArray⟩ := hD.2.2.2.2.2.2.2.2.2.2.2.2.2.2.1 rfl
              have e13 : (x 13) = .slice p1 128 c1 := hD.2.2.2.2.2.2.2.2.2.2.2.2.2.2.2.1 rfl
              have e14 : (x 14) = .string ⟨(blockL S a).toArray⟩ := hD.2.2.2.2.2.2.2.2.2.2.2.2.2.2.2.2.1 rfl
              have e15 : (x 15) = .bool false := hD.2.2.2.2.2.2.2.2.2.2.2.2.2.2.2.2.2.1 rfl
              have e17 : (x 17) = .int .i64 (g : Int) := hD.2.2.2.2.2.2.2.2.2.2.2.2.2.2.2.2.2.2.2.1 rfl
              clear hD
              refine want_yes rfl ?_
              exact leads_value (v := .bool false) (by go_simp) ⟨Below.refl _ _, rfl⟩
            trivial
          · intro x1 V hC hF
            have e17 : x1 17 = .int .i64 (g : Int) := hF 17 (by simp)
            have e18 : x1 18 = .slice p13 (segL S a z).length c13 := hF 18 (by simp)
            have e19 : x1 19 = .bool false := hF 19 (by simp)
            have HV := Lib.hid (show Below w13.heap.size w13 V from hC)
            clear hF hC
            rw [e17, e18, e19]
            clear e17 e18 e19
            go_wp2_with fail
            refine bodyPost_ret (results_tmp3v rfl _ _ _) rfl ?_
            exact hasIs_no (by rw [HHas.out, if_neg (by rintro ⟨-, h1, h2⟩; have := HE2.out; rw [h2] at this; simp at this)]) g p13 _ c13 rfl (HB13.out.trans (HV.out.mono HB13.out.size))
      · have HE1 := Lib.hid (show decide (fillL (segL S a z) = segL S a (128 * sq)) = false by simpa using hx)
        clear hx
        refine wp_region_F (fun V => Below w13.heap.size w13 V) [Fact.is (.int .i64 (g : Int)), Fact.is (.slice p13 (segL S a z).length c13), Fact.is (.slice p13 (segL S a z).length c13), bsFact w13 (fillL (segL S a z)), Fact.is (.string ⟨(fillL (segL S a z)).toArray⟩), Fact.is (.slice ps (128 * sq) (cv - 128 * (a + 1))), Fact.is (.string ⟨(segL S a (128 * sq)).toArray⟩), Fact.is (.bool false), Fact.is (.bool false), Fact.is undef, Fact.is undef, Fact.is undef, Fact.is undef, Fact.is undef, Fact.is undef, Fact.is undef, Fact.is (.bool false), Fact.is (.int .i64 (g : Int)), Fact.is (.slice p13 (segL S a z).length c13), Fact.is (.bool false)]
          (fun x => { tmps := #[.pointer (some ⟨c, 0, none⟩), .int .i64 (a : Int), .int .i64 (odd : Int), undef, undef, undef, x 17, x 18, x 19, .slice p1 128 c1, .int .i64 0, .int .i64 (g : Int), .int .i64 (sq : Int), .slice p2 8 c2, .int .i64 0, .int .i64 (z : Int), .int .i64 ((4 : Nat) : Int), .slice ps (128 * sq) (cv - 128 * (a + 1)), .slice p13 (segL S a z).length c13, .tuple #[.slice p1 128 c1, .int .i64 0], .pointer (some ⟨c, 0, none⟩), .int .i64 (a : Int), .tuple #[.slice p1 128 c1, .int .i64 0], .slice p1 128 c1, .int .i64 0, .tuple #[.int .i64 (g : Int), .int .i64 (sq : Int), .slice p2 8 c2, .int .i64 0], .slice p1 128 c1, .tuple #[.int .i64 (g : Int), .int .i64 (sq : Int), .slice p2 8 c2, .int .i64 0], .int .i64 (g : Int), .int .i64 (sq : Int), .slice p2 8 c2, .int .i64 0, .int .i64 0, .bool false, .bool false, .int .i64 (g : Int), .int .i64 ((g : Int) % 2), .int .i64 (odd : Int), .bool false, .bool false, .bool false, .slice p2 8 c2, .int .i64 8, .bool false, .bool false, .bool false, .int .i64 (sq : Int), .bool false, .bool false, .int .i64 4, .bool false, u51, u52, u53, u54, u55, u56, u57, u58, u59, u60, .int .i64 (z : Int), .int .i64 (sq : Int), .int .i64 (sq : Int), .bool false, .pointer (some ⟨c, 0, none⟩), .pointer (some ⟨c, 0, none⟩), .pointer (some ⟨c, 0, none⟩), .slice pv (128 * S.len) cv, .int .i64 (a : Int), .int .i64 ((a : Int) + 1), .int .i64 (128 * ((a : Int) + 1)), .int .i64 (a : Int), .int .i64 ((a : Int) + 1), .int .i64 (sq : Int), .int .i64 ((a : Int) + 1 + (sq : Int)), .int .i64 (128 * ((a : Int) + 1 + (sq : Int))), .slice ps (128 * sq) (cv - 128 * (a + 1)), .slice (some ⟨w2.heap.size, 0, none⟩) 0 0, .slice ps (128 * sq) (cv - 128 * (a + 1)), .int .i64 (z : Int), .slice ps z (cv - 128 * (a + 1)), .slice p13 (segL S a z).length c13, x 0, x 1, x 2, x 3, x 4, x 5, x 6, x 7, x 8, x 9, x 10, x 11, x 12, x 13, x 14, x 15, x 16], defers := [] }) (fun i => ([undef, undef, undef, undef, undef, undef, undef, undef, undef, undef, undef, undef, undef, undef, undef, undef, undef, .int .i64 0, .slice none 0 0, .bool false] : List Value).getD i undef) (by kernel_rfl) rfl rfl (by kernel_rfl) ((Below.refl _ _).drew) (fun u v hu hB => hu.trans (hB.mono hu.size)) ?_ ?_
        · refine ⟨⟨fun x v => rfl, fun x V hC hD => ?_⟩, ?_⟩
          · clear hD
            refine want_yes rfl ?_
            exact leads_value (v := .int .i64 (g : Int)) (by go_simp) ⟨Below.refl _ _, rfl⟩
          refine ⟨⟨fun x v => rfl, fun x V hC hD => ?_⟩, ?_⟩
          · clear hD
            refine want_yes rfl ?_
            exact leads_value (v := .slice p13 (segL S a z).length c13) (by go_simp) ⟨Below.refl _ _, rfl⟩
          refine ⟨⟨fun x v => rfl, fun x V hC hD => ?_⟩, ?_⟩
          · clear hD
            refine want_yes rfl ?_
            exact leads_value (v := .slice p13 (segL S a z).length c13) (by go_simp) ⟨Below.refl _ _, rfl⟩
          refine ⟨⟨fun x v => rfl, fun x V hC hD => ?_⟩, ?_⟩
          · have e2 : (x 2) = .slice p13 (segL S a z).length c13 := hD.1 rfl
            clear hD
            refine want_yes rfl ?_
            exact leads_enter2 (by go_simp) ((rvFilled_any _ _ _ _ V (HBz.out.below hC (Nat.le_refl _)) (by omega)).mono fun en w'' ⟨q, c', he, hr, hB⟩ => ⟨_, he, hB, row_new rfl hr hC.size⟩)
          refine ⟨⟨fun x v => rfl, fun x V hC hD => ?_⟩, ?_⟩
          · have e3 : BsNew w13 (fillL (segL S a z)) (x 3) V := hD.1 rfl
            clear hD
            refine want_yes rfl ?_
            obtain ⟨pp, nn, cc, hv, hbs, -⟩ := e3
            have q := run_string_bs (P := Try.prog) V 31 5 9 Try.underlying31 Try.underlying5 Try.underlying9 hbs
            exact leads_value (v := .string ⟨(fillL (segL S a z)).toArray⟩) (by go_simp) ⟨Below.refl _ _, rfl⟩
          refine ⟨⟨fun x v => rfl, fun x V hC hD => ?_⟩, ?_⟩
          · clear hD
            refine want_yes rfl ?_
            exact leads_value (v := .slice ps (128 * sq) (cv - 128 * (a + 1))) (by go_simp) ⟨Below.refl _ _, rfl⟩
          refine ⟨⟨fun x v => rfl, fun x V hC hD => ?_⟩, ?_⟩
          · have e5 : (x 5) = .slice ps (128 * sq) (cv - 128 * (a + 1)) := hD.1 rfl
            clear hD
            refine want_yes rfl ?_
            have q := run_string_bs (P := Try.prog) V 31 5 9 Try.underlying31 Try.underlying5 Try.underlying9 (HSg.out.below hC (Nat.le_refl _))
            exact leads_value (v := .string ⟨(segL S a (128 * sq)).toArray⟩) (by go_simp) ⟨Below.refl _ _, rfl⟩
          refine ⟨⟨fun x v => rfl, fun x V hC hD => ?_⟩, ?_⟩
          · have e4 : (x 4) = .string ⟨(fillL (segL S a z)).toArray⟩ := hD.1 rfl
            have e6 : (x 6) = .string ⟨(segL S a (128 * sq)).toArray⟩ := hD.2.1 rfl
            clear hD
            refine want_yes rfl ?_
            have q2 := HL1.out
            exact leads_value (v := .bool false) (by go_simp; exact of_decide_eq_false HE1.out) ⟨Below.refl _ _, rfl⟩
          refine ⟨⟨fun x v => rfl, fun x V hC hD => ?_⟩, ?_⟩
          · have e7 : (x 7) = .bool false := hD.1 rfl
            have e3 : BsNew w13 (fillL (segL S a z)) (x 3) V := hD.2.1 rfl
            clear hD
            refine want_yes rfl ?_
            exact leads_value (v := .bool false) (by go_simp) ⟨Below.refl _ _, rfl⟩
          refine ⟨⟨fun x v => rfl, fun x V hC hD => ?_⟩, ?_⟩
          · have e8 : (x 8) = .bool false := hD.1 rfl
            clear hD
            exact want_no (by simp [Region.wanted, yielded, e8]) rfl
          refine ⟨⟨fun x v => rfl, fun x V hC hD => ?_⟩, ?_⟩
          · have e8 : (x 8) = .bool false := hD.1 rfl
            clear hD
            exact want_no (by simp [Region.wanted, yielded, e8]) rfl
          refine ⟨⟨fun x v => rfl, fun x V hC hD => ?_⟩, ?_⟩
          · have e9 : (x 9) = undef := hD.1 rfl
            have e10 : (x 10) = undef := hD.2.1 rfl
            have e8 : (x 8) = .bool false := hD.2.2.1 rfl
            clear hD
            exact want_no (by simp [Region.wanted, yielded, e8]) rfl
          refine ⟨⟨fun x v => rfl, fun x V hC hD => ?_⟩, ?_⟩
          · have e11 : (x 11) = undef := hD.1 rfl
            have e8 : (x 8) = .bool false := hD.2.1 rfl
            clear hD
            exact want_no (by simp [Region.wanted, yielded, e8]) rfl
          refine ⟨⟨fun x v => rfl, fun x V hC hD => ?_⟩, ?_⟩
          · have e8 : (x 8) = .bool false := hD.1 rfl
            clear hD
            exact want_no (by simp [Region.wanted, yielded, e8]) rfl
          refine ⟨⟨fun x v => rfl, fun x V hC hD => ?_⟩, ?_⟩
          · have e13 : (x 13) = undef := hD.1 rfl
            have e8 : (x 8) = .bool false := hD.2.1 rfl
            clear hD
            exact want_no (by simp [Region.wanted, yielded, e8]) rfl
          refine ⟨⟨fun x v => rfl, fun x V hC hD => ?_⟩, ?_⟩
          · have e12 : (x 12) = undef := hD.1 rfl
            have e14 : (x 14) = undef := hD.2.1 rfl
            have e8 : (x 8) = .bool false := hD.2.2.1 rfl
            clear hD
            exact want_no (by simp [Region.wanted, yielded, e8]) rfl
          refine ⟨⟨fun x v => rfl, fun x V hC hD => ?_⟩, ?_⟩
          · have e8 : (x 8) = .bool false := hD.1 rfl
            have e15 : (x 15) = undef := hD.2.1 rfl
            clear hD
            refine want_yes rfl ?_
            exact leads_value (v := .bool false) (by go_simp) ⟨Below.refl _ _, rfl⟩
          refine ⟨⟨fun x v => rfl, fun x V hC hD => ?_⟩, ?_⟩
          · have e0 : (x 0) = .int .i64 (g : Int) := hD.1 rfl
            have e11 : (x 11) = undef := hD.2.1 rfl
            clear hD
            refine want_yes rfl ?_
            exact leads_value (v := .int .i64 (g : Int)) (by go_simp) ⟨Below.refl _ _, rfl⟩
          refine ⟨⟨fun x v => rfl, fun x V hC hD => ?_⟩, ?_⟩
          · have e1 : (x 1) = .slice p13 (segL S a z).length c13 := hD.1 rfl
            have e17 : (x 17) = .int .i64 (g : Int) := hD.2.1 rfl
            have e0 : (x 0) = .int .i64 (g : Int) := hD.2.2.1 rfl
            clear hD
            refine want_yes rfl ?_
            exact leads_value (v := .slice p13 (segL S a z).length c13) (by go_simp) ⟨Below.refl _ _, rfl⟩
          refine ⟨⟨fun x v => rfl, fun x V hC hD => ?_⟩, ?_⟩
          · have e16 : (x 16) = .bool false := hD.1 rfl
            have e18 : (x 18) = .slice p13 (segL S a z).length c13 := hD.2.1 rfl
            have e0 : (x 0) = .int .i64 (g : Int) := hD.2.2.1 rfl
            have e1 : (x 1) = .slice p13 (segL S a z).length c13 := hD.2.2.2.1 rfl
            have e2 : (x 2) = .slice p13 (segL S a z).length c13 := hD.2.2.2.2.1 rfl
            have e3 : BsNew w13 (fillL (segL S a z)) (x 3) V := hD.2.2.2.2.2.1 rfl
            have e4 : (x 4) = .string ⟨(fillL (segL S a z)).toArray⟩ := hD.2.2.2.2.2.2.1 rfl
            have e5 : (x 5) = .slice ps (128 * sq) (cv - 128 * (a + 1)) := hD.2.2.2.2.2.2.2.1 rfl
            have e6 : (x 6) = .string ⟨(segL S a (128 * sq)).toArray⟩ := hD.2.2.2.2.2.2.2.2.1 rfl
            have e7 : (x 7) = .bool false := hD.2.2.2.2.2.2.2.2.2.1 rfl
            have e8 : (x 8) = .bool false := hD.2.2.2.2.2.2.2.2.2.2.1 rfl
            have e9 : (x 9) = undef := hD.2.2.2.2.2.2.2.2.2.2.2.1 rfl
            have e10 : (x 10) = undef := hD.2.2.2.2.2.2.2.2.2.2.2.2.1 rfl
            have e11 : (x 11) = undef := hD.2.2.2.2.2.2.2.2.2.2.2.2.2.1 rfl
            have e12 : (x 12) = undef := hD.2.2.2.2.2.2.2.2.2.2.2.2.2.2.1 rfl
            have e13 : (x 13) = undef := hD.2.2.2.2.2.2.2.2.2.2.2.2.2.2.2.1 rfl
            have e14 : (x 14) = undef := hD.2.2.2.2.2.2.2.2.2.2.2.2.2.2.2.2.1 rfl
            have e15 : (x 15) = undef := hD.2.2.2.2.2.2.2.2.2.2.2.2.2.2.2.2.2.1 rfl
            have e17 : (x 17) = .int .i64 (g : Int) := hD.2.2.2.2.2.2.2.2.2.2.2.2.2.2.2.2.2.2.2.1 rfl
            clear hD
            refine want_yes rfl ?_
            exact leads_value (v := .bool false) (by go_simp) ⟨Below.refl _ _, rfl⟩
          trivial
        · intro x1 V hC hF
          have e17 : x1 17 = .int .i64 (g : Int) := hF 17 (by simp)
          have e18 : x1 18 = .slice p13 (segL S a z).length c13 := hF 18 (by simp)
          have e19 : x1 19 = .bool false := hF 19 (by simp)
          have HV := Lib.hid (show Below w13.heap.size w13 V from hC)
          clear hF hC
          rw [e17, e18, e19]
          clear e17 e18 e19
          go_wp2_with fail
          refine bodyPost_ret (results_tmp3v rfl _ _ _) rfl ?_
          exact hasIs_no (by rw [HHas.out, if_neg (by rintro ⟨-, h1, h2⟩; have := HE1.out; rw [h1] at this; simp at this)]) g p13 _ c13 rfl (HB13.out.trans (HV.out.mono HB13.out.size))
end Go.Proofs.Ytbmcajhknohhdaa

/-! VltG -/
namespace Go.Proofs.Ytbmcajhknohhdaa
open Go.RowKit

def LoadIs (S : DS) (fr : Nat) (w : World) (e : Ending) (w' : World) : Prop := ∃ p c, e = .returned (.tuple #[.int .i64 ((loadR S fr).gen : Int), .slice p (loadR S fr).b.length c, .int .i64 (loadR S fr).e]) ∧ BsAt w' p (loadR S fr).b.length c (loadR S fr).b ∧ Below w.heap.size w w'
theorem loadIs {S : DS} {fr : Nat} {w w' : World} {e : Ending} {g : Nat} {b : List UInt8} {x : Int} (h : loadR S fr = ⟨g, b, x⟩) (p : Option Addr) (c : Nat) (he : e = .returned (.tuple #[.int .i64 (g : Int), .slice p b.length c, .int .i64 x])) (hb : BsAt w' p b.length c b) (hB : Below w.heap.size w w') : LoadIs S fr w e w' :=
  ⟨p, c, by rw [h]; exact he, by rw [h]; exact hb, hB⟩
set_option maxRecDepth 100000 in
set_option maxHeartbeats 6400000 in
theorem rvLoad_any {B : Nat} {w : World} {c : Nat} {v : Value} {S : DS} (fr : Nat) (h : RDisk B w c v S) (hok : DSOk S) (hf : fr + 512 ≤ S.len) :
    Calls Try.prog 22 #[ptrV c, .int .i64 (fr : Int)] w (LoadIs S fr w) := by
  have hc1 := h.blk.cell 1
  have few := hok.few
  have hw : IntKind.i64.wrap ((fr : Int) + 256) = (fr : Int) + 256 := IntWalk.i64_in _ (by omega)
  cases ho : S.off with
  | true =>
    have HL := Lib.hid (show loadR S fr = ⟨0, [], 19⟩ by unfold loadR; rw [if_pos ho])
    have c1 : w.cell? ⟨c, 1, none⟩ = some (.bool true) := by rw [← ho]; exact hc1
    clear h hok hf hc1 ho few hw
    unfold ptrV
    go_enter Try.func22, Try.ntmps22
    go_wp2_with fail
    refine bodyPost_ret (results_tmp3v rfl _ _ _) rfl ?_
    exact loadIs HL.out none 0 rfl (bsAt_nil _) (Below.refl _ _)
  | false =>
    have HL := Lib.hid (show loadR S fr = pickL (hasV S fr 0) (hasV S (fr + 256) 1) by unfold loadR; rw [if_neg (by rw [ho]; decide)])
    have c1 : w.cell? ⟨c, 1, none⟩ = some (.bool false) := by rw [← ho]; exact hc1
    have H0 : Hid (Calls Try.prog 38 #[.pointer (some ⟨c, 0, none⟩), .int .i64 (fr : Int), .int .i64 0] w (HasIs S fr 0 w)) := Lib.hid (rvHas_any fr 0 h hok ho (by omega) (by omega))
    have H1 : Hid (∀ V, Below w.heap.size w V → Calls Try.prog 38 #[.pointer (some ⟨c, 0, none⟩), .int .i64 ((fr : Int) + 256), .int .i64 1] V (HasIs S (fr + 256) 1 V)) := Lib.hid (fun V hV => rvHas_any (fr + 256) 1 (h.below hV) hok ho (by omega) (by omega))
    clear h hok hf hc1 ho few
    unfold ptrV
    go_enter Try.func22, Try.ntmps22
    go_wp2_with fail
    refine H0.out.mono ?_
    rintro e w1 ⟨g, p1, n1, c1', ok1, rfl, hB1, hm1⟩
    have HB1 := Lib.hid hB1
    have HM1 := Lib.hid hm1
    have H1' := Lib.hid (H1.out w1 hB1)
    clear hB1 hm1 H0 H1 c1
    go_wp2_with fail
    refine H1'.out.mono ?_
    rintro e w2 ⟨g2, p2, n2, c2, ok2, rfl, hB2, hm2⟩
    have HB2 := Lib.hid (HB1.out.trans (hB2.mono HB1.out.size))
    have HK := Lib.hid (fun (q : Option Addr) (n c : Nat) (l : List UInt8) (hx : BsAt w1 q n c l) => hx.below hB2 (Nat.le_refl _))
    clear hB2 H1'
    have hm1 := HM1.out
    clear HM1 HB1
    cases h0 : hasV S fr 0 with
    | none =>
      rw [h0] at hm1 HL
      have e1 : ok1 = false := hm1
      subst e1
      cases h1 : hasV S (fr + 256) 1 with
      | none =>
        rw [h1] at hm2 HL
        have e2 : ok2 = false := hm2
        subst e2
        clear h0 h1 hm1 hm2 HK
        go_wp2_with fail
        refine bodyPost_ret (results_tmp3v rfl _ _ _) rfl ?_
        exact loadIs HL.out none 0 rfl (bsAt_nil _) HB2.out
      | some y =>
        rw [h1] at hm2 HL
        obtain ⟨rfl, rfl, rfl, hb⟩ := hm2
        have HS := Lib.hid hb
        clear h0 h1 hm1 hb HK
        go_wp2_with fail
        refine bodyPost_ret (results_tmp3v rfl _ _ _) rfl ?_
        exact loadIs HL.out p2 c2 rfl HS.out HB2.out
    | some x =>
      rw [h0] at hm1 HL
      obtain ⟨rfl, rfl, rfl, hb⟩ := hm1
      have HX := Lib.hid (HK.out _ _ _ _ hb)
      clear hb HK
      cases h1 : hasV S (fr + 256) 1 with
      | none =>
        rw [h1] at hm2 HL
        have e2 : ok2 = false := hm2
        subst e2
        clear h0 h1 hm2
        go_wp2_with fail
        refine bodyPost_ret (results_tmp3v rfl _ _ _) rfl ?_
        exact loadIs HL.out p1 c1' rfl HX.out HB2.out
      | some y =>
        rw [h1] at hm2 HL
        obtain ⟨rfl, rfl, rfl, hb⟩ := hm2
        have HS := Lib.hid hb
        clear h0 h1 hb
        by_cases hlt : x.1 < y.1
        · have HP := Lib.hid (show pickL (some x) (some y) = ⟨y.1, y.2, 0⟩ by show (if x.1 < y.1 then _ else _) = _; rw [if_pos hlt])
          have d1 : decide ((x.1 : Int) < (y.1 : Int)) = true := by simp; omega
          have d2 : decide (x.1 < y.1) = true := by simp; omega
          clear hlt
          go_wp2_with fail
          refine bodyPost_ret (results_tmp3v rfl _ _ _) rfl ?_
          exact loadIs (HL.out.trans HP.out) p2 c2 rfl HS.out HB2.out
        · have HP := Lib.hid (show pickL (some x) (some y) = ⟨x.1, x.2, 0⟩ by show (if x.1 < y.1 then _ else _) = _; rw [if_neg hlt])
          have d1 : decide ((x.1 : Int) < (y.1 : Int)) = false := by simp; omega
          have d2 : decide (x.1 < y.1) = false := by simp; omega
          clear hlt
          go_wp2_with fail
          refine bodyPost_ret (results_tmp3v rfl _ _ _) rfl ?_
          exact loadIs (HL.out.trans HP.out) p1 c1' rfl HX.out HB2.out
end Go.Proofs.Ytbmcajhknohhdaa

/-! VltH -/
namespace Go.Proofs.Ytbmcajhknohhdaa
open Go.RowKit

def bytesV (b n : Nat) : List UInt8 := (List.range n).map fun k => UInt8.ofNat (b + k + k / 256)
def vbN (sz : Int) : Nat := if sz ≤ 0 then 0 else min sz.toNat 33000
theorem bytesV_length (b n : Nat) : (bytesV b n).length = n := by simp [bytesV]
theorem bytesV_succ (b n : Nat) : bytesV b (n + 1) = bytesV b n ++ [UInt8.ofNat (b + n + n / 256)] := by simp [bytesV, List.range_succ]
set_option maxRecDepth 100000 in
set_option maxHeartbeats 3200000 in
theorem rvBytes_any (kd gen sz N kp : Int) (b : Nat) (w : World) (h2 : sz ≤ 9223372036854775807) :
    Calls Try.prog 11 #[.agg #[.int .u8 kd, .int .i64 gen, .int .u8 (b : Int), .int .i64 sz, .int .i64 N, .int .i64 kp]] w (OwnIs w (bytesV b (vbN sz))) := by
  have HB1 := Lib.hid (belowNew w (.cells #[.int .u8 kd, .int .i64 gen, .int .u8 (b : Int), .int .i64 sz, .int .i64 N, .int .i64 kp] 36))
  have HK1 := Lib.hid (Blk.new w #[.int .u8 kd, .int .i64 gen, .int .u8 (b : Int), .int .i64 sz, .int .i64 N, .int .i64 kp] 36)
  have hv : vbN sz ≤ 33000 ∧ ((vbN sz : Int) ≤ sz ∨ (sz ≤ 0 ∧ vbN sz = 0)) ∧ ((vbN sz : Int) = sz ∨ vbN sz = 33000 ∨ sz ≤ 0) := by unfold vbN; split <;> omega
  generalize vbN sz = n at *
  have HV := Lib.hid hv
  have HW := Lib.hid (fun k : Nat => (show ((b : Int) + (k : Int) + (k : Int) / 256) % 256 = ((UInt8.ofNat (b + k + k / 256)).toNat : Int) from by simp))
  clear hv
  go_enter Try.func11, Try.ntmps11
  go_wp2_with fail
  go_loopw [3, 4] (fun v i wr => ∃ k : Nat, k ≤ n ∧ i = .int .i64 k ∧ wr.ownsRow w.heap.size 5 1 v (bytesV b k).length (bvs (bytesV b k)) ∧ Blk wr w.heap.size #[.int .u8 kd, .int .i64 gen, .int .u8 (b : Int), .int .i64 sz, .int .i64 N, .int .i64 kp] 36 ∧ Below w.heap.size w wr ∧ v.ownBlock ≠ some w.heap.size) (fun _ i _ => n - (intOf i).toNat)
  case atStart => exact ⟨0, Nat.zero_le _, rfl, World.ownsRow_nil _ _ _ _, HK1.out, HB1.out, fun e => by cases e⟩
  case round =>
    obtain ⟨k, hk, rfl, hR, hK, hB, hne⟩ := hrel
    obtain ⟨pv, cv, rfl⟩ := own_form hR
    have k2 : wr.cell? ⟨w.heap.size, 2, none⟩ = some (.int .u8 (b : Int)) := hK.cell 2
    have k3 : wr.cell? ⟨w.heap.size, 3, none⟩ = some (.int .i64 sz) := hK.cell 3
    by_cases hlt : k < n
    · have d1 : decide ((k : Int) < sz) = true := by have := HV.out; simp; omega
      have d2 : decide ((k : Int) < 33000) = true := by have := HV.out; simp; omega
      have hk3 : k < 33000 := by have := HV.out; omega
      have hL : (bytesV b k).length ≤ 33000 := by rw [bytesV_length]; omega
      have HT := Lib.hid (bytesV_succ b k)
      have HW2 := Lib.hid (HW.out k)
      have HK3 := Lib.hid hK
      have HB3 := Lib.hid hB
      have HNe := Lib.hid hne
      have HLt := Lib.hid hlt
      generalize bytesV b k = T at *
      have hown := hR.alloc (.cells #[.int .u8 (((b : Int) + (k : Int) + (k : Int) / 256) % 256)] 5)
      have HS2 := Lib.hid (bsAt_new wr #[.int .u8 (((b : Int) + (k : Int) + (k : Int) / 256) % 256)] 5 0 [UInt8.ofNat (b + k + k / 256)] (by simp [maxLen]) (fun i hi => by
        obtain rfl : i = 0 := by simp at hi; omega
        exact congrArg (fun x => some (Value.int .u8 x)) (HW2.out)))
      have HZ := Lib.hid (show w.heap.size ≤ (wr.alloc (.cells #[.int .u8 (((b : Int) + (k : Int) + (k : Int) / 256) % 256)] 5)).heap.size by have := hB.size; simp; omega)
      have hq2 : T.length + [UInt8.ofNat (b + k + k / 256)].length ≤ 140737488355328 := by simp; omega
      have HL := Lib.hid (fun k hk => (hR.lt k hk).1)
      clear hR hB hK hne HB1 HK1 hlt
      go_upto_region 4 with (at_builtin; refine wpList_append_bytes rfl _ _ 31 rfl w.heap.size 5 Try.underlying31 infoU8 rfl hown rfl HS2.out hq2 HZ.out ?_; intro p3 n3 c3 w3 hrow3 hg3 hn3; have HR3 := Lib.hid hrow3; have HG3 := Lib.hid hg3; have HN3 := Lib.hid hn3; clear hrow3 hg3 hn3 hown)
      go_wp2_with fail
      go_roundw
      case rel =>
        exact ⟨k + 1, by have := HLt.out; omega, by go_num, by rw [HT.out]; exact HR3.out, (HG3.out.block _ (by have := HK3.out.lt; simp; omega) (fun e => HNe.out e.symm)).trans (HK3.out.alloc _), (HB3.out.alloc HB3.out.size _).grown HG3.out HZ.out (fun k hk => HL.out k hk), fun e => by
          rcases HN3.out _ e with h5 | h5
          · exact HNe.out h5
          · have := HK3.out.lt; simp at h5; omega⟩
      case measure => have := HLt.out; simp [intOf]; omega
    · obtain rfl : k = n := by omega
      have HR2 := Lib.hid hR
      have HB2 := Lib.hid hB
      have hk3 : k ≤ 33000 := by have := HV.out; omega
      clear hR hB hK hne
      by_cases hs : (k : Int) < sz
      · have d1 : decide ((k : Int) < sz) = true := by simpa using hs
        have d2 : decide ((k : Int) < 33000) = false := by have := HV.out; simp; omega
        clear hs
        go_wp2_with fail
        go_ret
        exact ⟨pv, cv, rfl, HR2.out, HB2.out⟩
      · have d1 : decide ((k : Int) < sz) = false := by simpa using hs
        clear hs
        go_wp2_with fail
        go_ret
        exact ⟨pv, cv, rfl, HR2.out, HB2.out⟩
end Go.Proofs.Ytbmcajhknohhdaa

/-! LawVNobody -/
namespace Go.Proofs.Ytbmcajhknohhdaa
open Go.RowKit

/-- The cells of a vault that nobody made. -/
def vzCells : Array Value := #[.pointer none, .int .i64 0]
/-- A nil vault, or one that New did not return. -/
def NobVv (w : World) (v : Value) : Prop := v = .pointer none ∨ ∃ b, v = ptrV b ∧ Blk w b vzCells 58
theorem NobVv.below {w w' : World} {v : Value} (h : NobVv w v) (hB : Below w.heap.size w w') : NobVv w' v := by
  rcases h with h | ⟨b, h1, h2⟩
  · exact .inl h
  · exact .inr ⟨b, h1, h2.below hB h2.lt⟩
def NobLoadC : Prop := ∀ (w : World) (v : Value), NobVv w v → Calls Try.prog 21 #[v] w fun e w' => ∃ p c, e = .returned (.tuple #[.int .i64 0, .slice p 0 c, .int .i64 2]) ∧ Below w.heap.size w w'
def NobSaveC : Prop := ∀ (w : World) (v : Value) (gen : Int) (p : Option Addr) (len cap : Nat), NobVv w v → Calls Try.prog 12 #[v, .int .i64 gen, .slice p len cap] w fun e w' => e = .returned (.int .i64 2) ∧ Below w.heap.size w w'
set_option maxRecDepth 100000 in
set_option maxHeartbeats 3200000 in
theorem vnobody_any (nL : NobLoadC) (nS : NobSaveC) (nN : VNewNilC) (hA : VAliveC) (gen : Int) (p : Option Addr) (len cap : Nat) (w : World) :
    Calls Try.prog 6 #[.int .i64 gen, .slice p len cap] w fun e w' => e = .returned (.bool true) ∧ Below w.heap.size w w' := by
  have HA := Lib.hid hA
  have HL := Lib.hid nL
  have HS0 := Lib.hid nS
  have HN := Lib.hid nN
  obtain ⟨W2, hW2⟩ : ∃ W2, W2 = (w.alloc (.cells vzCells 58)).alloc (.cells #[.pointer none, .pointer (some ⟨w.heap.size, 0, none⟩)] 27) := ⟨_, rfl⟩
  have HB2 := Lib.hid (show Below w.heap.size w W2 by rw [hW2]; exact (belowNew w _).alloc (belowNew w _).size _)
  have HS := Lib.hid (show Blk W2 (w.heap.size + 1) #[.pointer none, .pointer (some ⟨w.heap.size, 0, none⟩)] 27 by
    have := Blk.new (w.alloc (.cells vzCells 58)) #[.pointer none, .pointer (some ⟨w.heap.size, 0, none⟩)] 27
    rw [show (w.alloc (.cells vzCells 58)).heap.size = w.heap.size + 1 by simp] at this
    rw [hW2]; exact this)
  have HZ := Lib.hid (show NobVv W2 (.pointer (some ⟨w.heap.size, 0, none⟩)) from .inr ⟨w.heap.size, rfl, by
    rw [hW2]; exact (Blk.new w vzCells 58).alloc _⟩)
  unfold vzCells at hW2
  clear hA nL nS nN
  go_enter Try.func6, Try.ntmps6
  go_upto_region 2 with fail
  rw [← hW2]
  have hs2 : w.heap.size + 1 < W2.heap.size := HS.out.lt
  obtain ⟨s, hs⟩ : ∃ s, s = w.heap.size := ⟨_, rfl⟩
  rw [← hs] at HS HZ hs2 ⊢
  clear hW2 hs
  go_loopw [16] (fun i wr => ∃ k : Nat, k ≤ 2 ∧ i = .int .i64 k ∧ Below W2.heap.size W2 wr) (fun i _ => 2 - (intOf i).toNat)
  case atStart => exact ⟨0, by omega, rfl, Below.refl _ _⟩
  case round =>
    obtain ⟨k, hk, rfl, hB⟩ := hrel
    have HB := Lib.hid hB
    clear hB
    by_cases hlt : k < 2
    · obtain ⟨pv, hpv, hnob⟩ : ∃ pv, wr.cell? ⟨s + 1, k, none⟩ = some pv ∧ NobVv W2 pv := by
        have hc : k = 0 ∨ k = 1 := by omega
        rcases hc with rfl | rfl
        · exact ⟨.pointer none, (HB.out.cell (p := ⟨s + 1, 0, none⟩) hs2).trans (HS.out.cell 0), .inl rfl⟩
        · exact ⟨.pointer (some ⟨s, 0, none⟩), (HB.out.cell (p := ⟨s + 1, 1, none⟩) hs2).trans (HS.out.cell 1), HZ.out⟩
      have HNv := Lib.hid hnob
      clear hnob
      have h1 := Lib.hid (HL.out wr pv (HNv.out.below HB.out))
      go_wp2_with fail
      refine h1.out.mono ?_
      rintro e V1 ⟨q, c, rfl, hB1⟩
      have HB1 := Lib.hid (HB.out.trans (hB1.mono HB.out.size))
      have h2 := Lib.hid (HS0.out V1 pv gen p len cap (HNv.out.below HB1.out))
      clear hB1 h1
      go_wp2_with fail
      refine h2.out.mono ?_
      rintro e V2 ⟨rfl, hB2⟩
      have HB6 := Lib.hid (HB1.out.trans (hB2.mono HB1.out.size))
      clear hB2 h2 HB1 hpv
      go_wp2_with fail
      go_roundw
      case rel => exact ⟨k + 1, by omega, by go_num, HB6.out⟩
      case measure => simp [intOf]; omega
    · have HBw := Lib.hid (HB2.out.trans (HB.out.mono HB2.out.size))
      have h1 := Lib.hid (HN.out wr)
      go_wp2_with fail
      refine h1.out.mono ?_
      rintro e V1 ⟨rfl, hB1⟩
      have HB1 := Lib.hid (HBw.out.trans (hB1.mono HBw.out.size))
      clear hB1 h1
      go_wp2_with fail
      refine (HA.out _).mono ?_
      rintro e V2 ⟨rfl, hB2⟩
      have HB3 := Lib.hid (HB1.out.trans (hB2.mono HB1.out.size))
      clear hB2
      go_wp2_with fail
      go_ret
      exact ⟨rfl, HB3.out⟩
end Go.Proofs.Ytbmcajhknohhdaa

/-! LawVPlays -/
namespace Go.Proofs.Ytbmcajhknohhdaa
open Go.RowKit

/-- The vault on the program's disk with S, the document's disk with S'. -/
structure QP (K : DiskRel) (R : VltRel) (w : World) (vb db a c : Nat) (v : Value) (S S' : DS) (F : Nat → Prop) (V : World) : Prop where
  vp : VP K R V vb db S a F
  rd : RDisk w.heap.size V c v S'
  below : Below w.heap.size w V
  own : ∀ k, F k → w.heap.size ≤ k
  apart : ∀ k, F k → ¬ foot c v k
  c0 : w.heap.size ≤ c
section
variable {K : DiskRel} {R : VltRel} {w : World} {vb db a c : Nat} {v : Value} {S S' S2 : DS} {F F' : Nat → Prop} {V V' : World}
theorem QP.foot_lt (h : QP K R w vb db a c v S S' F V) {k : Nat} (hk : foot c v k) : k < V.heap.size := by
  rcases hk with rfl | hk
  · exact h.rd.blk.lt
  · exact (h.rd.row.lt k hk).2
theorem QP.foot_ge (h : QP K R w vb db a c v S S' F V) {k : Nat} (hk : foot c v k) : w.heap.size ≤ k := by
  rcases hk with rfl | hk
  · exact h.c0
  · exact (h.rd.row.lt k hk).1
theorem RDisk.chgV {B : Nat} {w w' : World} {c : Nat} {v : Value} {S : DS} {T : Nat → Prop} (h : RDisk B w c v S) (hc : Chg T w w') (ht : ∀ k, foot c v k → ¬ T k) : RDisk B w' c v S :=
  ⟨hc.kept h.blk (ht c (.inl rfl)), own_chg h.row hc (fun k hk => ht k (.inr hk)), h.apart⟩
theorem QP.step (h : QP K R w vb db a c v S S' F V) (hB : Below V.heap.size V V') : QP K R w vb db a c v S S' F V' :=
  ⟨h.vp.kept (Chg.ofBelow (S := fun _ => False) hB) (fun _ _ h => h), h.rd.chgV (Chg.ofBelow (S := fun _ => False) hB) (fun _ _ h => h), h.below.trans (hB.mono h.below.size), h.own, h.apart, h.c0⟩
theorem QP.drew (h : QP K R w vb db a c v S S' F V) : QP K R w vb db a c v S S' F V.drew := h.step (Below.refl _ _).drew
/-- A store into memory that is neither's. -/
theorem QP.other (h : QP K R w vb db a c v S S' F V) {g : Nat} (hg : w.heap.size ≤ g) (hF : ¬ F g) (hf : ¬ foot c v g) (hc : Chg (fun j => j = g) V V') : QP K R w vb db a c v S S' F V' :=
  ⟨h.vp.kept hc (fun _ hk e => hF (e ▸ hk)), h.rd.chgV hc (fun _ hk e => hf (e ▸ hk)), h.below.trans (hc.below h.below.size fun _ hk => hk ▸ hg), h.own, h.apart, h.c0⟩
/-- The program's came to S2. -/
theorem QP.dto (h : QP K R w vb db a c v S S' F V) (hA : VP K R V' vb db S2 a F') (hs : ∀ k, F' k → F k ∨ V.heap.size ≤ k) (hc : Chg F V V') : QP K R w vb db a c v S2 S' F' V' :=
  ⟨hA, h.rd.chgV hc (fun k hk hf => h.apart k hf hk), h.below.trans (hc.below h.below.size h.own), fun k hk => by
    rcases hs k hk with h1 | h1
    · exact h.own k h1
    · have := h.below.size; omega, fun k hk hf => by
    rcases hs k hk with h1 | h1
    · exact h.apart k h1 hf
    · have := h.foot_lt hf; omega, h.c0⟩
/-- The document's came to S2. -/
theorem QP.rto (h : QP K R w vb db a c v S S' F V) (hR : RDisk w.heap.size V' c v S2) (hc : Chg (foot c v) V V') : QP K R w vb db a c v S S2 F V' :=
  ⟨h.vp.kept hc h.apart, hR, h.below.trans (hc.below h.below.size fun _ hk => h.foot_ge hk), h.own, h.apart, h.c0⟩
theorem QP.arm (k : DArmC K) (h : QP K R w vb db a c v S S' F V) (n keep : Int) (hn : n ≤ 9223372036854775807) :
    Calls Try.prog 14 #[ptrV db, .int .i64 n, .int .i64 keep] V fun e w' => e = .returned (.int .i64 (armE n keep)) ∧ ∃ F', QP K R w vb db a c v (armS S n keep) S' F' w' := by
  obtain ⟨D, G, g1, g2⟩ := h.vp.ex
  refine (k n keep g1 h.vp.ok hn).mono fun e w' ⟨D', he, hA, hs, hc⟩ => ?_
  obtain ⟨F', hp, hs2, hc2⟩ := h.vp.disk (h.vp.ok.arm n keep hn) (by unfold DS.len; rw [armS_all]) ⟨G, g2⟩ hA hs hc
  exact ⟨he, F', h.dto hp hs2 hc2⟩
theorem QP.power (k : DPowerC K) (h : QP K R w vb db a c v S S' F V) :
    Calls Try.prog 16 #[ptrV db] V fun e w' => e = .returned (.tuple #[]) ∧ ∃ F', QP K R w vb db a c v (powerS S) S' F' w' := by
  obtain ⟨D, G, g1, g2⟩ := h.vp.ex
  refine (k g1 h.vp.ok).mono fun e w' ⟨D', he, hA, hs, hc⟩ => ?_
  obtain ⟨F', hp, hs2, hc2⟩ := h.vp.disk h.vp.ok.power rfl ⟨G, g2⟩ hA hs hc
  exact ⟨he, F', h.dto hp hs2 hc2⟩
theorem QP.write (k : DWriteC K) (h : QP K R w vb db a c v S S' F V) (i : Int) (hw : S.wr ≤ 1000000) {p : Option Addr} {len cap : Nat} {l : List UInt8} (hb : BsAt V p len cap l) (hp : ∀ x, p = some x → ¬ F x.block) :
    Calls Try.prog 19 #[ptrV db, .int .i64 i, .slice p len cap] V fun e w' => e = .returned (.int .i64 (writeE S i l)) ∧ (∃ F', QP K R w vb db a c v (writeS S i l) S' F' w') ∧ Chg F V w' := by
  obtain ⟨D, G, g1, g2, g3⟩ := h.vp.ex
  refine (k i g1 h.vp.ok hw hb (fun x hx hd => hp x hx ((g3.2 _).2 (.inl hd)))).mono fun e w' ⟨D', he, hA, hs, hc⟩ => ?_
  obtain ⟨F', hq, hs2, hc2⟩ := h.vp.disk (h.vp.ok.write i l) (by unfold DS.len; rw [writeS_len S h.vp.ok]) ⟨G, g2, g3⟩ hA hs hc
  exact ⟨he, ⟨F', h.dto hq hs2 hc2⟩, hc2⟩
theorem QP.save (k : VSaveC K R) (h : QP K R w vb db a c v S S' F V) (gen : Int) (hw : S.wr ≤ 900000) {p : Option Addr} {len cap : Nat} {b : List UInt8} (hb : BsAt V p len cap b) (hl : b.length ≤ 100000) (hp : ∀ x, p = some x → b ≠ [] → ¬ F x.block ∧ x.block < V.heap.size) :
    Calls Try.prog 12 #[ptrV vb, .int .i64 gen, .slice p len cap] V fun e w' => e = .returned (.int .i64 (saveE S a gen b)) ∧ (∃ F', QP K R w vb db a c v (saveD S a gen b) S' F' w') ∧ Chg F V w' := by
  refine (k gen h.vp hw hb hl hp).mono fun e w' ⟨F', he, hA, hs, hc⟩ => ?_
  exact ⟨he, ⟨F', h.dto hA hs hc⟩, hc⟩
theorem QP.load (k : VLoadC K R) (h : QP K R w vb db a c v S S' F V) :
    Calls Try.prog 21 #[ptrV vb] V fun e w' => ∃ p cp, e = .returned (.tuple #[.int .i64 ((loadR S a).gen : Int), .slice p (loadR S a).b.length cp, .int .i64 (loadR S a).e]) ∧ BsAt w' p (loadR S a).b.length cp (loadR S a).b ∧ QP K R w vb db a c v S S' F w' :=
  (k h.vp).mono fun _ _ ⟨p, cp, he, hb, _, hB⟩ => ⟨p, cp, he, hb, h.step hB⟩
theorem QP.on (k : DOnV K) (h : QP K R w vb db a c v S S' F V) : Calls Try.prog 23 #[ptrV db] V fun e w' => e = .returned (.bool (!S.off)) ∧ Below V.heap.size V w' := by
  obtain ⟨D, G, g1, -⟩ := h.vp.ex
  exact k g1 h.vp.ok
theorem QP.writes (k : DWritesC K) (h : QP K R w vb db a c v S S' F V) : Calls Try.prog 24 #[ptrV db] V fun e w' => e = .returned (.int .i64 S.wr) ∧ Below V.heap.size V w' := by
  obtain ⟨D, G, g1, -⟩ := h.vp.ex
  exact k g1 h.vp.ok
theorem QP.r1 (h : QP K R w vb db a c v S S' F V) : V.cell? ⟨c, 1, none⟩ = some (.bool S'.off) := h.rd.blk.cell 1
theorem QP.r4 (h : QP K R w vb db a c v S S' F V) : V.cell? ⟨c, 4, none⟩ = some (.int .i64 S'.wr) := h.rd.blk.cell 4
end
/-! Each act writes a few blocks. -/
theorem wrl_wr (p : List (Nat × List UInt8)) : ∀ S : DS, (wrl S p).2.wr ≤ S.wr + p.length := by
  induction p with
  | nil => intro S; simp [wrl]
  | cons x p ih =>
    intro S
    have h1 := wr_one S x.1 x.2
    have h2 := ih (writeS S x.1 x.2)
    unfold wrl
    split
    · simp only [List.length_cons]; omega
    · simp only [List.length_cons]; omega
theorem saveD_wr (S : DS) (a : Nat) (gen : Int) (b : List UInt8) : (saveD S a gen b).wr ≤ S.wr + 256 := by
  unfold saveD
  split
  · omega
  · rename_i h
    have := wrl_wr (planP (vAt a gen.toNat) gen.toNat b) S
    rw [plan_length] at this
    omega
theorem wrl_len (p : List (Nat × List UInt8)) : ∀ S : DS, DSOk S → (wrl S p).2.len = S.len := by
  induction p with
  | nil => intro S _; rfl
  | cons x p ih =>
    intro S h
    have e : (writeS S x.1 x.2).len = S.len := by unfold DS.len; rw [writeS_len S h]
    unfold wrl
    split
    · exact (ih _ (h.write _ _)).trans e
    · exact e
theorem saveD_len {S : DS} (h : DSOk S) (a : Nat) (gen : Int) (b : List UInt8) : (saveD S a gen b).len = S.len := by
  unfold saveD
  split
  · rfl
  · exact wrl_len _ S h
/-- Two calls in turn, the program's and the document's, with bytes that lie apart. -/
def PairQ (K : DiskRel) (R : VltRel) (w : World) (vb db a c : Nat) (v : Value) (S T : DS) (p : Option Addr) (len cap : Nat) (L : List UInt8) : Nat → World → Prop
  | 0, V => ∃ F, QP K R w vb db a c v S S F V ∧ BsAt V p len cap L ∧ ∀ x, p = some x → L ≠ [] → (¬ F x.block ∧ x.block < V.heap.size) ∧ ¬ foot c v x.block
  | 1, V => ∃ F, QP K R w vb db a c v T S F V ∧ BsAt V p len cap L ∧ ∀ x, p = some x → L ≠ [] → ¬ foot c v x.block
  | _, V => ∃ F, QP K R w vb db a c v T T F V
theorem PairQ.below {K : DiskRel} {R : VltRel} {w : World} {vb db a c : Nat} {v : Value} {S T : DS} {p : Option Addr} {len cap : Nat} {L : List UInt8} : ∀ (k : Nat) (V : World), PairQ K R w vb db a c v S T p len cap L k V → Below w.heap.size w V
  | 0, _, ⟨_, h, _⟩ => h.below
  | 1, _, ⟨_, h, _⟩ => h.below
  | _ + 2, _, ⟨_, h⟩ => h.below
/-- What was loaded twice, and the two disks. -/
structure CmpQ (K : DiskRel) (R : VltRel) (w : World) (vb db a c : Nat) (v : Value) (S : DS) (F : Nat → Prop) (p q : Option Addr) (n cp cq : Nat) (L : List UInt8) (V : World) : Prop where
  qp : QP K R w vb db a c v S S F V
  b1 : BsAt V p n cp L
  b2 : BsAt V q n cq L
theorem CmpQ.step {K : DiskRel} {R : VltRel} {w : World} {vb db a c : Nat} {v : Value} {S : DS} {F : Nat → Prop} {p q : Option Addr} {n cp cq : Nat} {L : List UInt8} {V V' : World} (h : CmpQ K R w vb db a c v S F p q n cp cq L V) (hB : Below V.heap.size V V') : CmpQ K R w vb db a c v S F p q n cp cq L V' :=
  ⟨h.qp.step hB, h.b1.below hB (Nat.le_refl _), h.b2.below hB (Nat.le_refl _)⟩
theorem bvs_put1 (l : List UInt8) (q : Nat) (x : UInt8) : bvs (l.set q x) = (bvs l).set q (.int .u8 (x.toNat : Int)) := by simp [bvs, List.map_set]
theorem row_addr {w : World} {n e len c : Nat} {p : Option Addr} {xs : List Value} (h : w.ownsRow n e 1 (.slice p len c) len xs) (hne : 0 < len) : ∃ g, p = some ⟨g, 0, none⟩ := by
  rcases h.2 with ⟨-, h0⟩ | ⟨g, cap, cur, h1, -⟩
  · omega
  · rw [Value.slice.injEq] at h1
    exact ⟨g, h1.1⟩
/-- What holds at the head of each round. -/
structure VPl (K : DiskRel) (R : VltRel) (w : World) (vb db a c : Nat) (v : Value) (k : Nat) (V : World) : Prop where
  ex : ∃ S F, QP K R w vb db a c v S S F V ∧ S.wr ≤ 300 * (k : Int) ∧ S.len = 516
theorem own_base {w : World} {base base' size n : Nat} {e : TypeId} {v : Value} {xs : List Value} (h : w.ownsRow base e size v n xs) (hb : base' ≤ base) : w.ownsRow base' e size v n xs :=
  ⟨h.1, h.2.elim Or.inl (fun ⟨g, cap, cur, hv, hg, r⟩ => Or.inr ⟨g, cap, cur, hv, Nat.le_trans hb hg, r⟩)⟩

set_option maxRecDepth 100000 in
set_option maxHeartbeats 12800000 in
theorem vplays_any (K : DiskRel) (R : VltRel) (dN : DNewC K) (dW : DWriteC K) (dA : DArmC K) (dP : DPowerC K) (dO : DOnV K) (dWr : DWritesC K) (vN : VNewC K R) (vX : VNewNoC K) (vS : VSaveC K R) (vL : VLoadC K R) (hA : VAliveC)
    (z : Int) (v : Value) (l : List VActM) (w : World) (hz0 : -9223372036854775808 ≤ z) (hz1 : z ≤ 9223372036854775807) (h : VActsAt w v l) :
    Calls Try.prog 3 #[.int .i64 z, v] w fun e w' => e = .returned (.bool true) ∧ Below w.heap.size w w' := by
  obtain ⟨p, cap, rfl, hm, hc⟩ := h
  have HC := Lib.hid hc
  have HAl := Lib.hid hA
  have CN := @Lib.hid (DNewC K) @dN
  have CW := @Lib.hid (DWriteC K) @dW
  have CA := @Lib.hid (DArmC K) @dA
  have CP := @Lib.hid (DPowerC K) @dP
  have CO := @Lib.hid (DOnV K) @dO
  have CWr := @Lib.hid (DWritesC K) @dWr
  have CVN := @Lib.hid (VNewC K R) @vN
  have CVX := @Lib.hid (VNewNoC K) @vX
  have CVS := @Lib.hid (VSaveC K R) @vS
  have CVL := @Lib.hid (VLoadC K R) @vL
  have HN := Lib.hid (dN 516 w (by decide) (by decide))
  clear hc hA dN dW dA dP dO dWr vN vX vS vL
  by_cases hz : 0 ≤ z ∧ z ≤ 4
  · obtain ⟨a, rfl⟩ := Int.eq_ofNat_of_zero_le hz.1
    have d1 : ¬ ((a : Int) < 0) := by omega
    have d2 : ¬ ((4 : Int) < (a : Int)) := by omega
    have ha : a ≤ 4 := by omega
    clear hz hz0 hz1
    go_enter Try.func3, Try.ntmps3
    go_wp2_with fail
    refine HN.out.mono ?_
    rintro e w1 ⟨db, D, rfl, hA1, hF1, hB1⟩
    have HVN := Lib.hid (CVN.out a w1 db (DS.new 516) D hA1 (DSOk.new (by decide)) (by rw [DS.new_len]; omega))
    have HF1 := Lib.hid hF1
    have HB1 := Lib.hid hB1
    clear hA1 hF1 hB1 HN
    unfold ptrV
    go_wp2_with fail
    refine HVN.out.mono ?_
    rintro e w2 ⟨vb, F, rfl, hV2, hs2, hB2⟩
    have HV2 := Lib.hid hV2
    have HS2 := Lib.hid hs2
    have HB2 := Lib.hid (HB1.out.trans (hB2.mono HB1.out.size))
    have HFo := Lib.hid (show ∀ k, F k → w.heap.size ≤ k from fun k hk => by
      rcases hs2 k hk with h | h
      · exact HF1.out k h
      · exact Nat.le_trans HB1.out.size h)
    clear hV2 hs2 hB2 HVN
    by_cases h12 : 12 < l.length
    · go_wp2_with fail
      refine (HAl.out _).mono ?_
      rintro e w6 ⟨rfl, hB6⟩
      have HB6 := Lib.hid (HB2.out.trans (hB6.mono HB2.out.size))
      clear hB6
      go_wp2_with fail
      go_ret
      exact ⟨rfl, HB6.out⟩
    · have e1 : ¬ ((12 : Int) < (l.length : Int)) := by omega
      have hl12 : l.length ≤ 12 := by omega
      have HNw := Lib.hid (rdNew_any 516 w2 (by decide))
      clear h12
      go_upto_region 7 with fail
      go_wp2_with fail
      refine HNw.out.mono ?_
      rintro e w3 ⟨g, rfl, hrow, hB3⟩
      have HB3 := Lib.hid hB3
      have hbk : Blk (w3.alloc (.cells #[.slice none 0 0, .bool false, .int .i64 0, .int .i64 0, .int .i64 0] 33)) w3.heap.size #[.slice none 0 0, .bool false, .int .i64 0, .int .i64 0, .int .i64 0] 33 := Blk.new _ _ _
      have HRow := Lib.hid hrow
      clear hB3 hrow HNw
      obtain ⟨dv, hdv⟩ : ∃ dv : Value, dv = .slice (some ⟨g, 0, none⟩) (128 * 516) (128 * 516) := ⟨_, rfl⟩
      rw [← hdv] at HRow
      simp only [← hdv]
      have HDv := Lib.hid (show dv.ownBlock = some g ∧ dv.oneCell' = true by rw [hdv]; exact ⟨rfl, rfl⟩)
      clear hdv
      go_wp2_with (refine wpList_store_arr rfl rfl _ _ _ rfl rfl rfl hbk infoRD rfl (by have h := HDv.out.2; unfold Value.oneCell' at h; simp [Value.oneCell', h]) ?_; intro w4 hw4; have HW4 := Lib.hid hw4; clear hw4)
      have HI0 := Lib.hid (show VPl K R w vb db a w3.heap.size dv 0 w4 from by
        have hB13 : Below w.heap.size w w3 := HB2.out.trans (HB3.out.mono HB2.out.size)
        have hB4 : Below w3.heap.size w3 w4 := (belowNew w3 _).trans (HW4.out.below (by simp) (Nat.le_refl _))
        have hg := (HRow.out.lt g HDv.out.1)
        have hV3 := (HV2.out.kept (Chg.ofBelow (S := fun _ => False) HB3.out) (fun _ _ h => h)).kept (Chg.ofBelow (S := fun _ => False) hB4) (fun _ _ h => h)
        refine ⟨DS.new 516, F, ⟨hV3, ⟨HW4.out.blk, ?_, fun e => by rw [HDv.out.1] at e; cases e; omega⟩, hB13.trans (hB4.mono hB13.size), HFo.out, fun k hk hf => ?_, hB13.size⟩, by show (0 : Int) ≤ 300 * ((0 : Nat) : Int); omega, DS.new_len 516⟩
        · exact own_base (own_below HRow.out hB4 (Nat.le_refl _)) HB2.out.size
        · have h1 := HV2.out.lt k hk
          have h2 := HB3.out.size
          rcases hf with rfl | hf
          · omega
          · rw [HDv.out.1] at hf; cases hf; omega)
      generalize w3.heap.size = c at *
      clear hbk HRow HW4 HB2 HB3 HV2 HS2 HF1 HB1 HFo CN CVN CVX HDv
      go_upto_region 9 with fail
      go_loopw [10] (fun i wr => ∃ k : Nat, k ≤ l.length ∧ i = .int .i64 k ∧ VPl K R w vb db a c dv k wr) (fun i _ => l.length - (intOf i).toNat)
      case atStart => exact ⟨0, Nat.zero_le _, rfl, HI0.out⟩
      case round =>
        obtain ⟨k, hk, rfl, hI⟩ := hrel
        have HI := Lib.hid hI
        clear hI HI0
        by_cases hlt : k < l.length
        · obtain ⟨bl, off, rfl, hbl, hcs⟩ := HC.out (by intro e; rw [e] at hlt; simp at hlt)
          obtain ⟨hOk, q0, q1, q2, q3, q4, q5⟩ := hcs k hlt
          obtain ⟨S, F, hP, hwr, hSn⟩ := HI.out.ex
          have HP := Lib.hid hP
          have HQ := Lib.hid (fun V (hV : Below w.heap.size w V) => And.intro ((hV.cell (p := ⟨bl, off + k * 6, none⟩) hbl).trans q0) (And.intro ((hV.cell (p := ⟨bl, off + k * 6 + 1, none⟩) hbl).trans q1) (And.intro ((hV.cell (p := ⟨bl, off + k * 6 + 2, none⟩) hbl).trans q2) (And.intro ((hV.cell (p := ⟨bl, off + k * 6 + 3, none⟩) hbl).trans q3) (And.intro ((hV.cell (p := ⟨bl, off + k * 6 + 4, none⟩) hbl).trans q4) ((hV.cell (p := ⟨bl, off + k * 6 + 5, none⟩) hbl).trans q5))))))
          obtain ⟨⟨ho1, ho2⟩, ⟨hg1, hg2⟩, ⟨hb1, hb2⟩, ⟨hz0, hz1⟩, ⟨hn1, hn2⟩, ⟨hp1, hp2⟩⟩ := hOk
          have HS := Lib.hid (And.intro hwr hSn)
          have hwr2 : S.wr ≤ 5000 := by omega
          clear hcs q0 q1 q2 q3 q4 q5 HI hP hwr hSn
          generalize l[k].kd = kd at *
          generalize l[k].gen = gen at *
          generalize l[k].sz = sz at *
          generalize l[k].n = N at *
          generalize l[k].kp = kp at *
          obtain ⟨bb, hbb⟩ := Int.eq_ofNat_of_zero_le hb1
          rw [hbb] at HQ hb1 hb2
          clear hbb
          have j0 := (HQ.out wr HP.out.below).1
          have HM := Lib.hid (show kd % 4 = 0 ∨ kd % 4 = 1 ∨ kd % 4 = 2 ∨ kd % 4 = 3 by omega)
          go_upto_block 2 with fail
          go_cut [11] (fun s wx => s = .bool true ∧ ∃ S2 F2, QP K R w vb db a c dv S2 S2 F2 wx ∧ S2.wr ≤ 300 * ((k + 1 : Nat) : Int) ∧ S2.len = 516)
          case first =>
            rcases HM.out with hm0 | hm1 | hm2 | hm3
            · as_aux_lemma =>
              have b0 : (kd % 4 == 0) = true := by simpa using hm0
              have j1 := (HQ.out wr HP.out.below).2.1
              have j2 := (HQ.out wr HP.out.below).2.2.1
              have j3 := (HQ.out wr HP.out.below).2.2.2.1
              have j4 := (HQ.out wr HP.out.below).2.2.2.2.1
              have j5 := (HQ.out wr HP.out.below).2.2.2.2.2
              have HBy := Lib.hid (rvBytes_any kd gen sz N kp bb wr hz1)
              clear hm0 HM
              go_upto_region 18 with fail
              go_wp2_with fail
              refine HBy.out.mono ?_
              rintro e w5 ⟨p5, c5, rfl, hR5, hB5⟩
              have HP5 := Lib.hid (HP.out.step hB5)
              have HR5 := Lib.hid hR5
              have hL5 : (bytesV bb (vbN sz)).length ≤ 33000 := by rw [bytesV_length]; unfold vbN; split <;> omega
              have HFr := Lib.hid (show ∀ x, p5 = some x → wr.heap.size ≤ x.block ∧ x.block < w5.heap.size from fun x hx => hR5.lt x.block (by rw [hx]; rfl))
              have HFl := Lib.hid (show (∀ k, F k → k < wr.heap.size) ∧ ∀ k, foot c dv k → k < wr.heap.size from ⟨HP.out.vp.lt, fun k hk => HP.out.foot_lt hk⟩)
              have HBs := Lib.hid (show BsAt w5 p5 (bytesV bb (vbN sz)).length c5 (bytesV bb (vbN sz)) from by
                obtain ⟨q, d', e1, hbs⟩ := BsAt.ofRow hR5
                rw [Value.slice.injEq] at e1
                obtain ⟨rfl, -, rfl⟩ := e1
                exact hbs)
              clear hR5 hB5 j0 j1 j2 j3 j4 j5 HP HBy HR5
              generalize bytesV bb (vbN sz) = L at *
              generalize L.length = M at *
              go_upto_region 19 with fail
              have hokS : DSOk S := HP5.out.vp.ok
              have HT0 := Lib.hid (show PairQ K R w vb db a c dv S (saveD S a gen L) p5 M c5 L 0 w5.drew from ⟨F, HP5.out.drew, HBs.out.below (Below.refl w5.heap.size w5).drew (Nat.le_refl _), fun x hx _ => ⟨⟨fun hf => by have := HFl.out.1 _ hf; have := (HFr.out x hx).1; omega, (HFr.out x hx).2⟩, fun hf => by have := HFl.out.2 _ hf; have := (HFr.out x hx).1; omega⟩⟩)
              refine wp_region_S (PairQ K R w vb db a c dv S (saveD S a gen L) p5 M c5 L) 2 [.val (ptrV vb), .val (.slice (some ⟨bl, off, none⟩) l.length cap), .val (.int .i64 (k : Int)), .val (.pointer (some ⟨bl, off + k * 6, none⟩)), .val (.pointer (some ⟨bl, off + k * 6 + 1, none⟩)), .val (.int .i64 gen), .val (.slice p5 M c5), .turn 0 (.int .i64 (saveE S a gen L)), .val (.int .i64 (a : Int)), .val (.slice (some ⟨bl, off, none⟩) l.length cap), .val (.int .i64 (k : Int)), .val (.pointer (some ⟨bl, off + k * 6, none⟩)), .val (.pointer (some ⟨bl, off + k * 6 + 1, none⟩)), .val (.int .i64 gen), .val (.slice p5 M c5), .turn 1 (.int .i64 (saveE S a gen L)), .val (.bool true), .val (.bool true)]
                (fun x => { tmps := #[.int .i64 (a : Int), .slice (some ⟨bl, off, none⟩) l.length cap, undef, undef, u4, .pointer (some ⟨db, 0, none⟩), .int .i64 0, ptrV vb, .int .i64 0, .pointer (some ⟨c, 0, none⟩), .int .i64 (k : Int), x 17, .slice p5 M c5, u13, u14, u15, u16, u17, u18, u19, u20, .tuple #[.pointer (some ⟨db, 0, none⟩), .int .i64 0], .tuple #[.pointer (some ⟨db, 0, none⟩), .int .i64 0], .pointer (some ⟨db, 0, none⟩), .int .i64 0, .tuple #[ptrV vb, .int .i64 0], .pointer (some ⟨db, 0, none⟩), .int .i64 (a : Int), .tuple #[ptrV vb, .int .i64 0], ptrV vb, .int .i64 0, .pointer (some ⟨db, 0, none⟩), .bool false, .bool false, .int .i64 (a : Int), .bool (decide ((a : Int) < 0)), .bool (decide ((a : Int) < 0)), .bool (decide ((a : Int) < 0)), .int .i64 (a : Int), .bool (decide (4 < (a : Int))), .bool (decide ((a : Int) < 0) || decide (4 < (a : Int))), undef, undef, undef, undef, undef, undef, undef, undef, undef, undef, undef, undef, undef, ptrV vb, .bool false, .bool false, .int .i64 0, .bool false, .bool false, .bool false, .slice (some ⟨bl, off, none⟩) l.length cap, .int .i64 (l.length : Int), .bool (decide (12 < (l.length : Int))), .bool (decide (12 < (l.length : Int))), undef, undef, undef, undef, undef, undef, undef, undef, undef, .agg #[dv, .bool false, .int .i64 (-1), .int .i64 0, .int .i64 0], .int .i64 (k : Int), .slice (some ⟨bl, off, none⟩) l.length cap, .int .i64 (l.length : Int), .bool true, u79, u80, .slice (some ⟨bl, off, none⟩) l.length cap, .int .i64 (k : Int), .pointer (some ⟨bl, off + k * 6, none⟩), .pointer (some ⟨bl, off + k * 6, none⟩), .int .u8 kd, .int .u8 (kd % 4), u87, u88, u89, u90, u91, u92, u93, u94, u95, u96, u97, u98, u99, u100, u101, u102, u103, u104, u105, u106, u107, u108, u109, u110, u111, u112, u113, u114, u115, u116, u117, u118, u119, u120, u121, u122, u123, u124, u125, u126, u127, u128, u129, u130, u131, u132, u133, u134, u135, u136, u137, u138, u139, u140, u141, u142, u143, u144, u145, u146, u147, u148, u149, u150, u151, .bool true, .bool true, .slice (some ⟨bl, off, none⟩) l.length cap, .int .i64 (k : Int), .pointer (some ⟨bl, off + k * 6, none⟩), .agg #[.int .u8 kd, .int .i64 gen, .int .u8 (bb : Int), .int .i64 sz, .int .i64 N, .int .i64 kp], .slice p5 M c5, x 0, x 1, x 2, x 3, x 4, x 5, x 6, x 7, x 8, x 9, x 10, x 11, x 12, x 13, x 14, x 15, x 16, u176, u177, u178, u179, u180, u181, u182, u183, u184, u185, u186, u187, u188, u189, u190, u191, u192, u193, u194, u195, u196, u197, u198, u199, u200, u201, u202, u203, u204, u205, u206, u207, u208, u209, u210, u211, u212, u213, u214, u215, u216, u217, u218, u219, u220, u221, u222, u223, u224, u225, u226, u227, u228, u229, u230, u231, u232, u233, u234, u235, u236, u237, u238, u239, u240, u241, u242, u243, u244, u245, u246, u247, u248, u249, u250, u251, undef], defers := [] }) (fun i => ([u159, u160, u161, u162, u163, u164, u165, u166, u167, u168, u169, u170, u171, u172, u173, u174, u175, .bool true] : List Value).getD i undef) (by kernel_rfl) rfl rfl (by kernel_rfl) (by kernel_rfl) (by kernel_rfl) (by kernel_rfl) (HT0.out) ?_ ?_
              · refine ⟨ObS.of_val rfl (fun x v => rfl) (fun x V kst hC hD => ?_), ?_⟩
                · clear hD
                  refine want_yes rfl ?_
                  exact leads_value (v := ptrV vb) (by go_simp) ⟨rfl, hC⟩
                refine ⟨ObS.of_val rfl (fun x v => rfl) (fun x V kst hC hD => ?_), ?_⟩
                · clear hD
                  refine want_yes rfl ?_
                  exact leads_value (v := .slice (some ⟨bl, off, none⟩) l.length cap) (by go_simp) ⟨rfl, hC⟩
                refine ⟨ObS.of_val rfl (fun x v => rfl) (fun x V kst hC hD => ?_), ?_⟩
                · clear hD
                  refine want_yes rfl ?_
                  exact leads_value (v := .int .i64 (k : Int)) (by go_simp) ⟨rfl, hC⟩
                refine ⟨ObS.of_val rfl (fun x v => rfl) (fun x V kst hC hD => ?_), ?_⟩
                · have e1 : x 1 = .slice (some ⟨bl, off, none⟩) l.length cap := hD.1 rfl
                  have e2 : x 2 = .int .i64 (k : Int) := hD.2.1 rfl
                  clear hD
                  refine want_yes rfl ?_
                  exact leads_value (v := .pointer (some ⟨bl, off + k * 6, none⟩)) (by go_simp) ⟨rfl, hC⟩
                refine ⟨ObS.of_val rfl (fun x v => rfl) (fun x V kst hC hD => ?_), ?_⟩
                · have e3 : x 3 = .pointer (some ⟨bl, off + k * 6, none⟩) := hD.1 rfl
                  clear hD
                  refine want_yes rfl ?_
                  exact leads_value (v := .pointer (some ⟨bl, off + k * 6 + 1, none⟩)) (by go_simp) ⟨rfl, hC⟩
                refine ⟨ObS.of_val rfl (fun x v => rfl) (fun x V kst hC hD => ?_), ?_⟩
                · have e4 : x 4 = .pointer (some ⟨bl, off + k * 6 + 1, none⟩) := hD.1 rfl
                  clear hD
                  refine want_yes rfl ?_
                  have k0 := (HQ.out V (PairQ.below kst V hC)).2.1
                  exact leads_value (v := .int .i64 gen) (by go_simp) ⟨rfl, hC⟩
                refine ⟨ObS.of_val rfl (fun x v => rfl) (fun x V kst hC hD => ?_), ?_⟩
                · clear hD
                  refine want_yes rfl ?_
                  exact leads_value (v := .slice p5 M c5) (by go_simp) ⟨rfl, hC⟩
                refine ⟨ObS.of_turn rfl (fun x v => rfl) (fun x V hC hD => ?_), ?_⟩
                · have e0 : x 0 = ptrV vb := hD.1 rfl
                  have e5 : x 5 = .int .i64 gen := hD.2.1 rfl
                  have e6 : x 6 = .slice p5 M c5 := hD.2.2.1 rfl
                  clear hD
                  refine want_yes rfl ?_
                  obtain ⟨F0, hq, hb, hap⟩ := (show PairQ K R w vb db a c dv S (saveD S a gen L) p5 M c5 L 0 V from hC)
                  exact leads_enter2 (by go_simp) ((hq.save CVS.out gen (by omega) hb (by have := hb.same; omega) (fun x hx hne => (hap x hx hne).1)).mono fun e w'' ⟨he, ⟨F1, h1⟩, hc⟩ => ⟨_, he, rfl, F1, h1, hb.chg2 hc (fun x hx hne => (hap x hx hne).1.1), fun x hx hne => (hap x hx hne).2⟩)
                refine ⟨ObS.of_val rfl (fun x v => rfl) (fun x V kst hC hD => ?_), ?_⟩
                · clear hD
                  refine want_yes rfl ?_
                  exact leads_value (v := .int .i64 (a : Int)) (by go_simp) ⟨rfl, hC⟩
                refine ⟨ObS.of_val rfl (fun x v => rfl) (fun x V kst hC hD => ?_), ?_⟩
                · clear hD
                  refine want_yes rfl ?_
                  exact leads_value (v := .slice (some ⟨bl, off, none⟩) l.length cap) (by go_simp) ⟨rfl, hC⟩
                refine ⟨ObS.of_val rfl (fun x v => rfl) (fun x V kst hC hD => ?_), ?_⟩
                · clear hD
                  refine want_yes rfl ?_
                  exact leads_value (v := .int .i64 (k : Int)) (by go_simp) ⟨rfl, hC⟩
                refine ⟨ObS.of_val rfl (fun x v => rfl) (fun x V kst hC hD => ?_), ?_⟩
                · have e9 : x 9 = .slice (some ⟨bl, off, none⟩) l.length cap := hD.1 rfl
                  have e10 : x 10 = .int .i64 (k : Int) := hD.2.1 rfl
                  clear hD
                  refine want_yes rfl ?_
                  exact leads_value (v := .pointer (some ⟨bl, off + k * 6, none⟩)) (by go_simp) ⟨rfl, hC⟩
                refine ⟨ObS.of_val rfl (fun x v => rfl) (fun x V kst hC hD => ?_), ?_⟩
                · have e11 : x 11 = .pointer (some ⟨bl, off + k * 6, none⟩) := hD.1 rfl
                  clear hD
                  refine want_yes rfl ?_
                  exact leads_value (v := .pointer (some ⟨bl, off + k * 6 + 1, none⟩)) (by go_simp) ⟨rfl, hC⟩
                refine ⟨ObS.of_val rfl (fun x v => rfl) (fun x V kst hC hD => ?_), ?_⟩
                · have e12 : x 12 = .pointer (some ⟨bl, off + k * 6 + 1, none⟩) := hD.1 rfl
                  clear hD
                  refine want_yes rfl ?_
                  have k0 := (HQ.out V (PairQ.below kst V hC)).2.1
                  exact leads_value (v := .int .i64 gen) (by go_simp) ⟨rfl, hC⟩
                refine ⟨ObS.of_val rfl (fun x v => rfl) (fun x V kst hC hD => ?_), ?_⟩
                · clear hD
                  refine want_yes rfl ?_
                  exact leads_value (v := .slice p5 M c5) (by go_simp) ⟨rfl, hC⟩
                refine ⟨ObS.of_turn rfl (fun x v => rfl) (fun x V hC hD => ?_), ?_⟩
                · have e8 : x 8 = .int .i64 (a : Int) := hD.1 rfl
                  have e13 : x 13 = .int .i64 gen := hD.2.1 rfl
                  have e14 : x 14 = .slice p5 M c5 := hD.2.2.1 rfl
                  have e7 : x 7 = .int .i64 (saveE S a gen L) := hD.2.2.2.1 rfl
                  clear hD
                  refine want_yes rfl ?_
                  obtain ⟨F1, hq, hb, hap⟩ := (show PairQ K R w vb db a c dv S (saveD S a gen L) p5 M c5 L 1 V from hC)
                  exact leads_enter2 (by go_simp) ((rvSave_any a gen hq.rd hokS (by omega) hb (by have := hb.same; omega) hap (by omega)).mono fun e w'' ⟨he, hr, hc⟩ => ⟨_, he, rfl, F1, hq.rto hr hc⟩)
                refine ⟨ObS.of_val rfl (fun x v => rfl) (fun x V kst hC hD => ?_), ?_⟩
                · have e7 : x 7 = .int .i64 (saveE S a gen L) := hD.1 rfl
                  have e15 : x 15 = .int .i64 (saveE S a gen L) := hD.2.1 rfl
                  clear hD
                  refine want_yes rfl ?_
                  exact leads_value (v := .bool true) (by go_simp) ⟨rfl, hC⟩
                refine ⟨ObS.of_val rfl (fun x v => rfl) (fun x V kst hC hD => ?_), ?_⟩
                · have e16 : x 16 = .bool true := hD.1 rfl
                  have e15 : x 15 = .int .i64 (saveE S a gen L) := hD.2.1 rfl
                  have e0 : x 0 = ptrV vb := hD.2.2.1 rfl
                  have e1 : x 1 = .slice (some ⟨bl, off, none⟩) l.length cap := hD.2.2.2.1 rfl
                  have e2 : x 2 = .int .i64 (k : Int) := hD.2.2.2.2.1 rfl
                  have e3 : x 3 = .pointer (some ⟨bl, off + k * 6, none⟩) := hD.2.2.2.2.2.1 rfl
                  have e4 : x 4 = .pointer (some ⟨bl, off + k * 6 + 1, none⟩) := hD.2.2.2.2.2.2.1 rfl
                  have e5 : x 5 = .int .i64 gen := hD.2.2.2.2.2.2.2.1 rfl
                  have e6 : x 6 = .slice p5 M c5 := hD.2.2.2.2.2.2.2.2.1 rfl
                  have e7 : x 7 = .int .i64 (saveE S a gen L) := hD.2.2.2.2.2.2.2.2.2.1 rfl
                  have e8 : x 8 = .int .i64 (a : Int) := hD.2.2.2.2.2.2.2.2.2.2.1 rfl
                  have e9 : x 9 = .slice (some ⟨bl, off, none⟩) l.length cap := hD.2.2.2.2.2.2.2.2.2.2.2.1 rfl
                  have e10 : x 10 = .int .i64 (k : Int) := hD.2.2.2.2.2.2.2.2.2.2.2.2.1 rfl
                  have e11 : x 11 = .pointer (some ⟨bl, off + k * 6, none⟩) := hD.2.2.2.2.2.2.2.2.2.2.2.2.2.1 rfl
                  have e12 : x 12 = .pointer (some ⟨bl, off + k * 6 + 1, none⟩) := hD.2.2.2.2.2.2.2.2.2.2.2.2.2.2.1 rfl
                  have e13 : x 13 = .int .i64 gen := hD.2.2.2.2.2.2.2.2.2.2.2.2.2.2.2.1 rfl
                  have e14 : x 14 = .slice p5 M c5 := hD.2.2.2.2.2.2.2.2.2.2.2.2.2.2.2.2.1 rfl
                  clear hD
                  refine want_yes rfl ?_
                  exact leads_value (v := .bool true) (by go_simp) ⟨rfl, hC⟩
                trivial
              · intro xa V hC hx
                obtain ⟨F', hP'⟩ := (show ∃ F', QP K R w vb db a c dv (saveD S a gen L) (saveD S a gen L) F' V from hC)
                have e17 : xa 17 = .bool true := hx 17 (by simp)
                have HP' := Lib.hid hP'
                clear hx hP' hC
                rw [e17]
                clear e17
                go_wp2_with fail
                go_meet
                exact ⟨rfl, saveD S a gen L, F', HP'.out, by have := HS.out.1; have := saveD_wr S a gen L; omega, (saveD_len hokS a gen L).trans HS.out.2⟩
            · as_aux_lemma =>
              have b0 : (kd % 4 == 0) = false := by simp; omega
              have b1 : (kd % 4 == 1) = true := by simpa using hm1
              clear hm1 HM
              go_upto_region 21 with fail
              have hokS : DSOk S := HP.out.vp.ok
              have HT0 := Lib.hid (show PairQ K R w vb db a c dv S (armS S N kp) none 0 0 [] 0 wr.drew from ⟨F, HP.out.drew, bsAt_nil _, fun x hx => by cases hx⟩)
              refine wp_region_S (PairQ K R w vb db a c dv S (armS S N kp) none 0 0 []) 2 [.val (.pointer (some ⟨db, 0, none⟩)), .val (.slice (some ⟨bl, off, none⟩) l.length cap), .val (.int .i64 (k : Int)), .val (.pointer (some ⟨bl, off + k * 6, none⟩)), .val (.pointer (some ⟨bl, off + k * 6 + 4, none⟩)), .val (.int .i64 N), .val (.slice (some ⟨bl, off, none⟩) l.length cap), .val (.int .i64 (k : Int)), .val (.pointer (some ⟨bl, off + k * 6, none⟩)), .val (.pointer (some ⟨bl, off + k * 6 + 5, none⟩)), .val (.int .i64 kp), .turn 0 (.int .i64 (armE N kp)), .val (.slice (some ⟨bl, off, none⟩) l.length cap), .val (.int .i64 (k : Int)), .val (.pointer (some ⟨bl, off + k * 6, none⟩)), .val (.pointer (some ⟨bl, off + k * 6 + 4, none⟩)), .val (.int .i64 N), .val (.slice (some ⟨bl, off, none⟩) l.length cap), .val (.int .i64 (k : Int)), .val (.pointer (some ⟨bl, off + k * 6, none⟩)), .val (.pointer (some ⟨bl, off + k * 6 + 5, none⟩)), .val (.int .i64 kp), .turn 1 (.int .i64 (armE N kp)), .val (.bool true), .val (.bool true)]
                (fun x => { tmps := #[.int .i64 (a : Int), .slice (some ⟨bl, off, none⟩) l.length cap, undef, undef, u4, .pointer (some ⟨db, 0, none⟩), .int .i64 0, ptrV vb, .int .i64 0, .pointer (some ⟨c, 0, none⟩), .int .i64 (k : Int), x 24, u12, u13, u14, u15, u16, u17, u18, u19, u20, .tuple #[.pointer (some ⟨db, 0, none⟩), .int .i64 0], .tuple #[.pointer (some ⟨db, 0, none⟩), .int .i64 0], .pointer (some ⟨db, 0, none⟩), .int .i64 0, .tuple #[ptrV vb, .int .i64 0], .pointer (some ⟨db, 0, none⟩), .int .i64 (a : Int), .tuple #[ptrV vb, .int .i64 0], ptrV vb, .int .i64 0, .pointer (some ⟨db, 0, none⟩), .bool false, .bool false, .int .i64 (a : Int), .bool (decide ((a : Int) < 0)), .bool (decide ((a : Int) < 0)), .bool (decide ((a : Int) < 0)), .int .i64 (a : Int), .bool (decide (4 < (a : Int))), .bool (decide ((a : Int) < 0) || decide (4 < (a : Int))), undef, undef, undef, undef, undef, undef, undef, undef, undef, undef, undef, undef, undef, ptrV vb, .bool false, .bool false, .int .i64 0, .bool false, .bool false, .bool false, .slice (some ⟨bl, off, none⟩) l.length cap, .int .i64 (l.length : Int), .bool (decide (12 < (l.length : Int))), .bool (decide (12 < (l.length : Int))), undef, undef, undef, undef, undef, undef, undef, undef, undef, .agg #[dv, .bool false, .int .i64 (-1), .int .i64 0, .int .i64 0], .int .i64 (k : Int), .slice (some ⟨bl, off, none⟩) l.length cap, .int .i64 (l.length : Int), .bool true, u79, u80, .slice (some ⟨bl, off, none⟩) l.length cap, .int .i64 (k : Int), .pointer (some ⟨bl, off + k * 6, none⟩), .pointer (some ⟨bl, off + k * 6, none⟩), .int .u8 kd, .int .u8 (kd % 4), u87, u88, u89, u90, u91, u92, u93, u94, u95, u96, u97, u98, u99, u100, u101, u102, u103, u104, u105, u106, u107, u108, u109, u110, u111, u112, u113, u114, u115, u116, u117, u118, u119, u120, u121, u122, u123, u124, u125, u126, u127, u128, u129, u130, u131, u132, u133, u134, u135, u136, u137, u138, u139, u140, u141, u142, u143, u144, u145, u146, u147, u148, u149, u150, u151, .bool false, .bool false, u154, u155, u156, u157, u158, u159, u160, u161, u162, u163, u164, u165, u166, u167, u168, u169, u170, u171, u172, u173, u174, u175, .bool true, .bool true, x 0, x 1, x 2, x 3, x 4, x 5, x 6, x 7, x 8, x 9, x 10, x 11, x 12, x 13, x 14, x 15, x 16, x 17, x 18, x 19, x 20, x 21, x 22, x 23, u202, u203, u204, u205, u206, u207, u208, u209, u210, u211, u212, u213, u214, u215, u216, u217, u218, u219, u220, u221, u222, u223, u224, u225, u226, u227, u228, u229, u230, u231, u232, u233, u234, u235, u236, u237, u238, u239, u240, u241, u242, u243, u244, u245, u246, u247, u248, u249, u250, u251, undef], defers := [] }) (fun i => ([u178, u179, u180, u181, u182, u183, u184, u185, u186, u187, u188, u189, u190, u191, u192, u193, u194, u195, u196, u197, u198, u199, u200, u201, .bool true] : List Value).getD i undef) (by kernel_rfl) rfl rfl (by kernel_rfl) (by kernel_rfl) (by kernel_rfl) (by kernel_rfl) (HT0.out) ?_ ?_
              · refine ⟨ObS.of_val rfl (fun x v => rfl) (fun x V kst hC hD => ?_), ?_⟩
                · clear hD
                  refine want_yes rfl ?_
                  exact leads_value (v := .pointer (some ⟨db, 0, none⟩)) (by go_simp) ⟨rfl, hC⟩
                refine ⟨ObS.of_val rfl (fun x v => rfl) (fun x V kst hC hD => ?_), ?_⟩
                · clear hD
                  refine want_yes rfl ?_
                  exact leads_value (v := .slice (some ⟨bl, off, none⟩) l.length cap) (by go_simp) ⟨rfl, hC⟩
                refine ⟨ObS.of_val rfl (fun x v => rfl) (fun x V kst hC hD => ?_), ?_⟩
                · clear hD
                  refine want_yes rfl ?_
                  exact leads_value (v := .int .i64 (k : Int)) (by go_simp) ⟨rfl, hC⟩
                refine ⟨ObS.of_val rfl (fun x v => rfl) (fun x V kst hC hD => ?_), ?_⟩
                · have e1 : x 1 = .slice (some ⟨bl, off, none⟩) l.length cap := hD.1 rfl
                  have e2 : x 2 = .int .i64 (k : Int) := hD.2.1 rfl
                  clear hD
                  refine want_yes rfl ?_
                  exact leads_value (v := .pointer (some ⟨bl, off + k * 6, none⟩)) (by go_simp) ⟨rfl, hC⟩
                refine ⟨ObS.of_val rfl (fun x v => rfl) (fun x V kst hC hD => ?_), ?_⟩
                · have e3 : x 3 = .pointer (some ⟨bl, off + k * 6, none⟩) := hD.1 rfl
                  clear hD
                  refine want_yes rfl ?_
                  exact leads_value (v := .pointer (some ⟨bl, off + k * 6 + 4, none⟩)) (by go_simp) ⟨rfl, hC⟩
                refine ⟨ObS.of_val rfl (fun x v => rfl) (fun x V kst hC hD => ?_), ?_⟩
                · have e4 : x 4 = .pointer (some ⟨bl, off + k * 6 + 4, none⟩) := hD.1 rfl
                  clear hD
                  refine want_yes rfl ?_
                  have k0 := (HQ.out V (PairQ.below kst V hC)).2.2.2.2.1
                  exact leads_value (v := .int .i64 N) (by go_simp) ⟨rfl, hC⟩
                refine ⟨ObS.of_val rfl (fun x v => rfl) (fun x V kst hC hD => ?_), ?_⟩
                · clear hD
                  refine want_yes rfl ?_
                  exact leads_value (v := .slice (some ⟨bl, off, none⟩) l.length cap) (by go_simp) ⟨rfl, hC⟩
                refine ⟨ObS.of_val rfl (fun x v => rfl) (fun x V kst hC hD => ?_), ?_⟩
                · clear hD
                  refine want_yes rfl ?_
                  exact leads_value (v := .int .i64 (k : Int)) (by go_simp) ⟨rfl, hC⟩
                refine ⟨ObS.of_val rfl (fun x v => rfl) (fun x V kst hC hD => ?_), ?_⟩
                · have e6 : x 6 = .slice (some ⟨bl, off, none⟩) l.length cap := hD.1 rfl
                  have e7 : x 7 = .int .i64 (k : Int) := hD.2.1 rfl
                  clear hD
                  refine want_yes rfl ?_
                  exact leads_value (v := .pointer (some ⟨bl, off + k * 6, none⟩)) (by go_simp) ⟨rfl, hC⟩
                refine ⟨ObS.of_val rfl (fun x v => rfl) (fun x V kst hC hD => ?_), ?_⟩
                · have e8 : x 8 = .pointer (some ⟨bl, off + k * 6, none⟩) := hD.1 rfl
                  clear hD
                  refine want_yes rfl ?_
                  exact leads_value (v := .pointer (some ⟨bl, off + k * 6 + 5, none⟩)) (by go_simp) ⟨rfl, hC⟩
                refine ⟨ObS.of_val rfl (fun x v => rfl) (fun x V kst hC hD => ?_), ?_⟩
                · have e9 : x 9 = .pointer (some ⟨bl, off + k * 6 + 5, none⟩) := hD.1 rfl
                  clear hD
                  refine want_yes rfl ?_
                  have k0 := (HQ.out V (PairQ.below kst V hC)).2.2.2.2.2
                  exact leads_value (v := .int .i64 kp) (by go_simp) ⟨rfl, hC⟩
                refine ⟨ObS.of_turn rfl (fun x v => rfl) (fun x V hC hD => ?_), ?_⟩
                · have e0 : x 0 = .pointer (some ⟨db, 0, none⟩) := hD.1 rfl
                  have e5 : x 5 = .int .i64 N := hD.2.1 rfl
                  have e10 : x 10 = .int .i64 kp := hD.2.2.1 rfl
                  clear hD
                  refine want_yes rfl ?_
                  obtain ⟨F0, hq, hb, -⟩ := (show PairQ K R w vb db a c dv S (armS S N kp) none 0 0 [] 0 V from hC)
                  exact leads_enter2 (by go_simp) ((hq.arm CA.out N kp hn2).mono fun e w'' ⟨he, F1, h1⟩ => ⟨_, he, rfl, F1, h1, bsAt_nil _, fun x hx => by cases hx⟩)
                refine ⟨ObS.of_val rfl (fun x v => rfl) (fun x V kst hC hD => ?_), ?_⟩
                · clear hD
                  refine want_yes rfl ?_
                  exact leads_value (v := .slice (some ⟨bl, off, none⟩) l.length cap) (by go_simp) ⟨rfl, hC⟩
                refine ⟨ObS.of_val rfl (fun x v => rfl) (fun x V kst hC hD => ?_), ?_⟩
                · clear hD
                  refine want_yes rfl ?_
                  exact leads_value (v := .int .i64 (k : Int)) (by go_simp) ⟨rfl, hC⟩
                refine ⟨ObS.of_val rfl (fun x v => rfl) (fun x V kst hC hD => ?_), ?_⟩
                · have e12 : x 12 = .slice (some ⟨bl, off, none⟩) l.length cap := hD.1 rfl
                  have e13 : x 13 = .int .i64 (k : Int) := hD.2.1 rfl
                  clear hD
                  refine want_yes rfl ?_
                  exact leads_value (v := .pointer (some ⟨bl, off + k * 6, none⟩)) (by go_simp) ⟨rfl, hC⟩
                refine ⟨ObS.of_val rfl (fun x v => rfl) (fun x V kst hC hD => ?_), ?_⟩
                · have e14 : x 14 = .pointer (some ⟨bl, off + k * 6, none⟩) := hD.1 rfl
                  clear hD
                  refine want_yes rfl ?_
                  exact leads_value (v := .pointer (some ⟨bl, off + k * 6 + 4, none⟩)) (by go_simp) ⟨rfl, hC⟩
                refine ⟨ObS.of_val rfl (fun x v => rfl) (fun x V kst hC hD => ?_), ?_⟩
                · have e15 : x 15 = .pointer (some ⟨bl, off + k * 6 + 4, none⟩) := hD.1 rfl
                  clear hD
                  refine want_yes rfl ?_
                  have k0 := (HQ.out V (PairQ.below kst V hC)).2.2.2.2.1
                  exact leads_value (v := .int .i64 N) (by go_simp) ⟨rfl, hC⟩
                refine ⟨ObS.of_val rfl (fun x v => rfl) (fun x V kst hC hD => ?_), ?_⟩
                · clear hD
                  refine want_yes rfl ?_
                  exact leads_value (v := .slice (some ⟨bl, off, none⟩) l.length cap) (by go_simp) ⟨rfl, hC⟩
                refine ⟨ObS.of_val rfl (fun x v => rfl) (fun x V kst hC hD => ?_), ?_⟩
                · clear hD
                  refine want_yes rfl ?_
                  exact leads_value (v := .int .i64 (k : Int)) (by go_simp) ⟨rfl, hC⟩
                refine ⟨ObS.of_val rfl (fun x v => rfl) (fun x V kst hC hD => ?_), ?_⟩
                · have e17 : x 17 = .slice (some ⟨bl, off, none⟩) l.length cap := hD.1 rfl
                  have e18 : x 18 = .int .i64 (k : Int) := hD.2.1 rfl
                  clear hD
                  refine want_yes rfl ?_
                  exact leads_value (v := .pointer (some ⟨bl, off + k * 6, none⟩)) (by go_simp) ⟨rfl, hC⟩
                refine ⟨ObS.of_val rfl (fun x v => rfl) (fun x V kst hC hD => ?_), ?_⟩
                · have e19 : x 19 = .pointer (some ⟨bl, off + k * 6, none⟩) := hD.1 rfl
                  clear hD
                  refine want_yes rfl ?_
                  exact leads_value (v := .pointer (some ⟨bl, off + k * 6 + 5, none⟩)) (by go_simp) ⟨rfl, hC⟩
                refine ⟨ObS.of_val rfl (fun x v => rfl) (fun x V kst hC hD => ?_), ?_⟩
                · have e20 : x 20 = .pointer (some ⟨bl, off + k * 6 + 5, none⟩) := hD.1 rfl
                  clear hD
                  refine want_yes rfl ?_
                  have k0 := (HQ.out V (PairQ.below kst V hC)).2.2.2.2.2
                  exact leads_value (v := .int .i64 kp) (by go_simp) ⟨rfl, hC⟩
                refine ⟨ObS.of_turn rfl (fun x v => rfl) (fun x V hC hD => ?_), ?_⟩
                · have e16 : x 16 = .int .i64 N := hD.1 rfl
                  have e21 : x 21 = .int .i64 kp := hD.2.1 rfl
                  have e11 : x 11 = .int .i64 (armE N kp) := hD.2.2.1 rfl
                  clear hD
                  refine want_yes rfl ?_
                  obtain ⟨F1, hq, hb, -⟩ := (show PairQ K R w vb db a c dv S (armS S N kp) none 0 0 [] 1 V from hC)
                  exact leads_enter2 (by go_simp) ((rdArm_any N kp hq.rd).mono fun e w'' ⟨he, hr, hc⟩ => ⟨_, he, rfl, F1, hq.rto hr (hc.mono fun i _ hi => .inl hi)⟩)
                refine ⟨ObS.of_val rfl (fun x v => rfl) (fun x V kst hC hD => ?_), ?_⟩
                · have e11 : x 11 = .int .i64 (armE N kp) := hD.1 rfl
                  have e22 : x 22 = .int .i64 (armE N kp) := hD.2.1 rfl
                  clear hD
                  refine want_yes rfl ?_
                  exact leads_value (v := .bool true) (by go_simp) ⟨rfl, hC⟩
                refine ⟨ObS.of_val rfl (fun x v => rfl) (fun x V kst hC hD => ?_), ?_⟩
                · have e23 : x 23 = .bool true := hD.1 rfl
                  have e22 : x 22 = .int .i64 (armE N kp) := hD.2.1 rfl
                  have e0 : x 0 = .pointer (some ⟨db, 0, none⟩) := hD.2.2.1 rfl
                  have e1 : x 1 = .slice (some ⟨bl, off, none⟩) l.length cap := hD.2.2.2.1 rfl
                  have e2 : x 2 = .int .i64 (k : Int) := hD.2.2.2.2.1 rfl
                  have e3 : x 3 = .pointer (some ⟨bl, off + k * 6, none⟩) := hD.2.2.2.2.2.1 rfl
                  have e4 : x 4 = .pointer (some ⟨bl, off + k * 6 + 4, none⟩) := hD.2.2.2.2.2.2.1 rfl
                  have e5 : x 5 = .int .i64 N := hD.2.2.2.2.2.2.2.1 rfl
                  have e6 : x 6 = .slice (some ⟨bl, off, none⟩) l.length cap := hD.2.2.2.2.2.2.2.2.1 rfl
                  have e7 : x 7 = .int .i64 (k : Int) := hD.2.2.2.2.2.2.2.2.2.1 rfl
                  have e8 : x 8 = .pointer (some ⟨bl, off + k * 6, none⟩) := hD.2.2.2.2.2.2.2.2.2.2.1 rfl
                  have e9 : x 9 = .pointer (some ⟨bl, off + k * 6 + 5, none⟩) := hD.2.2.2.2.2.2.2.2.2.2.2.1 rfl
                  have e10 : x 10 = .int .i64 kp := hD.2.2.2.2.2.2.2.2.2.2.2.2.1 rfl
                  have e11 : x 11 = .int .i64 (armE N kp) := hD.2.2.2.2.2.2.2.2.2.2.2.2.2.1 rfl
                  have e12 : x 12 = .slice (some ⟨bl, off, none⟩) l.length cap := hD.2.2.2.2.2.2.2.2.2.2.2.2.2.2.1 rfl
                  have e13 : x 13 = .int .i64 (k : Int) := hD.2.2.2.2.2.2.2.2.2.2.2.2.2.2.2.1 rfl
                  have e14 : x 14 = .pointer (some ⟨bl, off + k * 6, none⟩) := hD.2.2.2.2.2.2.2.2.2.2.2.2.2.2.2.2.1 rfl
                  have e15 : x 15 = .pointer (some ⟨bl, off + k * 6 + 4, none⟩) := hD.2.2.2.2.2.2.2.2.2.2.2.2.2.2.2.2.2.1 rfl
                  have e16 : x 16 = .int .i64 N := hD.2.2.2.2.2.2.2.2.2.2.2.2.2.2.2.2.2.2.1 rfl
                  have e17 : x 17 = .slice (some ⟨bl, off, none⟩) l.length cap := hD.2.2.2.2.2.2.2.2.2.2.2.2.2.2.2.2.2.2.2.1 rfl
                  have e18 : x 18 = .int .i64 (k : Int) := hD.2.2.2.2.2.2.2.2.2.2.2.2.2.2.2.2.2.2.2.2.1 rfl
                  have e19 : x 19 = .pointer (some ⟨bl, off + k * 6, none⟩) := hD.2.2.2.2.2.2.2.2.2.2.2.2.2.2.2.2.2.2.2.2.2.1 rfl
                  have e20 : x 20 = .pointer (some ⟨bl, off + k * 6 + 5, none⟩) := hD.2.2.2.2.2.2.2.2.2.2.2.2.2.2.2.2.2.2.2.2.2.2.1 rfl
                  have e21 : x 21 = .int .i64 kp := hD.2.2.2.2.2.2.2.2.2.2.2.2.2.2.2.2.2.2.2.2.2.2.2.1 rfl
                  clear hD
                  refine want_yes rfl ?_
                  exact leads_value (v := .bool true) (by go_simp) ⟨rfl, hC⟩
                trivial
              · intro xa V hC hx
                obtain ⟨F', hP'⟩ := (show ∃ F', QP K R w vb db a c dv (armS S N kp) (armS S N kp) F' V from hC)
                have e24 : xa 24 = .bool true := hx 24 (by simp)
                have HP' := Lib.hid hP'
                clear hx hP' hC
                rw [e24]
                clear e24
                go_wp2_with fail
                go_meet
                have hT : (armS S N kp).wr = S.wr := by unfold armS; split <;> rfl
                exact ⟨rfl, armS S N kp, F', HP'.out, by have := HS.out.1; omega, (show (armS S N kp).len = S.len by unfold DS.len; rw [armS_all]).trans HS.out.2⟩
            · as_aux_lemma =>
              have b0 : (kd % 4 == 0) = false := by simp; omega
              have b1 : (kd % 4 == 1) = false := by simp; omega
              have b2 : (kd % 4 == 2) = true := by simpa using hm2
              clear hm2 HM
              have HPw := Lib.hid (HP.out.power CP.out)
              go_upto_region 23 with fail
              go_wp2_with fail
              refine HPw.out.mono ?_
              rintro e w5 ⟨rfl, F5, hP5⟩
              have HP5 := Lib.hid hP5
              have HPr := Lib.hid (rdPower_any HP5.out.rd)
              clear hP5 HPw HP
              go_upto_region 24 with fail
              go_wp2_with fail
              refine HPr.out.mono ?_
              rintro e w6 ⟨rfl, hR6, hc6⟩
              have HP6 := Lib.hid (HP5.out.rto hR6 (hc6.mono fun i _ hi => .inl hi))
              clear hR6 hc6 HP5 HPr
              go_wp2_with fail
              go_meet
              exact ⟨rfl, powerS S, F5, HP6.out, by show S.wr ≤ _; have := HS.out.1; omega, HS.out.2⟩
            · as_aux_lemma =>
              have b0 : (kd % 4 == 0) = false := by simp; omega
              have b1 : (kd % 4 == 1) = false := by simp; omega
              have b2 : (kd % 4 == 2) = false := by simp; omega
              clear hm3 HM
              have j4 := (HQ.out wr HP.out.below).2.2.2.2.1
              have HRd := Lib.hid (rdRead_own N HP.out.rd HP.out.vp.ok)
              have HBw0 := Lib.hid HP.out.below
              go_upto_region 13 with fail
              go_wp2_with fail
              refine HRd.out.mono ?_
              rintro e w5 ⟨p5, c5, rfl, hR5, hB5⟩
              have HP5 := Lib.hid (HP.out.step hB5)
              have HR5 := Lib.hid hR5
              have HFl := Lib.hid (show (∀ k, F k → k < wr.heap.size) ∧ ∀ k, foot c dv k → k < wr.heap.size from ⟨HP.out.vp.lt, fun k hk => HP.out.foot_lt hk⟩)
              have j5 := (HQ.out w5 HP5.out.below).2.2.2.2.2
              have HSm := Lib.hid (show ∃ S2 F2, QP K R w vb db a c dv S2 S2 F2 w5 ∧ S2.wr ≤ 300 * ((k + 1 : Nat) : Int) ∧ S2.len = 516 from ⟨S, F, HP5.out, by have := HS.out.1; omega, HS.out.2⟩)
              clear hR5 hB5 j0 j4 HP HRd
              generalize readL S N = L at *
              by_cases hlen : L.length = 128
              · by_cases hk0 : 0 ≤ kp
                · by_cases hk1 : kp < 128
                  · rw [hlen] at HR5 ⊢
                    obtain ⟨kq, rfl⟩ := Int.eq_ofNat_of_zero_le hk0
                    have hkq : kq < 128 := by omega
                    have HLn := Lib.hid hlen
                    clear hlen HSm
                    obtain ⟨g5, rfl⟩ := row_addr HR5.out (by decide)
                    have hkl : kq < L.length := by rw [HLn.out]; exact hkq
                    have hg5 := HR5.out.lt g5 rfl
                    have jb := (HQ.out w5 HP5.out.below).2.2.1
                    have c0 : w5.cell? ⟨g5, kq, none⟩ = some (.int .u8 (L[kq].toNat : Int)) := by rw [HR5.out.cellAt kq (by omega)]; exact bvs_get L _ _
                    have f0 := HR5.out.frozenAt kq
                    have hx : L[kq].toNat < 256 := L[kq].toNat_lt
                    have hbb : bb < 256 := by omega
                    have hxor := u8_xor_nat L[kq].toNat bb hx hbb
                    have hy : L[kq].toNat ^^^ bb < 256 := Nat.xor_lt_two_pow (n := 8) hx hbb
                    have HY := Lib.hid (show (UInt8.ofNat (L[kq].toNat ^^^ bb)).toNat = L[kq].toNat ^^^ bb by rw [UInt8.toNat_ofNat']; exact Nat.mod_eq_of_lt hy)
                    generalize hyy : L[kq].toNat ^^^ bb = y at *
                    generalize L[kq].toNat = x0 at *
                    have HST := Lib.hid (HR5.out.stored kq (.int .u8 (y : Int)))
                    clear hyy hx hy hkl
                    go_upto_region 15 with fail
                    go_still_tail 21, (by kernel_rfl)
                    change wpList _ _ _ _ _ w5.drew
                    have c0' : w5.drew.cell? ⟨g5, kq, none⟩ = some (.int .u8 (x0 : Int)) := c0
                    have f0' : w5.drew.frozen? ⟨g5, kq, none⟩ = false := f0
                    go_upto_region 16 with fail
                    have hF5 : ¬ F g5 := fun hf => by have := HFl.out.1 _ hf; omega
                    have hf5 : ¬ foot c dv g5 := fun hf => by have := HFl.out.2 _ hf; omega
                    have hgw : w.heap.size ≤ g5 := by have := HP5.out.below.size; have := hg5.1; have := HBw0.out.size; omega
                    have HP7 := Lib.hid (HP5.out.other hgw hF5 hf5 ((Chg.refl (fun j => j = g5) w5).setCell (p := ⟨g5, kq, none⟩) (fun _ => rfl) (.int .u8 (y : Int))))
                    have hst := HST.out.1
                    rw [show (bvs L).set kq (.int .u8 (y : Int)) = bvs (L.set kq (UInt8.ofNat y)) by rw [bvs_put1, HY.out]] at hst
                    have hL7 : (L.set kq (UInt8.ofNat y)).length = 128 := by rw [List.length_set]; exact HLn.out
                    have HB7 := Lib.hid (show BsAt (w5.setCell ⟨g5, kq, none⟩ (.int .u8 (y : Int))) (some ⟨g5, 0, none⟩) 128 c5 (L.set kq (UInt8.ofNat y)) from by
                      obtain ⟨q, d', e1, hbs⟩ := BsAt.ofRow hst
                      rw [Value.slice.injEq] at e1
                      obtain ⟨rfl, e2, rfl⟩ := e1
                      rw [hL7] at hbs
                      exact hbs)
                    have HSz := Lib.hid (show g5 < (w5.setCell ⟨g5, kq, none⟩ (.int .u8 (y : Int))).heap.size by simp [World.setCell]; exact hg5.2)
                    have HNo := Lib.hid (And.intro hF5 hf5)
                    clear hst hL7 HST HY hF5 hf5 hgw hg5 c0 f0 c0' f0' hxor hbb hkq HR5 HLn jb j5
                    generalize L.set kq (UInt8.ofNat y) = L7 at *
                    generalize w5.setCell ⟨g5, kq, none⟩ (.int .u8 (y : Int)) = w7 at *
                    have hokS : DSOk S := HP5.out.vp.ok
                    have HT0 := Lib.hid (show PairQ K R w vb db a c dv S (writeS S N L7) (some ⟨g5, 0, none⟩) 128 c5 L7 0 w7.drew.drew from ⟨F, HP7.out.drew.drew, HB7.out.below (Below.refl w7.heap.size w7).drew.drew (Nat.le_refl _), fun x hx _ => by cases hx; exact ⟨⟨HNo.out.1, HSz.out⟩, HNo.out.2⟩⟩)
                    refine wp_region_S (PairQ K R w vb db a c dv S (writeS S N L7) (some ⟨g5, 0, none⟩) 128 c5 L7) 2 [.val (.pointer (some ⟨db, 0, none⟩)), .val (.slice (some ⟨bl, off, none⟩) l.length cap), .val (.int .i64 (k : Int)), .val (.pointer (some ⟨bl, off + k * 6, none⟩)), .val (.pointer (some ⟨bl, off + k * 6 + 4, none⟩)), .val (.int .i64 N), .val (.slice (some ⟨g5, 0, none⟩) 128 c5), .turn 0 (.int .i64 (writeE S N L7)), .val (.slice (some ⟨bl, off, none⟩) l.length cap), .val (.int .i64 (k : Int)), .val (.pointer (some ⟨bl, off + k * 6, none⟩)), .val (.pointer (some ⟨bl, off + k * 6 + 4, none⟩)), .val (.int .i64 N), .val (.slice (some ⟨g5, 0, none⟩) 128 c5), .turn 1 (.int .i64 (writeE S N L7)), .val (.bool true), .val (.bool true)]
                      (fun x => { tmps := #[.int .i64 (a : Int), .slice (some ⟨bl, off, none⟩) l.length cap, undef, undef, u4, .pointer (some ⟨db, 0, none⟩), .int .i64 0, ptrV vb, .int .i64 0, .pointer (some ⟨c, 0, none⟩), .int .i64 (k : Int), x 16, u12, .slice (some ⟨g5, 0, none⟩) 128 c5, .int .i64 (readE S N), u15, u16, u17, u18, u19, u20, .tuple #[.pointer (some ⟨db, 0, none⟩), .int .i64 0], .tuple #[.pointer (some ⟨db, 0, none⟩), .int .i64 0], .pointer (some ⟨db, 0, none⟩), .int .i64 0, .tuple #[ptrV vb, .int .i64 0], .pointer (some ⟨db, 0, none⟩), .int .i64 (a : Int), .tuple #[ptrV vb, .int .i64 0], ptrV vb, .int .i64 0, .pointer (some ⟨db, 0, none⟩), .bool false, .bool false, .int .i64 (a : Int), .bool (decide ((a : Int) < 0)), .bool (decide ((a : Int) < 0)), .bool (decide ((a : Int) < 0)), .int .i64 (a : Int), .bool (decide (4 < (a : Int))), .bool (decide ((a : Int) < 0) || decide (4 < (a : Int))), undef, undef, undef, undef, undef, undef, undef, undef, undef, undef, undef, undef, undef, ptrV vb, .bool false, .bool false, .int .i64 0, .bool false, .bool false, .bool false, .slice (some ⟨bl, off, none⟩) l.length cap, .int .i64 (l.length : Int), .bool (decide (12 < (l.length : Int))), .bool (decide (12 < (l.length : Int))), undef, undef, undef, undef, undef, undef, undef, undef, undef, .agg #[dv, .bool false, .int .i64 (-1), .int .i64 0, .int .i64 0], .int .i64 (k : Int), .slice (some ⟨bl, off, none⟩) l.length cap, .int .i64 (l.length : Int), .bool true, u79, u80, .slice (some ⟨bl, off, none⟩) l.length cap, .int .i64 (k : Int), .pointer (some ⟨bl, off + k * 6, none⟩), .pointer (some ⟨bl, off + k * 6, none⟩), .int .u8 kd, .int .u8 (kd % 4), .tuple #[.slice (some ⟨g5, 0, none⟩) 128 c5, .int .i64 (readE S N)], .slice (some ⟨bl, off, none⟩) l.length cap, .int .i64 (k : Int), .pointer (some ⟨bl, off + k * 6, none⟩), .pointer (some ⟨bl, off + k * 6 + 4, none⟩), .int .i64 N, .tuple #[.slice (some ⟨g5, 0, none⟩) 128 c5, .int .i64 (readE S N)], .slice (some ⟨g5, 0, none⟩) 128 c5, .int .i64 (readE S N), .slice (some ⟨g5, 0, none⟩) 128 c5, .int .i64 128, .bool true, .bool true, .slice (some ⟨bl, off, none⟩) l.length cap, .int .i64 (k : Int), .pointer (some ⟨bl, off + k * 6, none⟩), .pointer (some ⟨bl, off + k * 6 + 5, none⟩), .int .i64 (kq : Int), .bool true, .bool true, .bool true, .slice (some ⟨bl, off, none⟩) l.length cap, .int .i64 (k : Int), .pointer (some ⟨bl, off + k * 6, none⟩), .pointer (some ⟨bl, off + k * 6 + 5, none⟩), .int .i64 (kq : Int), .bool true, .bool true, .slice (some ⟨g5, 0, none⟩) 128 c5, .slice (some ⟨bl, off, none⟩) l.length cap, .int .i64 (k : Int), .pointer (some ⟨bl, off + k * 6, none⟩), .pointer (some ⟨bl, off + k * 6 + 5, none⟩), .int .i64 (kq : Int), .slice (some ⟨g5, 0, none⟩) 128 c5, .slice (some ⟨bl, off, none⟩) l.length cap, .int .i64 (k : Int), .pointer (some ⟨bl, off + k * 6, none⟩), .pointer (some ⟨bl, off + k * 6 + 5, none⟩), .int .i64 (kq : Int), .pointer (some ⟨g5, kq, none⟩), .int .u8 (x0 : Int), .slice (some ⟨bl, off, none⟩) l.length cap, .int .i64 (k : Int), .pointer (some ⟨bl, off + k * 6, none⟩), .pointer (some ⟨bl, off + k * 6 + 2, none⟩), .int .u8 (bb : Int), .int .u8 (y : Int), .pointer (some ⟨g5, kq, none⟩), x 0, x 1, x 2, x 3, x 4, x 5, x 6, x 7, x 8, x 9, x 10, x 11, x 12, x 13, x 14, x 15, .bool false, .bool false, u154, u155, u156, u157, u158, u159, u160, u161, u162, u163, u164, u165, u166, u167, u168, u169, u170, u171, u172, u173, u174, u175, .bool false, .bool false, u178, u179, u180, u181, u182, u183, u184, u185, u186, u187, u188, u189, u190, u191, u192, u193, u194, u195, u196, u197, u198, u199, u200, u201, .bool false, .bool false, u204, u205, u206, u207, u208, u209, u210, u211, u212, u213, u214, u215, u216, u217, u218, u219, u220, u221, u222, u223, u224, u225, u226, u227, u228, u229, u230, u231, u232, u233, u234, u235, u236, u237, u238, u239, u240, u241, u242, u243, u244, u245, u246, u247, u248, u249, u250, u251, undef], defers := [] }) (fun i => ([u136, u137, u138, u139, u140, u141, u142, u143, u144, u145, u146, u147, u148, u149, u150, u151, .bool true] : List Value).getD i undef) (by kernel_rfl) rfl rfl (by kernel_rfl) (by kernel_rfl) (by kernel_rfl) (by kernel_rfl) (HT0.out) ?_ ?_
                    · refine ⟨ObS.of_val rfl (fun x v => rfl) (fun x V kst hC hD => ?_), ?_⟩
                      · clear hD
                        refine want_yes rfl ?_
                        exact leads_value (v := .pointer (some ⟨db, 0, none⟩)) (by go_simp) ⟨rfl, hC⟩
                      refine ⟨ObS.of_val rfl (fun x v => rfl) (fun x V kst hC hD => ?_), ?_⟩
                      · clear hD
                        refine want_yes rfl ?_
                        exact leads_value (v := .slice (some ⟨bl, off, none⟩) l.length cap) (by go_simp) ⟨rfl, hC⟩
                      refine ⟨ObS.of_val rfl (fun x v => rfl) (fun x V kst hC hD => ?_), ?_⟩
                      · clear hD
                        refine want_yes rfl ?_
                        exact leads_value (v := .int .i64 (k : Int)) (by go_simp) ⟨rfl, hC⟩
                      refine ⟨ObS.of_val rfl (fun x v => rfl) (fun x V kst hC hD => ?_), ?_⟩
                      · have e1 : x 1 = .slice (some ⟨bl, off, none⟩) l.length cap := hD.1 rfl
                        have e2 : x 2 = .int .i64 (k : Int) := hD.2.1 rfl
                        clear hD
                        refine want_yes rfl ?_
                        exact leads_value (v := .pointer (some ⟨bl, off + k * 6, none⟩)) (by go_simp) ⟨rfl, hC⟩
                      refine ⟨ObS.of_val rfl (fun x v => rfl) (fun x V kst hC hD => ?_), ?_⟩
                      · have e3 : x 3 = .pointer (some ⟨bl, off + k * 6, none⟩) := hD.1 rfl
                        clear hD
                        refine want_yes rfl ?_
                        exact leads_value (v := .pointer (some ⟨bl, off + k * 6 + 4, none⟩)) (by go_simp) ⟨rfl, hC⟩
                      refine ⟨ObS.of_val rfl (fun x v => rfl) (fun x V kst hC hD => ?_), ?_⟩
                      · have e4 : x 4 = .pointer (some ⟨bl, off + k * 6 + 4, none⟩) := hD.1 rfl
                        clear hD
                        refine want_yes rfl ?_
                        have k0 := (HQ.out V (PairQ.below kst V hC)).2.2.2.2.1
                        exact leads_value (v := .int .i64 N) (by go_simp) ⟨rfl, hC⟩
                      refine ⟨ObS.of_val rfl (fun x v => rfl) (fun x V kst hC hD => ?_), ?_⟩
                      · clear hD
                        refine want_yes rfl ?_
                        exact leads_value (v := .slice (some ⟨g5, 0, none⟩) 128 c5) (by go_simp) ⟨rfl, hC⟩
                      refine ⟨ObS.of_turn rfl (fun x v => rfl) (fun x V hC hD => ?_), ?_⟩
                      · have e0 : x 0 = .pointer (some ⟨db, 0, none⟩) := hD.1 rfl
                        have e5 : x 5 = .int .i64 N := hD.2.1 rfl
                        have e6 : x 6 = .slice (some ⟨g5, 0, none⟩) 128 c5 := hD.2.2.1 rfl
                        clear hD
                        refine want_yes rfl ?_
                        obtain ⟨F0, hq, hb, hap⟩ := (show PairQ K R w vb db a c dv S (writeS S N L7) (some ⟨g5, 0, none⟩) 128 c5 L7 0 V from hC)
                        have hne : L7 ≠ [] := by intro e; have := hb.same; rw [e] at this; simp at this
                        exact leads_enter2 (by go_simp) ((hq.write CW.out N (by omega) hb (fun x hx => (hap x hx hne).1.1)).mono fun e w'' ⟨he, ⟨F1, h1⟩, hc⟩ => ⟨_, he, rfl, F1, h1, hb.chg2 hc (fun x hx hne => (hap x hx hne).1.1), fun x hx hne => (hap x hx hne).2⟩)
                      refine ⟨ObS.of_val rfl (fun x v => rfl) (fun x V kst hC hD => ?_), ?_⟩
                      · clear hD
                        refine want_yes rfl ?_
                        exact leads_value (v := .slice (some ⟨bl, off, none⟩) l.length cap) (by go_simp) ⟨rfl, hC⟩
                      refine ⟨ObS.of_val rfl (fun x v => rfl) (fun x V kst hC hD => ?_), ?_⟩
                      · clear hD
                        refine want_yes rfl ?_
                        exact leads_value (v := .int .i64 (k : Int)) (by go_simp) ⟨rfl, hC⟩
                      refine ⟨ObS.of_val rfl (fun x v => rfl) (fun x V kst hC hD => ?_), ?_⟩
                      · have e8 : x 8 = .slice (some ⟨bl, off, none⟩) l.length cap := hD.1 rfl
                        have e9 : x 9 = .int .i64 (k : Int) := hD.2.1 rfl
                        clear hD
                        refine want_yes rfl ?_
                        exact leads_value (v := .pointer (some ⟨bl, off + k * 6, none⟩)) (by go_simp) ⟨rfl, hC⟩
                      refine ⟨ObS.of_val rfl (fun x v => rfl) (fun x V kst hC hD => ?_), ?_⟩
                      · have e10 : x 10 = .pointer (some ⟨bl, off + k * 6, none⟩) := hD.1 rfl
                        clear hD
                        refine want_yes rfl ?_
                        exact leads_value (v := .pointer (some ⟨bl, off + k * 6 + 4, none⟩)) (by go_simp) ⟨rfl, hC⟩
                      refine ⟨ObS.of_val rfl (fun x v => rfl) (fun x V kst hC hD => ?_), ?_⟩
                      · have e11 : x 11 = .pointer (some ⟨bl, off + k * 6 + 4, none⟩) := hD.1 rfl
                        clear hD
                        refine want_yes rfl ?_
                        have k0 := (HQ.out V (PairQ.below kst V hC)).2.2.2.2.1
                        exact leads_value (v := .int .i64 N) (by go_simp) ⟨rfl, hC⟩
                      refine ⟨ObS.of_val rfl (fun x v => rfl) (fun x V kst hC hD => ?_), ?_⟩
                      · clear hD
                        refine want_yes rfl ?_
                        exact leads_value (v := .slice (some ⟨g5, 0, none⟩) 128 c5) (by go_simp) ⟨rfl, hC⟩
                      refine ⟨ObS.of_turn rfl (fun x v => rfl) (fun x V hC hD => ?_), ?_⟩
                      · have e12 : x 12 = .int .i64 N := hD.1 rfl
                        have e13 : x 13 = .slice (some ⟨g5, 0, none⟩) 128 c5 := hD.2.1 rfl
                        have e7 : x 7 = .int .i64 (writeE S N L7) := hD.2.2.1 rfl
                        clear hD
                        refine want_yes rfl ?_
                        obtain ⟨F1, hq, hb, hap⟩ := (show PairQ K R w vb db a c dv S (writeS S N L7) (some ⟨g5, 0, none⟩) 128 c5 L7 1 V from hC)
                        have hne : L7 ≠ [] := by intro e; have := hb.same; rw [e] at this; simp at this
                        exact leads_enter2 (by go_simp) ((rdWrite_any N hq.rd hokS (by omega) hb (fun x hx => hap x hx hne)).mono fun e w'' ⟨he, hr, hc⟩ => ⟨_, he, rfl, F1, hq.rto hr hc⟩)
                      refine ⟨ObS.of_val rfl (fun x v => rfl) (fun x V kst hC hD => ?_), ?_⟩
                      · have e7 : x 7 = .int .i64 (writeE S N L7) := hD.1 rfl
                        have e14 : x 14 = .int .i64 (writeE S N L7) := hD.2.1 rfl
                        clear hD
                        refine want_yes rfl ?_
                        exact leads_value (v := .bool true) (by go_simp) ⟨rfl, hC⟩
                      refine ⟨ObS.of_val rfl (fun x v => rfl) (fun x V kst hC hD => ?_), ?_⟩
                      · have e15 : x 15 = .bool true := hD.1 rfl
                        have e14 : x 14 = .int .i64 (writeE S N L7) := hD.2.1 rfl
                        have e0 : x 0 = .pointer (some ⟨db, 0, none⟩) := hD.2.2.1 rfl
                        have e1 : x 1 = .slice (some ⟨bl, off, none⟩) l.length cap := hD.2.2.2.1 rfl
                        have e2 : x 2 = .int .i64 (k : Int) := hD.2.2.2.2.1 rfl
                        have e3 : x 3 = .pointer (some ⟨bl, off + k * 6, none⟩) := hD.2.2.2.2.2.1 rfl
                        have e4 : x 4 = .pointer (some ⟨bl, off + k * 6 + 4, none⟩) := hD.2.2.2.2.2.2.1 rfl
                        have e5 : x 5 = .int .i64 N := hD.2.2.2.2.2.2.2.1 rfl
                        have e6 : x 6 = .slice (some ⟨g5, 0, none⟩) 128 c5 := hD.2.2.2.2.2.2.2.2.1 rfl
                        have e7 : x 7 = .int .i64 (writeE S N L7) := hD.2.2.2.2.2.2.2.2.2.1 rfl
                        have e8 : x 8 = .slice (some ⟨bl, off, none⟩) l.length cap := hD.2.2.2.2.2.2.2.2.2.2.1 rfl
                        have e9 : x 9 = .int .i64 (k : Int) := hD.2.2.2.2.2.2.2.2.2.2.2.1 rfl
                        have e10 : x 10 = .pointer (some ⟨bl, off + k * 6, none⟩) := hD.2.2.2.2.2.2.2.2.2.2.2.2.1 rfl
                        have e11 : x 11 = .pointer (some ⟨bl, off + k * 6 + 4, none⟩) := hD.2.2.2.2.2.2.2.2.2.2.2.2.2.1 rfl
                        have e12 : x 12 = .int .i64 N := hD.2.2.2.2.2.2.2.2.2.2.2.2.2.2.1 rfl
                        have e13 : x 13 = .slice (some ⟨g5, 0, none⟩) 128 c5 := hD.2.2.2.2.2.2.2.2.2.2.2.2.2.2.2.1 rfl
                        clear hD
                        refine want_yes rfl ?_
                        exact leads_value (v := .bool true) (by go_simp) ⟨rfl, hC⟩
                      trivial
                    · intro xa V hC hx
                      obtain ⟨F', hP'⟩ := (show ∃ F', QP K R w vb db a c dv (writeS S N L7) (writeS S N L7) F' V from hC)
                      have e16 : xa 16 = .bool true := hx 16 (by simp)
                      have HP' := Lib.hid hP'
                      clear hx hP' hC
                      rw [e16]
                      clear e16
                      go_wp2_with fail
                      go_meet
                      have hT := wr_one S N L7
                      exact ⟨rfl, writeS S N L7, F', HP'.out, by have := HS.out.1; omega, (show (writeS S N L7).len = S.len by unfold DS.len; rw [writeS_len S hokS]).trans HS.out.2⟩
                  · rw [hlen] at HR5 ⊢
                    clear hlen
                    go_wp2_with fail
                    go_meet
                    exact ⟨rfl, HSm.out⟩
                · rw [hlen] at HR5 ⊢
                  clear hlen
                  go_wp2_with fail
                  go_meet
                  exact ⟨rfl, HSm.out⟩
              · have hlen2 : ¬ ((L.length : Int) = 128) := by omega
                clear hlen
                generalize L.length = ln at *
                go_wp2_with fail
                go_meet
                exact ⟨rfl, HSm.out⟩
          case rest =>
          as_aux_lemma =>
          obtain ⟨rfl, S2, F2, hP2, hw2, hl2⟩ := hcut
          have HP2 := Lib.hid hP2
          have HS2 := Lib.hid (And.intro hw2 hl2)
          have HLd := Lib.hid (hP2.load CVL.out)
          clear hP2 hw2 hl2 HP HS HM HQ j0
          go_upto_region 25 with fail
          unfold ptrV
          unfold ptrV at HLd
          go_wp2_with fail
          refine HLd.out.mono ?_
          rintro e w5 ⟨p5, c5, rfl, hb5, hP5⟩
          have HP5 := Lib.hid hP5
          have HB5 := Lib.hid hb5
          have HLr := Lib.hid (rvLoad_any a hP5.rd hP5.vp.ok hP5.vp.fits)
          clear hb5 hP5 HLd
          unfold ptrV at HLr
          go_upto_region 26 with fail
          go_wp2_with fail
          refine HLr.out.mono ?_
          rintro e w6 ⟨p6, c6, rfl, hb6, hB6⟩
          have HP6 := Lib.hid (HP5.out.step hB6)
          have HB6 := Lib.hid (HB5.out.below hB6 (Nat.le_refl _))
          have HC6 := Lib.hid hb6
          clear hb6 hB6 HP5 HB5 HLr
          generalize (loadR S2 a).gen = lg at *
          generalize (loadR S2 a).e = le at *
          generalize (loadR S2 a).b = lb at *
          have HLl := Lib.hid HB6.out.same
          generalize lb.length = ll at *
          go_upto_region 27 with fail
          have HNb := Lib.hid (show ((!S2.off) == S2.off) = false by cases S2.off <;> rfl)
          have HT0 := Lib.hid (show CmpQ K R w vb db a c dv S2 F2 p5 p6 ll c5 c6 lb w6.drew from (CmpQ.mk HP6.out HB6.out HC6.out).step (Below.refl _ _).drew)
          refine wp_region_S (fun _ V => CmpQ K R w vb db a c dv S2 F2 p5 p6 ll c5 c6 lb V) 0 [.val (.bool true), .val (.bool false), .val (.bool false), .val (.int .i64 (lg : Int)), .val (.int .i64 (lg : Int)), .val (.bool false), .val (.bool false), .val (.bool false), .val (.slice p5 ll c5), .val (.string ⟨lb.toArray⟩), .val (.slice p6 ll c6), .val (.string ⟨lb.toArray⟩), .val (.bool false), .val (.bool false), .val (.bool false), .val (.int .i64 le), .val (.int .i64 le), .val (.bool false), .val (.bool false), .val (.bool false), .val (.pointer (some ⟨db, 0, none⟩)), .val (.bool (!S2.off)), .val (.pointer (some ⟨c, 1, none⟩)), .val (.bool S2.off), .val (.bool false), .val (.bool false), .val (.bool false), .val (.pointer (some ⟨db, 0, none⟩)), .val (.int .i64 S2.wr), .val (.pointer (some ⟨c, 4, none⟩)), .val (.int .i64 S2.wr), .val (.bool false), .val (.bool false)]
            (fun x => { tmps := #[.int .i64 (a : Int), .slice (some ⟨bl, off, none⟩) l.length cap, undef, undef, u4, .pointer (some ⟨db, 0, none⟩), .int .i64 0, .pointer (some ⟨vb, 0, none⟩), .int .i64 0, .pointer (some ⟨c, 0, none⟩), .int .i64 (k : Int), .bool true, u12, u13, u14, .int .i64 (lg : Int), .slice p5 ll c5, .int .i64 le, .int .i64 (lg : Int), .slice p6 ll c6, .int .i64 le, .tuple #[.pointer (some ⟨db, 0, none⟩), .int .i64 0], .tuple #[.pointer (some ⟨db, 0, none⟩), .int .i64 0], .pointer (some ⟨db, 0, none⟩), .int .i64 0, .tuple #[.pointer (some ⟨vb, 0, none⟩), .int .i64 0], .pointer (some ⟨db, 0, none⟩), .int .i64 (a : Int), .tuple #[.pointer (some ⟨vb, 0, none⟩), .int .i64 0], .pointer (some ⟨vb, 0, none⟩), .int .i64 0, .pointer (some ⟨db, 0, none⟩), .bool false, .bool false, .int .i64 (a : Int), .bool (decide ((a : Int) < 0)), .bool (decide ((a : Int) < 0)), .bool (decide ((a : Int) < 0)), .int .i64 (a : Int), .bool (decide (4 < (a : Int))), .bool (decide ((a : Int) < 0) || decide (4 < (a : Int))), undef, undef, undef, undef, undef, undef, undef, undef, undef, undef, undef, undef, undef, .pointer (some ⟨vb, 0, none⟩), .bool false, .bool false, .int .i64 0, .bool false, .bool false, .bool false, .slice (some ⟨bl, off, none⟩) l.length cap, .int .i64 (l.length : Int), .bool (decide (12 < (l.length : Int))), .bool (decide (12 < (l.length : Int))), undef, undef, undef, undef, undef, undef, undef, undef, undef, .agg #[dv, .bool false, .int .i64 (-1), .int .i64 0, .int .i64 0], u75, u76, u77, u78, u79, u80, u81, u82, u83, u84, u85, .int .u8 (kd % 4), u87, u88, u89, u90, u91, u92, u93, u94, u95, u96, u97, u98, u99, u100, u101, u102, u103, u104, u105, u106, u107, u108, u109, u110, u111, u112, u113, u114, u115, u116, u117, u118, u119, u120, u121, u122, u123, u124, u125, u126, u127, u128, u129, u130, u131, u132, u133, u134, u135, u136, u137, u138, u139, u140, u141, u142, u143, u144, u145, u146, u147, u148, u149, u150, u151, u152, u153, u154, u155, u156, u157, u158, u159, u160, u161, u162, u163, u164, u165, u166, u167, u168, u169, u170, u171, u172, u173, u174, u175, u176, u177, u178, u179, u180, u181, u182, u183, u184, u185, u186, u187, u188, u189, u190, u191, u192, u193, u194, u195, u196, u197, u198, u199, u200, u201, u202, u203, u204, u205, u206, .tuple #[.int .i64 (lg : Int), .slice p5 ll c5, .int .i64 le], .pointer (some ⟨vb, 0, none⟩), .tuple #[.int .i64 (lg : Int), .slice p5 ll c5, .int .i64 le], .int .i64 (lg : Int), .slice p5 ll c5, .int .i64 le, .tuple #[.int .i64 (lg : Int), .slice p6 ll c6, .int .i64 le], .int .i64 (a : Int), .tuple #[.int .i64 (lg : Int), .slice p6 ll c6, .int .i64 le], .int .i64 (lg : Int), .slice p6 ll c6, .int .i64 le, x 0, x 1, x 2, x 3, x 4, x 5, x 6, x 7, x 8, x 9, x 10, x 11, x 12, x 13, x 14, x 15, x 16, x 17, x 18, x 19, x 20, x 21, x 22, x 23, x 24, x 25, x 26, x 27, x 28, x 29, x 30, x 31, x 32, undef], defers := [] }) (fun i => ([u219, u220, u221, u222, u223, u224, u225, u226, u227, u228, u229, u230, u231, u232, u233, u234, u235, u236, u237, u238, u239, u240, u241, u242, u243, u244, u245, u246, u247, u248, u249, u250, u251] : List Value).getD i undef) (by kernel_rfl) rfl rfl (by kernel_rfl) (by kernel_rfl) (by kernel_rfl) (by kernel_rfl) (HT0.out) ?_ ?_
          · refine ⟨ObS.of_val rfl (fun x v => rfl) (fun x V kst hC hD => ?_), ?_⟩
            · clear hD
              refine want_yes rfl ?_
              exact leads_value (v := .bool true) (by go_simp) ⟨rfl, hC⟩
            refine ⟨ObS.of_val rfl (fun x v => rfl) (fun x V kst hC hD => ?_), ?_⟩
            · have e0 : x 0 = .bool true := hD.1 rfl
              clear hD
              refine want_yes rfl ?_
              exact leads_value (v := .bool false) (by go_simp) ⟨rfl, hC⟩
            refine ⟨ObS.of_val rfl (fun x v => rfl) (fun x V kst hC hD => ?_), ?_⟩
            · have e1 : x 1 = .bool false := hD.1 rfl
              clear hD
              refine want_yes rfl ?_
              exact leads_value (v := .bool false) (by go_simp) ⟨rfl, hC⟩
            refine ⟨ObS.of_val rfl (fun x v => rfl) (fun x V kst hC hD => ?_), ?_⟩
            · have e2 : x 2 = .bool false := hD.1 rfl
              clear hD
              refine want_yes (by simp [Region.wanted, yielded, e2]) ?_
              exact leads_value (v := .int .i64 (lg : Int)) (by go_simp) ⟨rfl, hC⟩
            refine ⟨ObS.of_val rfl (fun x v => rfl) (fun x V kst hC hD => ?_), ?_⟩
            · have e2 : x 2 = .bool false := hD.1 rfl
              clear hD
              refine want_yes (by simp [Region.wanted, yielded, e2]) ?_
              exact leads_value (v := .int .i64 (lg : Int)) (by go_simp) ⟨rfl, hC⟩
            refine ⟨ObS.of_val rfl (fun x v => rfl) (fun x V kst hC hD => ?_), ?_⟩
            · have e3 : x 3 = .int .i64 (lg : Int) := hD.1 rfl
              have e4 : x 4 = .int .i64 (lg : Int) := hD.2.1 rfl
              have e2 : x 2 = .bool false := hD.2.2.1 rfl
              clear hD
              refine want_yes (by simp [Region.wanted, yielded, e2]) ?_
              exact leads_value (v := .bool false) (by go_simp) ⟨rfl, hC⟩
            refine ⟨ObS.of_val rfl (fun x v => rfl) (fun x V kst hC hD => ?_), ?_⟩
            · have e2 : x 2 = .bool false := hD.1 rfl
              have e5 : x 5 = .bool false := hD.2.1 rfl
              clear hD
              refine want_yes rfl ?_
              exact leads_value (v := .bool false) (by go_simp) ⟨rfl, hC⟩
            refine ⟨ObS.of_val rfl (fun x v => rfl) (fun x V kst hC hD => ?_), ?_⟩
            · have e6 : x 6 = .bool false := hD.1 rfl
              have e2 : x 2 = .bool false := hD.2.1 rfl
              clear hD
              refine want_yes rfl ?_
              exact leads_value (v := .bool false) (by go_simp) ⟨rfl, hC⟩
            refine ⟨ObS.of_val rfl (fun x v => rfl) (fun x V kst hC hD => ?_), ?_⟩
            · have e7 : x 7 = .bool false := hD.1 rfl
              clear hD
              refine want_yes (by simp [Region.wanted, yielded, e7]) ?_
              exact leads_value (v := .slice p5 ll c5) (by go_simp) ⟨rfl, hC⟩
            refine ⟨ObS.of_val rfl (fun x v => rfl) (fun x V kst hC hD => ?_), ?_⟩
            · have e8 : x 8 = .slice p5 ll c5 := hD.1 rfl
              have e7 : x 7 = .bool false := hD.2.1 rfl
              clear hD
              refine want_yes (by simp [Region.wanted, yielded, e7]) ?_
              have q := run_string_bs (P := Try.prog) V 31 5 9 Try.underlying31 Try.underlying5 Try.underlying9 hC.b1
              exact leads_value (v := .string ⟨lb.toArray⟩) (by go_simp) ⟨rfl, hC⟩
            refine ⟨ObS.of_val rfl (fun x v => rfl) (fun x V kst hC hD => ?_), ?_⟩
            · have e7 : x 7 = .bool false := hD.1 rfl
              clear hD
              refine want_yes (by simp [Region.wanted, yielded, e7]) ?_
              exact leads_value (v := .slice p6 ll c6) (by go_simp) ⟨rfl, hC⟩
            refine ⟨ObS.of_val rfl (fun x v => rfl) (fun x V kst hC hD => ?_), ?_⟩
            · have e10 : x 10 = .slice p6 ll c6 := hD.1 rfl
              have e7 : x 7 = .bool false := hD.2.1 rfl
              clear hD
              refine want_yes (by simp [Region.wanted, yielded, e7]) ?_
              have q := run_string_bs (P := Try.prog) V 31 5 9 Try.underlying31 Try.underlying5 Try.underlying9 hC.b2
              exact leads_value (v := .string ⟨lb.toArray⟩) (by go_simp) ⟨rfl, hC⟩
            refine ⟨ObS.of_val rfl (fun x v => rfl) (fun x V kst hC hD => ?_), ?_⟩
            · have e9 : x 9 = .string ⟨lb.toArray⟩ := hD.1 rfl
              have e11 : x 11 = .string ⟨lb.toArray⟩ := hD.2.1 rfl
              have e7 : x 7 = .bool false := hD.2.2.1 rfl
              clear hD
              refine want_yes (by simp [Region.wanted, yielded, e7]) ?_
              exact leads_value (v := .bool false) (by go_simp) ⟨rfl, hC⟩
            refine ⟨ObS.of_val rfl (fun x v => rfl) (fun x V kst hC hD => ?_), ?_⟩
            · have e7 : x 7 = .bool false := hD.1 rfl
              have e12 : x 12 = .bool false := hD.2.1 rfl
              clear hD
              refine want_yes rfl ?_
              exact leads_value (v := .bool false) (by go_simp) ⟨rfl, hC⟩
            refine ⟨ObS.of_val rfl (fun x v => rfl) (fun x V kst hC hD => ?_), ?_⟩
            · have e13 : x 13 = .bool false := hD.1 rfl
              have e7 : x 7 = .bool false := hD.2.1 rfl
              clear hD
              refine want_yes rfl ?_
              exact leads_value (v := .bool false) (by go_simp) ⟨rfl, hC⟩
            refine ⟨ObS.of_val rfl (fun x v => rfl) (fun x V kst hC hD => ?_), ?_⟩
            · have e14 : x 14 = .bool false := hD.1 rfl
              clear hD
              refine want_yes (by simp [Region.wanted, yielded, e14]) ?_
              exact leads_value (v := .int .i64 le) (by go_simp) ⟨rfl, hC⟩
            refine ⟨ObS.of_val rfl (fun x v => rfl) (fun x V kst hC hD => ?_), ?_⟩
            · have e14 : x 14 = .bool false := hD.1 rfl
              clear hD
              refine want_yes (by simp [Region.wanted, yielded, e14]) ?_
              exact leads_value (v := .int .i64 le) (by go_simp) ⟨rfl, hC⟩
            refine ⟨ObS.of_val rfl (fun x v => rfl) (fun x V kst hC hD => ?_), ?_⟩
            · have e15 : x 15 = .int .i64 le := hD.1 rfl
              have e16 : x 16 = .int .i64 le := hD.2.1 rfl
              have e14 : x 14 = .bool false := hD.2.2.1 rfl
              clear hD
              refine want_yes (by simp [Region.wanted, yielded, e14]) ?_
              exact leads_value (v := .bool false) (by go_simp) ⟨rfl, hC⟩
            refine ⟨ObS.of_val rfl (fun x v => rfl) (fun x V kst hC hD => ?_), ?_⟩
            · have e14 : x 14 = .bool false := hD.1 rfl
              have e17 : x 17 = .bool false := hD.2.1 rfl
              clear hD
              refine want_yes rfl ?_
              exact leads_value (v := .bool false) (by go_simp) ⟨rfl, hC⟩
            refine ⟨ObS.of_val rfl (fun x v => rfl) (fun x V kst hC hD => ?_), ?_⟩
            · have e18 : x 18 = .bool false := hD.1 rfl
              have e14 : x 14 = .bool false := hD.2.1 rfl
              clear hD
              refine want_yes rfl ?_
              exact leads_value (v := .bool false) (by go_simp) ⟨rfl, hC⟩
            refine ⟨ObS.of_val rfl (fun x v => rfl) (fun x V kst hC hD => ?_), ?_⟩
            · have e19 : x 19 = .bool false := hD.1 rfl
              clear hD
              refine want_yes (by simp [Region.wanted, yielded, e19]) ?_
              exact leads_value (v := .pointer (some ⟨db, 0, none⟩)) (by go_simp) ⟨rfl, hC⟩
            refine ⟨ObS.of_val rfl (fun x v => rfl) (fun x V kst hC hD => ?_), ?_⟩
            · have e20 : x 20 = .pointer (some ⟨db, 0, none⟩) := hD.1 rfl
              have e19 : x 19 = .bool false := hD.2.1 rfl
              clear hD
              refine want_yes (by simp [Region.wanted, yielded, e19]) ?_
              exact leads_enter2 (by go_simp) ((hC.qp.on CO.out).mono fun e w'' ⟨he, hB⟩ => ⟨_, he, rfl, hC.step hB⟩)
            refine ⟨ObS.of_val rfl (fun x v => rfl) (fun x V kst hC hD => ?_), ?_⟩
            · have e19 : x 19 = .bool false := hD.1 rfl
              clear hD
              refine want_yes (by simp [Region.wanted, yielded, e19]) ?_
              exact leads_value (v := .pointer (some ⟨c, 1, none⟩)) (by go_simp) ⟨rfl, hC⟩
            refine ⟨ObS.of_val rfl (fun x v => rfl) (fun x V kst hC hD => ?_), ?_⟩
            · have e22 : x 22 = .pointer (some ⟨c, 1, none⟩) := hD.1 rfl
              have e19 : x 19 = .bool false := hD.2.1 rfl
              clear hD
              refine want_yes (by simp [Region.wanted, yielded, e19]) ?_
              have k0 := hC.qp.r1
              exact leads_value (v := .bool S2.off) (by go_simp) ⟨rfl, hC⟩
            refine ⟨ObS.of_val rfl (fun x v => rfl) (fun x V kst hC hD => ?_), ?_⟩
            · have e21 : x 21 = .bool (!S2.off) := hD.1 rfl
              have e23 : x 23 = .bool S2.off := hD.2.1 rfl
              have e19 : x 19 = .bool false := hD.2.2.1 rfl
              clear hD
              refine want_yes (by simp [Region.wanted, yielded, e19]) ?_
              have hb := HNb.out
              exact leads_value (v := .bool false) (by go_simp) ⟨rfl, hC⟩
            refine ⟨ObS.of_val rfl (fun x v => rfl) (fun x V kst hC hD => ?_), ?_⟩
            · have e19 : x 19 = .bool false := hD.1 rfl
              have e24 : x 24 = .bool false := hD.2.1 rfl
              clear hD
              refine want_yes rfl ?_
              exact leads_value (v := .bool false) (by go_simp) ⟨rfl, hC⟩
            refine ⟨ObS.of_val rfl (fun x v => rfl) (fun x V kst hC hD => ?_), ?_⟩
            · have e25 : x 25 = .bool false := hD.1 rfl
              have e21 : x 21 = .bool (!S2.off) := hD.2.1 rfl
              clear hD
              refine want_yes rfl ?_
              exact leads_value (v := .bool false) (by go_simp) ⟨rfl, hC⟩
            refine ⟨ObS.of_val rfl (fun x v => rfl) (fun x V kst hC hD => ?_), ?_⟩
            · have e26 : x 26 = .bool false := hD.1 rfl
              clear hD
              refine want_yes (by simp [Region.wanted, yielded, e26]) ?_
              exact leads_value (v := .pointer (some ⟨db, 0, none⟩)) (by go_simp) ⟨rfl, hC⟩
            refine ⟨ObS.of_val rfl (fun x v => rfl) (fun x V kst hC hD => ?_), ?_⟩
            · have e27 : x 27 = .pointer (some ⟨db, 0, none⟩) := hD.1 rfl
              have e26 : x 26 = .bool false := hD.2.1 rfl
              clear hD
              refine want_yes (by simp [Region.wanted, yielded, e26]) ?_
              exact leads_enter2 (by go_simp) ((hC.qp.writes CWr.out).mono fun e w'' ⟨he, hB⟩ => ⟨_, he, rfl, hC.step hB⟩)
            refine ⟨ObS.of_val rfl (fun x v => rfl) (fun x V kst hC hD => ?_), ?_⟩
            · have e26 : x 26 = .bool false := hD.1 rfl
              clear hD
              refine want_yes (by simp [Region.wanted, yielded, e26]) ?_
              exact leads_value (v := .pointer (some ⟨c, 4, none⟩)) (by go_simp) ⟨rfl, hC⟩
            refine ⟨ObS.of_val rfl (fun x v => rfl) (fun x V kst hC hD => ?_), ?_⟩
            · have e29 : x 29 = .pointer (some ⟨c, 4, none⟩) := hD.1 rfl
              have e26 : x 26 = .bool false := hD.2.1 rfl
              clear hD
              refine want_yes (by simp [Region.wanted, yielded, e26]) ?_
              have k0 := hC.qp.r4
              exact leads_value (v := .int .i64 S2.wr) (by go_simp) ⟨rfl, hC⟩
            refine ⟨ObS.of_val rfl (fun x v => rfl) (fun x V kst hC hD => ?_), ?_⟩
            · have e28 : x 28 = .int .i64 S2.wr := hD.1 rfl
              have e30 : x 30 = .int .i64 S2.wr := hD.2.1 rfl
              have e26 : x 26 = .bool false := hD.2.2.1 rfl
              clear hD
              refine want_yes (by simp [Region.wanted, yielded, e26]) ?_
              exact leads_value (v := .bool false) (by go_simp) ⟨rfl, hC⟩
            refine ⟨ObS.of_val rfl (fun x v => rfl) (fun x V kst hC hD => ?_), ?_⟩
            · have e26 : x 26 = .bool false := hD.1 rfl
              have e31 : x 31 = .bool false := hD.2.1 rfl
              clear hD
              refine want_yes rfl ?_
              exact leads_value (v := .bool false) (by go_simp) ⟨rfl, hC⟩
            trivial
          · intro xb V hC hx
            have HD := Lib.hid (show CmpQ K R w vb db a c dv S2 F2 p5 p6 ll c5 c6 lb V from hC)
            have e32 : xb 32 = .bool false := hx 32 (by simp)
            clear hx hC
            rw [e32]
            clear e32
            go_wp2_with fail
            go_roundw
            case rel => first | exact ⟨k + 1, by omega, by go_num, ⟨⟨S2, F2, HD.out.qp, HS2.out.1, HS2.out.2⟩⟩⟩ | ((repeat apply Exists.intro); exact ⟨⟨k + 1, by omega, by go_num, ⟨⟨S2, F2, HD.out.qp, HS2.out.1, HS2.out.2⟩⟩⟩, rfl⟩)
            case measure => simp [intOf]; omega
        · obtain rfl : k = l.length := by omega
          obtain ⟨S, F, hP, -, -⟩ := HI.out.ex
          have HBw := Lib.hid hP.below
          clear hP HI
          go_upto_region 29 with fail
          go_wp2_with fail
          refine (HAl.out _).mono ?_
          rintro e w5 ⟨rfl, hB5⟩
          have HB5 := Lib.hid (HBw.out.trans (hB5.mono HBw.out.size))
          clear hB5
          go_wp2_with fail
          go_ret
          exact ⟨rfl, HB5.out⟩
  · have hzz : z < 0 ∨ 4 < z := by omega
    go_enter Try.func3, Try.ntmps3
    go_wp2_with fail
    refine HN.out.mono ?_
    rintro e w1 ⟨db, D, rfl, hA1, hF1, hB1⟩
    have HVX := Lib.hid (CVX.out z w1 db (DS.new 516) D hA1 (DSOk.new (by decide)) (by rw [DS.new_len]; omega) hz0 hz1)
    have HB1 := Lib.hid hB1
    clear hA1 hF1 hB1 HN
    unfold ptrV
    unfold ptrV at HVX
    go_wp2_with fail
    refine HVX.out.mono ?_
    rintro e w2 ⟨rfl, hB2⟩
    have HB2 := Lib.hid (HB1.out.trans (hB2.mono HB1.out.size))
    clear hB2 HVX
    have hz2 : ¬ z < 0 → 4 < z := by omega
    by_cases hz3 : z < 0
    all_goals
      clear hzz hz
      go_wp2_with fail
      refine (HAl.out _).mono ?_
      rintro e w6 ⟨rfl, hB6⟩
      have HB6 := Lib.hid (HB2.out.trans (hB6.mono HB2.out.size))
      clear hB6
      go_wp2_with fail
      go_ret
      exact ⟨rfl, HB6.out⟩
end Go.Proofs.Ytbmcajhknohhdaa

/-! VltV -/
namespace Go.Proofs.Ytbmcajhknohhdaa
open Go.RowKit

structure VAF (S0 S1 S2 S3 S4 S5 : DS) : Prop where
  q1 : S1 = saveD S0 8 1 [111, 110, 101]
  q2 : S2 = armS S1 1 127
  q3 : S3 = saveD S2 8 2 [116, 119, 111]
  q4 : S4 = powerS S3
  q5 : S5 = saveD S4 8 2 []
  w0 : S0.wr ≤ 900000
  r0 : loadR S0 8 = ⟨0, [], 6⟩
  e1 : saveE S0 8 1 [111, 110, 101] = 0
  w2 : S2.wr ≤ 900000
  e3 : saveE S2 8 2 [116, 119, 111] = 19
  r4 : loadR S4 8 = ⟨1, [111, 110, 101], 0⟩
  w4 : S4.wr ≤ 900000
  e5 : saveE S4 8 2 [] = 0
  r5 : loadR S5 8 = ⟨2, [], 0⟩
theorem vafacts (S0 : DS) (ok0 : DSOk S0) (l0 : S0.len = 520) (o0 : S0.off = false) (f0 : S0.fuse = -1) (w0 : S0.wr = 0) (hz : ∀ j, j < 520 → blockL S0 j = zeros 128) : ∃ S1 S2 S3 S4 S5, VAF S0 S1 S2 S3 S4 S5 := by
  obtain ⟨S1, q1⟩ : ∃ S, S = saveD S0 8 1 [111, 110, 101] := ⟨_, rfl⟩
  obtain ⟨S2, q2⟩ : ∃ S, S = armS S1 1 127 := ⟨_, rfl⟩
  obtain ⟨S3, q3⟩ : ∃ S, S = saveD S2 8 2 [116, 119, 111] := ⟨_, rfl⟩
  obtain ⟨S4, q4⟩ : ∃ S, S = powerS S3 := ⟨_, rfl⟩
  obtain ⟨S5, q5⟩ : ∃ S, S = saveD S4 8 2 [] := ⟨_, rfl⟩
  have h0 : hasV S0 8 0 = none := has_no (by rw [hz _ (by omega)]; exact frR_zeros 86)
  have h1 : hasV S0 (8 + 256) 1 = none := has_no (by rw [hz _ (by omega)]; exact frR_zeros 86)
  obtain ⟨e1, ok1, l1, o1, f1, w1, s1, t1⟩ := save_whole (from_ := 8) (g := 1) (b := [111, 110, 101]) ok0 o0 (.inl (by omega)) (by omega) (by omega) (by decide)
  change saveE S0 8 1 [111, 110, 101] = 0 at e1
  change DSOk (saveD S0 8 1 _) at ok1
  change (saveD S0 8 1 _).len = _ at l1
  change (saveD S0 8 1 _).off = _ at o1
  change (saveD S0 8 1 _).wr = _ at w1
  change hasV (saveD S0 8 1 _) _ _ = _ at s1
  change ∀ j, _ → blockL (saveD S0 8 1 _) j = _ at t1
  rw [← q1] at ok1 l1 o1 w1 s1 t1
  have ok2 : DSOk S2 := by rw [q2]; exact ok1.arm 1 127 (by omega)
  have a2 : S2 = { S1 with fuse := 1, keep := 127 } := by rw [q2]; unfold armS; rw [if_pos (by decide)]
  have l2 : S2.len = 520 := by rw [q2]; unfold DS.len; rw [armS_all]; show S1.len = 520; omega
  have o2 : S2.off = false := by rw [a2]; exact o1
  have f2 : S2.fuse = ((1 : Nat) : Int) := by rw [a2]; rfl
  have k2 : S2.keep = ((127 : Nat) : Int) := by rw [a2]; rfl
  have w2 : S2.wr ≤ 10 := by rw [a2]; show S1.wr ≤ 10; rw [w1, w0]; decide
  have b2 : ∀ j, blockL S2 j = blockL S1 j := fun j => by rw [q2, blockL_arm]
  clear a2
  obtain ⟨e3, ok3, l3, w3, t3, -, d3⟩ := save_torn (from_ := 8) (g := 2) (b := [116, 119, 111]) ok2 o2 f2 (by decide) (by omega) (by omega) (by decide)
  change saveE S2 8 2 [116, 119, 111] = 19 at e3
  change DSOk (saveD S2 8 2 _) at ok3
  change (saveD S2 8 2 _).len = _ at l3
  change (saveD S2 8 2 _).wr ≤ _ at w3
  change ∀ j, _ → blockL (saveD S2 8 2 _) j = _ at t3
  have d3' := (d3 (by decide)).1
  change blockL (saveD S2 8 2 _) _ = _ at d3'
  rw [← q3] at ok3 l3 w3 t3 d3'
  have ok4 : DSOk S4 := by rw [q4]; exact ok3.power
  have l4 : S4.len = 520 := by rw [q4]; show S3.len = 520; omega
  have o4 : S4.off = false := by rw [q4]; rfl
  have f4 : S4.fuse = -1 := by rw [q4]; rfl
  have w4 : S4.wr ≤ 20 := by
    rw [q4]; show S3.wr ≤ 20
    have : blkN ([116, 119, 111] : List UInt8).length = 1 := by decide
    rw [this] at w3; omega
  have b4 : ∀ j, blockL S4 j = blockL S3 j := fun j => by rw [q4]; rfl
  have s4 : hasV S4 (vAt 8 1) (1 % 2) = some (1, [111, 110, 101]) := by
    rw [← s1]
    refine has_cong (fun j h1 h2 => ?_)
    rw [b4, t3 j (by unfold vAt at *; omega), b2]
  have n4 : (frR 86 (blockL S4 (vAt 8 2))).e ≠ 0 := by
    rw [b4, d3', k2]
    exact frR_torn (vheadL_length _ _) (by omega)
  have r4 : loadR S4 8 = ⟨1, [111, 110, 101], 0⟩ := load_pick o4 s4 (fun g' b' hh => by rw [has_no n4] at hh; cases hh)
  obtain ⟨e5, ok5, l5, o5, f5, w5, s5, t5⟩ := save_whole (from_ := 8) (g := 2) (b := []) ok4 o4 (.inl (by omega)) (by omega) (by omega) (by decide)
  change saveE S4 8 2 [] = 0 at e5
  change (saveD S4 8 2 _).off = _ at o5
  change hasV (saveD S4 8 2 _) _ _ = _ at s5
  change ∀ j, _ → blockL (saveD S4 8 2 _) j = _ at t5
  rw [← q5] at o5 s5 t5
  have s51 : hasV S5 (vAt 8 3) (3 % 2) = some (1, [111, 110, 101]) := by
    rw [← s4]
    refine has_cong (fun j h1 h2 => t5 j ?_)
    have e3 : vAt 8 3 = 264 := rfl
    have e2 : vAt 8 2 = 8 := rfl
    omega
  have r5 : loadR S5 8 = ⟨2, [], 0⟩ := load_pick o5 s5 (fun g' b' hh => by
    have hh : hasV S5 (vAt 8 3) (3 % 2) = some (g', b') := hh
    rw [s51] at hh
    simp only [Option.some.injEq, Prod.mk.injEq] at hh
    omega)
  exact ⟨S1, S2, S3, S4, S5, q1, q2, q3, q4, q5, by omega, load_none o0 h0 h1, e1, by omega, e3, r4, by omega, e5, r5⟩
theorem VW.saveLit {K : DiskRel} {R : VltRel} {w : World} {vb db : Nat} {S : DS} {a : Nat} {V : World} (c : VSaveC K R) (h : VW K R w vb db S a V) (gen : Int) (hw : S.wr ≤ 900000) (cs : Array Value) (fr : Nat × Nat) (b : List UInt8) (hb : cs.toList = bvs b) (hl : b.length ≤ 1000) :
    Calls Try.prog 12 #[ptrV vb, .int .i64 gen, .slice (some ⟨V.heap.size, 0, none⟩) b.length b.length] (V.alloc (.cells cs 5 fr)) fun e w' => e = .returned (.int .i64 (saveE S a gen b)) ∧ VW K R w vb db (saveD S a gen b) a w' :=
  h.save2 c (below_mark V cs fr) gen hw (bs_mark V cs fr b hb hl) (by omega) (fun x hx _ => by cases hx; exact Nat.le_refl _)
theorem VW.loadIs {K : DiskRel} {R : VltRel} {w : World} {vb db : Nat} {S : DS} {a : Nat} {V : World} (c : VLoadC K R) (h : VW K R w vb db S a V) {g : Nat} {b : List UInt8} {x : Int} (hr : loadR S a = ⟨g, b, x⟩) :
    Calls Try.prog 21 #[ptrV vb] V fun e w' => ∃ p c, e = .returned (.tuple #[.int .i64 (g : Int), .slice p b.length c, .int .i64 x]) ∧ BsAt w' p b.length c b ∧ (∀ y, p = some y → V.heap.size ≤ y.block) ∧ Below V.heap.size V w' := by
  have := h.load2 c
  rw [hr] at this
  exact this

set_option maxRecDepth 100000 in
set_option maxHeartbeats 6400000 in
theorem valive_any (K : DiskRel) (R : VltRel) (dN : DNewC K) (dA : DArmC K) (dP : DPowerC K) (vN : VNewC K R) (vX : VNewNoC K) (vB : VBlocksC) (vS : VSaveC K R) (vL : VLoadC K R) (nS : VNilSaveC) : VAliveC := by
  intro w
  have kc := fun (w : World) (C : Array Value) (n c : Nat) => Lib.run_convert_bytes_const (P := Try.prog) w 31 5 C n c Try.underlying31 Try.underlying5
  obtain ⟨S1, S2, S3, S4, S5, hF⟩ := vafacts (DS.new 520) (DSOk.new (by omega)) (DS.new_len 520) rfl rfl rfl (fun j hj => new_block 520 j hj)
  have HF := Lib.hid hF
  clear hF
  have HN : Hid (Calls Try.prog 7 #[.int .i64 520] w fun e w' => ∃ b F, e = .returned (.tuple #[ptrV b, .int .i64 0]) ∧ K.At w' b (DS.new 520) F ∧ (∀ k, F k → w.heap.size ≤ k) ∧ Below w.heap.size w w') := Lib.hid (dN 520 w (by omega) (by omega))
  go_enter Try.func9, Try.ntmps9
  go_wp2_with fail
  refine HN.out.mono ?_
  rintro e V1 ⟨db, D, rfl, hD, hown, hB1⟩
  have HJ : Hid (Calls Try.prog 8 #[ptrV db, .int .i64 8] V1 fun e w' => ∃ vb, e = .returned (.tuple #[ptrV vb, .int .i64 0]) ∧ VW K R w vb db (DS.new 520) 8 w') := Lib.hid (VW.made vN hD hown hB1 8 (by omega) (by omega))
  clear hD hown hB1 HN
  unfold ptrV at *
  go_wp2_with fail
  refine HJ.out.mono ?_
  rintro e V2 ⟨vb, rfl, hW⟩
  have hX : Calls Try.prog 8 #[ptrV db, .int .i64 9] V2 fun e w' => e = .returned (.tuple #[.pointer none, .int .i64 8]) ∧ VW K R w vb db (DS.new 520) 8 w' := by
    obtain ⟨F, h1, -⟩ := hW.ex
    obtain ⟨D, G, g1, -⟩ := h1.ex
    exact (vX 9 V2 db (DS.new 520) D g1 (DSOk.new (by omega)) (.inr (by rw [DS.new_len]; omega)) (by omega) (by omega)).mono fun e w' ⟨he, hB⟩ => ⟨he, hW.step hB⟩
  have HX := Lib.hid hX
  clear hW HJ hX
  unfold ptrV at *
  generalize DS.new 520 = S0 at *
  go_wp2_with fail
  refine HX.out.mono ?_
  rintro e V3 ⟨rfl, hW3⟩
  have HL0 := Lib.hid (hW3.loadIs vL HF.out.r0)
  have HW3 := Lib.hid hW3
  clear hW3 HX
  unfold ptrV at *
  go_wp2_with fail
  refine HL0.out.mono ?_
  rintro e V4 ⟨p4, c4, rfl, -, -, hB4⟩
  have hW4 := HW3.out.step hB4
  have HSv : Hid (Calls Try.prog 12 #[ptrV vb, .int .i64 1, .slice (some ⟨V4.heap.size, 0, none⟩) 3 3] (V4.alloc (.cells #[.int .u8 111, .int .u8 110, .int .u8 101] 5 (3, 4))) fun e w' => e = .returned (.int .i64 0) ∧ VW K R w vb db S1 8 w') := Lib.hid (by
    have h := hW4.saveLit vS 1 HF.out.w0 #[.int .u8 111, .int .u8 110, .int .u8 101] (3, 4) [111, 110, 101] rfl (by simp)
    rw [HF.out.e1, ← HF.out.q1] at h
    exact h)
  clear hB4 hW4 HL0 HW3
  unfold ptrV at *
  go_wp2_with fail
  refine HSv.out.mono ?_
  rintro e V5 ⟨rfl, hW5⟩
  have HAr : Hid (Calls Try.prog 14 #[ptrV db, .int .i64 1, .int .i64 127] V5 fun e w' => e = .returned (.int .i64 0) ∧ VW K R w vb db S2 8 w') := Lib.hid (by
    have h := hW5.arm dA 1 127 (by omega)
    rw [show armE 1 127 = 0 by decide, ← HF.out.q2] at h
    exact h)
  clear hW5 HSv
  unfold ptrV at *
  go_wp2_with fail
  refine HAr.out.mono ?_
  rintro e V6 ⟨rfl, hW6⟩
  have HS3 : Hid (Calls Try.prog 12 #[ptrV vb, .int .i64 2, .slice (some ⟨V6.heap.size, 0, none⟩) 3 3] (V6.alloc (.cells #[.int .u8 116, .int .u8 119, .int .u8 111] 5 (3, 4))) fun e w' => e = .returned (.int .i64 19) ∧ VW K R w vb db S3 8 w') := Lib.hid (by
    have h := hW6.saveLit vS 2 HF.out.w2 #[.int .u8 116, .int .u8 119, .int .u8 111] (3, 4) [116, 119, 111] rfl (by simp)
    rw [HF.out.e3, ← HF.out.q3] at h
    exact h)
  clear hW6 HAr
  unfold ptrV at *
  go_wp2_with fail
  refine HS3.out.mono ?_
  rintro e V7 ⟨rfl, hW7⟩
  have HPw : Hid (Calls Try.prog 16 #[ptrV db] V7 fun e w' => e = .returned (.tuple #[]) ∧ VW K R w vb db S4 8 w') := Lib.hid (by
    have h := hW7.power dP
    rw [← HF.out.q4] at h
    exact h)
  clear hW7 HS3
  unfold ptrV at *
  go_wp2_with fail
  refine HPw.out.mono ?_
  rintro e V8 ⟨rfl, hW8⟩
  have HL4 := Lib.hid (hW8.loadIs vL HF.out.r4)
  have HW8 := Lib.hid hW8
  clear hW8 HPw
  unfold ptrV at *
  go_wp2_with fail
  refine HL4.out.mono ?_
  rintro e V9 ⟨p9, c9, rfl, hb9, hq9, hB9⟩
  have HS5 : Hid (Calls Try.prog 12 #[ptrV vb, .int .i64 2, .slice none 0 0] V9 fun e w' => e = .returned (.int .i64 0) ∧ BsAt w' p9 3 c9 [111, 110, 101] ∧ VW K R w vb db S5 8 w') := Lib.hid (by
    have h := HW8.out.saveK vS hB9 2 HF.out.w4 hb9 hq9
    rw [HF.out.e5, ← HF.out.q5] at h
    exact h)
  clear hb9 hq9 hB9 HL4 HW8
  unfold ptrV at *
  go_wp2_with fail
  refine HS5.out.mono ?_
  rintro e V10 ⟨rfl, hb10, hW10⟩
  have HL5 := Lib.hid (hW10.loadIs vL HF.out.r5)
  have HW10 := Lib.hid hW10
  have HX10 := Lib.hid hb10
  clear hW10 hb10 HS5
  unfold ptrV at *
  go_wp2_with fail
  refine HL5.out.mono ?_
  rintro e V11 ⟨p11, c11, rfl, -, -, hB11⟩
  have HB11 := Lib.hid (HW10.out.below.trans (hB11.mono HW10.out.below.size))
  have q1 := run_string_bs (P := Try.prog) V11 31 5 9 Try.underlying31 Try.underlying5 Try.underlying9 (HX10.out.below hB11 (Nat.le_refl _))
  have HBl := Lib.hid (vB 129 V11 (by omega))
  rw [show (if (129 : Int) < 1 then (0 : Int) else ((blkN (129 : Int).toNat : Nat) : Int)) = 2 by decide] at HBl
  have HNs := Lib.hid (nS none 0 0 V11)
  clear HL5 HW10 HX10 hB11
  go_upto_region 15 with fail
  (try simp only [List.append_eq, List.cons_append, List.nil_append])
  go_wp2_with fail
  refine HBl.out.mono ?_
  rintro e V12 ⟨rfl, rfl⟩
  go_wp2_with fail
  refine HNs.out.mono ?_
  rintro e V13 ⟨rfl, hB13⟩
  have HB13 := Lib.hid (HB11.out.trans (hB13.mono HB11.out.size))
  clear hB13 HNs
  go_wp2_with fail
  go_ret
  exact ⟨rfl, HB13.out⟩
end Go.Proofs.Ytbmcajhknohhdaa

/-! FrmE -/
namespace Go.Proofs.Ytbmcajhknohhdaa
open Go.RowKit

/-- Where a part of a block lies. -/
def partP (p : Option Addr) (lo hi : Nat) : Option Addr := if hi = lo then p else p.map (·.add lo)
set_option maxHeartbeats 400000 in
theorem fpart_any (p : Option Addr) (len cap lo hi : Nat) (x y : Int) (w : World) (hx : x = (lo : Int)) (hy : y = (hi : Int)) (h1 : lo ≤ hi) (h2 : hi ≤ cap) :
    Calls Try.prog 60 #[.slice p len cap, .int .i64 x, .int .i64 y] w fun e w' => e = .returned (.slice (partP p lo hi) (hi - lo) (hi - lo)) ∧ w = w' := by
  have q : ∀ V, (Instr.slice 31 (.slice p len cap) (some (.int .i64 x)) (some (.int .i64 y)) (some (.int .i64 y))).run Try.prog V = .ok (.slice (partP p lo hi) (hi - lo) (hi - lo)) V := by
    intro V
    rw [run_slice_lhm V _ _ _ _ elemU8 .i64 .i64 .i64 _ _ _ (by omega) (by omega) (by omega) (by omega), sizeU8]
    subst hx; subst hy
    simp [Result.andThen, sliced, partP]
  clear hx hy h1 h2
  go_enter Try.func60, Try.ntmps60
  go_wp2_with fail
  go_ret
  exact ⟨rfl, rfl⟩
/-- A part that is not empty, of a block that has an address. -/
theorem fpart_at (g off len cap lo hi : Nat) (x y : Int) (o n : Nat) (w : World) (hx : x = (lo : Int)) (hy : y = (hi : Int)) (h1 : lo < hi) (h2 : hi ≤ cap) (ho : off + lo = o) (hn : hi - lo = n) :
    Calls Try.prog 60 #[.slice (some ⟨g, off, none⟩) len cap, .int .i64 x, .int .i64 y] w fun e w' => e = .returned (.slice (some ⟨g, o, none⟩) n n) ∧ w = w' := by
  refine (fpart_any (some ⟨g, off, none⟩) len cap lo hi x y w hx hy (by omega) h2).mono fun e w' ⟨he, hw⟩ => ⟨?_, hw⟩
  subst ho; subst hn
  rw [he, partP, if_neg (by omega)]
  have : (⟨g, off, none⟩ : Addr).add lo = ⟨g, off + lo, none⟩ := by unfold Addr.add; split <;> simp_all
  simp [this]
/-- A part reads as the bytes there. -/
theorem part_bs {w : World} {p : Option Addr} {len cap lo hi : Nat} {l : List UInt8} (h : BsAt w p len cap l) (h1 : lo ≤ hi) (h2 : hi ≤ len) : BsAt w (partP p lo hi) (hi - lo) (hi - lo) ((l.take hi).drop lo) := by
  have hl := h.same
  have ht := bs_take (n := hi) h (by omega)
  have hc : BsAt w p hi hi (l.take hi) := by
    refine ⟨ht.same, Nat.le_refl _, by have := h.le; have := h.small; omega, ?_⟩
    rcases ht.place with ⟨h3, h4⟩ | h3 | h3
    · exact .inl ⟨h3, by have := h.le; omega⟩
    · exact .inr (.inl h3)
    · exact .inr (.inr h3)
  have hd := bs_drop (n := lo) hc (by rw [List.length_take]; omega)
  exact hd

set_option maxHeartbeats 400000 in
theorem fwithin_any (n most : Int) (w : World) : Calls Try.prog 58 #[.int .i64 n, .int .i64 most] w fun e w' => e = .returned (.bool (decide (0 ≤ n) && decide (n ≤ most))) ∧ w = w' := by
  by_cases h1 : 0 ≤ n
  · by_cases h2 : n ≤ most
    · have b1 : decide (0 ≤ n) = true := by simpa using h1
      have b2 : decide (n ≤ most) = true := by simpa using h2
      go_enter Try.func58, Try.ntmps58
      go_wp2_with fail
      go_ret
      exact ⟨by rw [b1, b2]; rfl, rfl⟩
    · have b1 : decide (0 ≤ n) = true := by simpa using h1
      have b2 : decide (n ≤ most) = false := by simpa using h2
      clear h1 h2
      go_enter Try.func58, Try.ntmps58
      go_wp2_with fail
      go_ret
      exact ⟨by rw [b1, b2]; rfl, rfl⟩
  · have b1 : decide (0 ≤ n) = false := by simpa using h1
    clear h1
    go_enter Try.func58, Try.ntmps58
    go_wp2_with fail
    go_ret
    exact ⟨by rw [b1]; rfl, rfl⟩

theorem wNum_fit {l : List UInt8} {n : Nat} {k : Nat} (h1 : 1 ≤ k) (h4 : k ≤ 4) (hn : n < 256 ^ k) : wNum (l, 0) (n : Int) (k : Int) = (l ++ be n k, 0) := by
  have ho : okN (n : Int) (k : Int) = true := by
    rw [okN_iff]
    refine ⟨by omega, by omega, by omega, ?_⟩
    have e : (256 : Int) ^ k = ((256 ^ k : Nat) : Int) := (Int.natCast_pow 256 k).symm
    rw [Int.toNat_natCast, e]
    exact Int.ofNat_lt.2 hn
  unfold wNum addS
  rw [if_pos ho, if_pos rfl, Int.toNat_natCast, Int.toNat_natCast]
theorem head_num (kd : UInt8) (gen seq n : Nat) (hg : gen < 4294967296) (hs : seq < 65536) (hn : n < 256) :
    wNum (wNum (wNum (wNum ([], 0) (kd.toNat : Int) 1) (gen : Int) 4) (seq : Int) 2) (n : Int) 1 = (frHead kd gen seq n, 0) := by
  have e1 : wNum ([], 0) (kd.toNat : Int) 1 = _ := wNum_fit (l := []) (n := kd.toNat) (k := 1) (by omega) (by omega) (by have := kd.toNat_lt; simpa using this)
  have e2 : wNum ([] ++ be kd.toNat 1, 0) (gen : Int) 4 = _ := wNum_fit (l := [] ++ be kd.toNat 1) (n := gen) (k := 4) (by omega) (by omega) (by simpa using hg)
  have e3 : wNum ([] ++ be kd.toNat 1 ++ be gen 4, 0) (seq : Int) 2 = _ := wNum_fit (l := [] ++ be kd.toNat 1 ++ be gen 4) (n := seq) (k := 2) (by omega) (by omega) (by simpa using hs)
  have e4 : wNum ([] ++ be kd.toNat 1 ++ be gen 4 ++ be seq 2, 0) (n : Int) 1 = _ := wNum_fit (l := [] ++ be kd.toNat 1 ++ be gen 4 ++ be seq 2) (n := n) (k := 1) (by omega) (by omega) (by simpa using hn)
  rw [e1, e2, e3, e4]
  simp [be, frHead, Nat.div_div_eq_div_mul]

set_option maxRecDepth 100000 in
set_option maxHeartbeats 1600000 in
theorem fnumbers_any (kd : UInt8) (gen seq n : Nat) (w : World) (hg : gen < 4294967296) (hs : seq < 65536) (hn : n < 256) :
    Calls Try.prog 59 #[.int .u8 (kd.toNat : Int), .int .i64 (gen : Int), .int .i64 (seq : Int), .int .i64 (n : Int)] w fun e w' => ∃ v, e = .returned (.tuple #[v, .int .i64 0]) ∧ BsNew w (frHead kd gen seq n) v w' ∧ Below w.heap.size w w' := by
  have HN := Lib.hid (head_num kd gen seq n hg hs hn)
  have H0 := Lib.hid (WAt.new w 85)
  have hk := kd.toNat_lt
  generalize kd.toNat = k at *
  have hkw : IntKind.i64.wrap (k : Int) = (k : Int) := IntWalk.i64_in _ (by omega)
  go_enter Try.func59, Try.ntmps59
  go_wp2_with fail
  refine (wnum_any w.heap.size w.heap.size _ _ _ _ _ _ H0.out (by simp) (by simp)).mono ?_
  rintro e w1 ⟨rfl, v1, hT1⟩
  have HT1 := Lib.hid hT1
  have HB1 := Lib.hid ((belowNew w _).trans (hT1.below H0.out (by simp) (Nat.le_refl _)))
  have hl1 := wNum_le ([], 0) (k : Int) 1
  clear hT1
  go_wp2_with fail
  refine (wnum_any w.heap.size w.heap.size _ _ _ _ _ _ HT1.out.now HB1.out.size (by simp at hl1; omega)).mono ?_
  rintro e w2 ⟨rfl, v2, hT2⟩
  have HT2 := Lib.hid hT2
  have HB2 := Lib.hid (HB1.out.trans (hT2.below HT1.out.now HB1.out.size (Nat.le_refl _)))
  have hl2 := wNum_le (wNum ([], 0) (k : Int) 1) (gen : Int) 4
  clear hT2
  go_wp2_with fail
  refine (wnum_any w.heap.size w.heap.size _ _ _ _ _ _ HT2.out.now HB2.out.size (by simp at hl1; omega)).mono ?_
  rintro e w3 ⟨rfl, v3, hT3⟩
  have HT3 := Lib.hid hT3
  have HB3 := Lib.hid (HB2.out.trans (hT3.below HT2.out.now HB2.out.size (Nat.le_refl _)))
  have hl3 := wNum_le (wNum (wNum ([], 0) (k : Int) 1) (gen : Int) 4) (seq : Int) 2
  clear hT3
  go_wp2_with fail
  refine (wnum_any w.heap.size w.heap.size _ _ _ _ _ _ HT3.out.now HB3.out.size (by simp at hl1; omega)).mono ?_
  rintro e w4 ⟨rfl, v4, hT4⟩
  have HT4 := Lib.hid hT4
  have HB4 := Lib.hid (HB3.out.trans (hT4.below HT3.out.now HB3.out.size (Nat.le_refl _)))
  have hl4 := wNum_le (wNum (wNum (wNum ([], 0) (k : Int) 1) (gen : Int) 4) (seq : Int) 2) (n : Int) 1
  clear hT4
  go_wp2_with fail
  refine (done_any w.heap.size w.heap.size _ _ _ _ HT4.out.now (by simp at hl1; omega)).mono ?_
  rintro e w5 ⟨v5, rfl, hbs, hB5⟩
  have HB5 := Lib.hid (HB4.out.trans (hB5.mono HB4.out.size))
  have HS5 := Lib.hid (hbs.older HB4.out.size)
  rw [HN.out] at HS5
  rw [HN.out]
  clear hbs hB5 HN
  go_wp2_with fail
  refine bodyPost_ret (results_tmp2 rfl _ _ _) rfl ?_
  exact ⟨_, rfl, HS5.out, HB5.out⟩

set_option maxHeartbeats 1600000 in
theorem fblank_any (p : Option Addr) (len cap : Nat) (l : List UInt8) (w : World) (h : BsAt w p len cap l) :
    Calls Try.prog 75 #[.slice p len cap] w fun e w' => e = .returned (.bool (l.all fun c => c == 0)) ∧ w = w' := by
  have hlen := h.same
  subst hlen
  have hm : l.length ≤ 9223372036854775807 := by have := h.le; have := h.small; unfold maxLen at this; omega
  have HB := Lib.hid h
  clear h
  go_enter Try.func75, Try.ntmps75
  go_wp2_with fail
  go_loop [7] (fun i => ∃ j : Nat, j ≤ l.length ∧ i = .int .i64 j ∧ (l.take j).all (fun c => c == 0) = true) (fun i => l.length - (intOf i).toNat)
  case atStart => exact ⟨0, Nat.zero_le _, rfl, by simp⟩
  case round =>
    obtain ⟨j, hj, rfl, ha⟩ := hrel
    have HA := Lib.hid ha
    clear ha
    by_cases hlt : j < l.length
    · obtain ⟨g', off, rfl, hc⟩ : ∃ g' off, p = some ⟨g', off, none⟩ ∧ w.cell? ⟨g', off + j, none⟩ = some (.int .u8 (l[j].toNat : Int)) := by
        rcases HB.out.place with ⟨-, h2⟩ | ⟨h2, -⟩ | ⟨g', off, rfl, -, h3⟩
        · have := HB.out.le; omega
        · rw [h2] at hlt; simp at hlt
        · exact ⟨g', off, rfl, h3 j hlt⟩
      by_cases hz : l[j] = 0
      · have hx : ((l[j].toNat : Nat) : Int) = 0 := by rw [hz]; rfl
        rw [hx] at hc
        have HA2 := Lib.hid (show (l.take (j + 1)).all (fun c => c == 0) = true by rw [List.take_succ_eq_append_getElem hlt, List.all_append, HA.out, hz]; rfl)
        clear hz hx
        go_wp2_with fail
        go_round
        case rel => exact ⟨j + 1, by omega, by go_num, HA2.out⟩
        case measure => simp [intOf]; omega
      · have HE := Lib.hid (show (l.all fun c => c == 0) = false by
          rw [List.all_eq_false]
          exact ⟨l[j], List.getElem_mem hlt, by simpa using hz⟩)
        have hx : ¬ ((l[j].toNat : Nat) : Int) = 0 := by
          intro e
          exact hz (UInt8.toNat_inj.1 (by simpa using e))
        generalize l[j].toNat = x at *
        clear hz
        go_wp2_with fail
        go_ret
        exact ⟨by rw [HE.out]; rfl, rfl⟩
    · have HE := Lib.hid (show (l.all fun c => c == 0) = true by rw [← HA.out, List.take_of_length_le (by omega)])
      go_wp2_with fail
      go_ret
      exact ⟨by rw [HE.out]; rfl, rfl⟩
end Go.Proofs.Ytbmcajhknohhdaa

/-! FrmF -/
namespace Go.Proofs.Ytbmcajhknohhdaa
open Go.RowKit

theorem infoSz1 : (Try.prog.info? 5).map (·.size) = some 1 := by kernel_rfl
theorem fresh_of_blk {w : World} {B g n : Nat} {l : List UInt8} {t : TypeId} (h : Blk w g (bvA l) t) (hl : l.length = n) (hB : B ≤ g) (hn : n ≤ maxLen) : FreshB B w (.slice (some ⟨g, 0, none⟩) n n) l :=
  ⟨t, by rw [bvs_length, hl]; omega, .inr ⟨g, n, bvA l, by rw [hl], hB, h, by rw [hl]; exact Nat.le_refl _, hn, by rw [bvA_size, hl, Nat.mul_one], by rw [Nat.mul_one, List.take_of_length_le (by simp [bvA, bvs_length])]; rfl⟩⟩
/-- The row that make made is a block of just these bytes. -/
theorem blk_of_made {w : World} {B g n : Nat} {l : List UInt8} {t : TypeId} (h : w.ownsRow B t 1 (.slice (some ⟨g, 0, none⟩) n n) l.length (bvs l)) : Blk w g (bvA l) t ∧ B ≤ g := by
  obtain ⟨h1, h2⟩ := h
  rcases h2 with ⟨h2, -⟩ | ⟨g', cap, cur, h2, hB, hg, h3, h4, h5, h6⟩
  · cases h2
  · simp only [Value.slice.injEq, Option.some.injEq, Addr.mk.injEq, and_true] at h2
    obtain ⟨rfl, h7, h8⟩ := h2
    refine ⟨?_, hB⟩
    have e : cur = bvA l := by
      apply Array.ext'
      rw [← List.take_of_length_le (l := cur.toList) (i := l.length * 1) (by simp; omega), h6]
      simp [bvA]
    rw [← e]; exact hg
/-- copy(dst, s), s a string that fits. -/
theorem wpList_copy_text {P : Program} {w : World} {ops : Array Oper} {rest : List Oper} {o : Oper} {a : Act} {Q : Exit → Act → World → Prop} (hgd : o.guard = none) (d s : Operand) (dT sT : TypeId)
    (ho : o.op = .call { callee := .builtin .copy, args := #[d, s], argTypes := #[dT, sT] }) (elem : TypeId) (hu : P.underlying dT = some (.slice elem)) (hsz : (P.info? elem).map (·.size) = some 1)
    {g off dLen dCap : Nat} {r : ByteArray} {all : List UInt8} {t : TypeId} (hd : a.eval d = .slice (some ⟨g, off, none⟩) dLen dCap) (hs : a.eval s = .string r) (h : Blk w g (bvA all) t) (hle : r.size ≤ dLen) (hfit : off + r.size ≤ all.length)
    (hK : ∀ w', Put w w' g (bvA (putL all off r.data.toList)) t → wpList P ops Q rest (a.put o.dst (goInt r.size)) w') : wpList P ops Q (o :: rest) a w := by
  refine wpList_plain hgd fun K hK' => ?_
  have hrun := Lib.run_copy_row_string (P := P) w dT sT o.type elem g off dLen dCap r (bvA all) t hu hsz h hle (by rw [bvA_size]; exact hfit)
  have e := bvs_put_row all r.data.toList off
  have hn : (bvs r.data.toList).length = r.size := by rw [bvs_length]; simp
  rw [hn] at e
  have e2 : Lib.byteCells r.data.toList = bvs r.data.toList := rfl
  rw [e2, e] at hrun
  unfold Oper.wp
  simp [execOp, ho, resolve, invoke, builtin, hd, hs, hrun, Result.andThen]
  exact hK' _ _ (hK _ (put_row h))

/-! What lies in the block, copy by copy. -/
theorem fr_put1 (kd : UInt8) (gen seq n : Nat) : putL (zerosB 128) 0 ((frHead kd gen seq n).take 8) = frHead kd gen seq n ++ zerosB 120 := by
  simp [putL, frHead, zerosB]
theorem fr_put2 (kd : UInt8) (gen seq : Nat) (b : List UInt8) (hn : b.length ≤ 112) : putL (frHead kd gen seq b.length ++ zerosB 120) 8 (b.take 112) = frBody kd gen seq b ++ zerosB 8 := by
  have e1 : b.take 112 = b := List.take_of_length_le hn
  have e2 : (frHead kd gen seq b.length).length = 8 := rfl
  unfold putL
  rw [e1, List.take_left' e2, ← List.drop_drop, List.drop_left' e2]
  unfold frBody zeros zerosB
  rw [List.drop_replicate, List.append_assoc, List.append_assoc, List.replicate_append_replicate, show 120 - b.length = 112 - b.length + 8 by omega]
theorem fr_put3 (kd : UInt8) (gen seq : Nat) (b : List UInt8) (hn : b.length ≤ 112) : putL (frBody kd gen seq b ++ zerosB 8) 0 ((sealL (frBody kd gen seq b)).take 124) = sealL (frBody kd gen seq b) ++ zerosB 4 := by
  have hl := frBody_length (kd := kd) (gen := gen) (seq := seq) hn
  have hs : (sealL (frBody kd gen seq b)).length = 124 := by rw [sealL_length, hl]
  have e : (sealL (frBody kd gen seq b)).take 124 = sealL (frBody kd gen seq b) := List.take_of_length_le (by omega)
  unfold putL
  rw [e, hs]
  simp [List.drop_append, hl, zerosB]
theorem fr_put4 (kd : UInt8) (gen seq : Nat) (b : List UInt8) (hn : b.length ≤ 112) : putL (sealL (frBody kd gen seq b) ++ zerosB 4) 124 [0, 0, 0, 69] = frL kd gen seq b := by
  have hl := frBody_length (kd := kd) (gen := gen) (seq := seq) hn
  have hs : (sealL (frBody kd gen seq b)).length = 124 := by rw [sealL_length, hl]
  unfold putL
  rw [List.take_left' hs, List.drop_of_length_le (by simp [hs, zerosB])]
  simp [frL, frTail]
theorem fr_body (kd : UInt8) (gen seq : Nat) (b : List UInt8) (hn : b.length ≤ 112) : (((frBody kd gen seq b ++ zerosB 8).drop 0).take 120) = frBody kd gen seq b := by
  rw [List.drop_zero, List.take_left' (frBody_length hn)]

set_option maxRecDepth 100000 in
set_option maxHeartbeats 3200000 in
theorem frWrite_main (kd : UInt8) (gen seq : Nat) (p : Option Addr) (cap : Nat) (b : List UInt8) (w : World) (h : BsAt w p b.length cap b) (hg : gen ≤ 2147483647) (hs : seq ≤ 65535) (hn : b.length ≤ 112) :
    Calls Try.prog 42 #[.int .u8 (kd.toNat : Int), .int .i64 (gen : Int), .int .i64 (seq : Int), .slice p b.length cap] w fun e w' => ∃ q c, e = .returned (.tuple #[.slice q 128 c, .int .i64 0]) ∧ FreshB w.heap.size w' (.slice q 128 c) (frL kd gen seq b) ∧ Below w.heap.size w w' := by
  have HBs := Lib.hid h
  have HW1 := Lib.hid (fun V => fwithin_any (gen : Int) 2147483647 V)
  have HW2 := Lib.hid (fun V => fwithin_any (seq : Int) 65535 V)
  have HN := Lib.hid (fnumbers_any kd gen seq b.length w (by omega) (by omega) (by omega))
  rw [show (decide (0 ≤ (gen : Int)) && decide ((gen : Int) ≤ 2147483647)) = true by simp; omega] at HW1
  rw [show (decide (0 ≤ (seq : Int)) && decide ((seq : Int) ≤ 65535)) = true by simp; omega] at HW2
  have HF := Lib.hid (And.intro (fr_put1 kd gen seq b.length) (And.intro (fr_put2 kd gen seq b hn) (And.intro (fr_put3 kd gen seq b hn) (And.intro (fr_put4 kd gen seq b hn) (fr_body kd gen seq b hn)))))
  have HL := Lib.hid (And.intro (frBody_length (kd := kd) (gen := gen) (seq := seq) hn) (frL_length (kd := kd) (gen := gen) (seq := seq) hn))
  have hb9 : b.length ≤ 9223372036854775807 := by omega
  have HH := Lib.hid (show (frHead kd gen seq b.length).length = 8 from rfl)
  clear h hg hs
  go_enter Try.func42, Try.ntmps42
  go_wp2_with fail
  with_reducible refine (HW1.out _).mono ?_
  rintro e w0 ⟨rfl, rfl⟩
  go_wp2_with fail
  with_reducible refine (HW2.out _).mono ?_
  rintro e w0 ⟨rfl, rfl⟩
  go_wp2_with fail
  with_reducible refine HN.out.mono ?_
  rintro e w1 ⟨v1, rfl, ⟨p1, n1, c1, rfl, hb1, -⟩, hB1⟩
  have HB1 := Lib.hid hB1
  have HS1 := Lib.hid hb1
  clear hb1 hB1 HW1 HW2 HN
  have tok1 : True := trivial
  go_upto_region 9 with (at_make; have _t := tok1; refine wpList_make_zeros rfl _ _ 31 rfl w1.heap.size 5 Try.underlying31 infoU8 128 rfl rfl rfl rfl (by decide) (Nat.le_refl _) ?_; intro w2 hown hg; have HO2 := Lib.hid hown; have HG2 := Lib.hid hg; clear hown hg tok1)
  have HK2 := Lib.hid (blk_of_made HO2.out).1
  have HB2 := Lib.hid (HB1.out.grown HG2.out HB1.out.size (fun k hk => by cases hk))
  have HS2 := Lib.hid (HS1.out.below ((Below.refl w1.heap.size w1).grown HG2.out (Nat.le_refl _) (fun k hk => by cases hk)) (Nat.le_refl _))
  have hG : w.heap.size ≤ w1.heap.size := HB1.out.size
  clear HO2 HG2 HS1
  generalize w1.heap.size = g at *
  go_wp2_with fail
  with_reducible refine (fpart_at g 0 128 128 0 8 0 8 0 8 _ rfl rfl (by decide) (by decide) rfl rfl).mono ?_
  rintro e w3 ⟨rfl, rfl⟩
  go_wp2_with (refine wpList_copy_part rfl _ _ 31 31 rfl 5 Try.underlying31 infoSz1 rfl rfl HK2.out HS2.out (by simp [zerosB]) ?_; intro w4 hw4; have HP4 := Lib.hid hw4; clear hw4)
  have HB4 := Lib.hid (HB2.out.trans (HP4.out.below HB2.out.size hG))
  have HK4 := Lib.hid HP4.out.blk
  rw [HF.out.1] at HK4
  have HS4 := Lib.hid (HBs.out.below HB4.out (Nat.le_refl _))
  clear HP4 HB2 HK2 HS2
  with_reducible refine (fpart_at g 0 128 128 8 120 8 120 8 112 _ rfl rfl (by decide) (by decide) rfl rfl).mono ?_
  rintro e w5 ⟨rfl, rfl⟩
  go_wp2_with (refine wpList_copy_part rfl _ _ 31 31 rfl 5 Try.underlying31 infoSz1 rfl rfl HK4.out HS4.out (by simp [zerosB, frHead]) ?_; intro w6 hw6; have HP6 := Lib.hid hw6; clear hw6)
  have HB6 := Lib.hid (HB4.out.trans (HP6.out.below HB4.out.size hG))
  have HK6 := Lib.hid HP6.out.blk
  rw [HF.out.2.1] at HK6
  clear HP6 HB4 HK4 HS4
  with_reducible refine (fpart_at g 0 128 128 0 124 0 124 0 124 _ rfl rfl (by decide) (by decide) rfl rfl).mono ?_
  rintro e w7 ⟨rfl, rfl⟩
  go_wp2_with fail
  with_reducible refine (fpart_at g 0 128 128 0 120 0 120 0 120 _ rfl rfl (by decide) (by decide) rfl rfl).mono ?_
  rintro e w7 ⟨rfl, rfl⟩
  have HS7 := Lib.hid (HK6.out.bs (off := 0) (n := 120) (cap := 120) (by simp [HL.out.1]) (Nat.le_refl _) (by decide))
  rw [HF.out.2.2.2.2] at HS7
  go_wp2_with fail
  refine (cSeal_any _ _ _ _ _ HS7.out (by rw [HL.out.1]; decide)).mono ?_
  rintro e w8 ⟨p8, n8, c8, rfl, hb8, hB8⟩
  have HB8 := Lib.hid (HB6.out.trans (hB8.mono HB6.out.size))
  have HK8 := Lib.hid (HK6.out.below hB8 HK6.out.lt)
  have HS8 := Lib.hid hb8
  clear hb8 hB8 HB6 HK6 HS7
  go_wp2_with (refine wpList_copy_part rfl _ _ 31 31 rfl 5 Try.underlying31 infoSz1 rfl rfl HK8.out HS8.out (by simp [zerosB, HL.out.1]) ?_; intro w9 hw9; have HP9 := Lib.hid hw9; clear hw9)
  have HB9 := Lib.hid (HB8.out.trans (HP9.out.below HB8.out.size hG))
  have HK9 := Lib.hid HP9.out.blk
  rw [HF.out.2.2.1] at HK9
  clear HP9 HB8 HK8 HS8
  with_reducible refine (fpart_at g 0 128 128 124 128 124 128 124 4 _ rfl rfl (by decide) (by decide) rfl rfl).mono ?_
  rintro e w10 ⟨rfl, rfl⟩
  have hz9 : 124 + 4 ≤ (sealL (frBody kd gen seq b) ++ zerosB 4).length := by rw [List.length_append, sealL_length, HL.out.1]; simp [zerosB]
  go_wp2_with (refine wpList_copy_text (r := ⟨#[0, 0, 0, 69]⟩) rfl _ _ 31 9 rfl 5 Try.underlying31 infoSz1 rfl rfl HK9.out (by decide) hz9 ?_; intro w11 hw11; have HP11 := Lib.hid hw11; clear hw11)
  refine bodyPost_ret (results_tmp2 rfl _ _ _) rfl ?_
  have HB11 := Lib.hid (HB9.out.trans (HP11.out.below HB9.out.size hG))
  have hk := HP11.out.blk
  rw [HF.out.2.2.2.1] at hk
  exact ⟨some ⟨g, 0, none⟩, 128, rfl, fresh_of_blk hk HL.out.2 hG (by decide), HB11.out⟩
theorem fresh_nil (B : Nat) (w : World) : FreshB B w (.slice none 0 0) [] := ⟨0, World.ownsRow_nil _ _ _ _⟩

set_option maxRecDepth 100000 in
set_option maxHeartbeats 1600000 in
theorem frWrite_any : FrWriteC := by
  intro kd gen seq p len cap b w h h5
  have hlen := h.same
  subst hlen
  by_cases h8 : gen < 0 ∨ 2147483647 < gen ∨ seq < 0 ∨ 65535 < seq
  · have he : frWE gen seq b = 8 := by unfold frWE; rw [if_pos h8]
    have HE := Lib.hid (show frWE gen seq b = 8 ∧ frWL kd gen seq b = [] from ⟨he, by unfold frWL; rw [he]; rfl⟩)
    have HW1 := Lib.hid (fun V => fwithin_any gen 2147483647 V)
    have HW2 := Lib.hid (fun V => fwithin_any seq 65535 V)
    by_cases hg : 0 ≤ gen ∧ gen ≤ 2147483647
    · rw [show (decide (0 ≤ gen) && decide (gen ≤ 2147483647)) = true by simp; omega] at HW1
      rw [show (decide (0 ≤ seq) && decide (seq ≤ 65535)) = false by simp; omega] at HW2
      clear he h h8 hg h5
      generalize b.length = n at *
      go_enter Try.func42, Try.ntmps42
      go_wp2_with fail
      with_reducible refine (HW1.out _).mono ?_
      rintro e w0 ⟨rfl, rfl⟩
      go_wp2_with fail
      with_reducible refine (HW2.out _).mono ?_
      rintro e w0 ⟨rfl, rfl⟩
      go_wp2_with fail
      refine bodyPost_ret (results_tmp2 rfl _ _ _) rfl ?_
      exact ⟨none, 0, by rw [HE.out.1, HE.out.2]; rfl, by rw [HE.out.2]; exact fresh_nil _ _, Below.refl _ _⟩
    · rw [show (decide (0 ≤ gen) && decide (gen ≤ 2147483647)) = false by simp; omega] at HW1
      clear he h h8 hg h5 HW2
      generalize b.length = n at *
      go_enter Try.func42, Try.ntmps42
      go_wp2_with fail
      with_reducible refine (HW1.out _).mono ?_
      rintro e w0 ⟨rfl, rfl⟩
      go_wp2_with fail
      refine bodyPost_ret (results_tmp2 rfl _ _ _) rfl ?_
      exact ⟨none, 0, by rw [HE.out.1, HE.out.2]; rfl, by rw [HE.out.2]; exact fresh_nil _ _, Below.refl _ _⟩
  · obtain ⟨g, rfl⟩ := Int.eq_ofNat_of_zero_le (show 0 ≤ gen by omega)
    obtain ⟨s, rfl⟩ := Int.eq_ofNat_of_zero_le (show 0 ≤ seq by omega)
    by_cases h112 : 112 < b.length
    · have he : frWE g s b = 5 := by unfold frWE; rw [if_neg h8, if_pos h112]
      have HE := Lib.hid (show frWE g s b = 5 ∧ frWL kd g s b = [] from ⟨he, by unfold frWL; rw [he]; rfl⟩)
      have HW1 := Lib.hid (fun V => fwithin_any (g : Int) 2147483647 V)
      have HW2 := Lib.hid (fun V => fwithin_any (s : Int) 65535 V)
      rw [show (decide (0 ≤ (g : Int)) && decide ((g : Int) ≤ 2147483647)) = true by simp; omega] at HW1
      rw [show (decide (0 ≤ (s : Int)) && decide ((s : Int) ≤ 65535)) = true by simp; omega] at HW2
      have hb9 : b.length ≤ 9223372036854775807 := by omega
      clear he h h8 h5
      generalize b.length = n at *
      go_enter Try.func42, Try.ntmps42
      go_wp2_with fail
      with_reducible refine (HW1.out _).mono ?_
      rintro e w0 ⟨rfl, rfl⟩
      go_wp2_with fail
      with_reducible refine (HW2.out _).mono ?_
      rintro e w0 ⟨rfl, rfl⟩
      go_wp2_with fail
      refine bodyPost_ret (results_tmp2 rfl _ _ _) rfl ?_
      exact ⟨none, 0, by rw [HE.out.1, HE.out.2]; rfl, by rw [HE.out.2]; exact fresh_nil _ _, Below.refl _ _⟩
    · have he : frWE g s b = 0 := by unfold frWE; rw [if_neg h8, if_neg h112]
      have hl : frWL kd g s b = frL kd g s b := by unfold frWL; rw [if_pos he]; rfl
      have hlen := frL_length (kd := kd) (gen := g) (seq := s) (b := b) (by omega)
      rw [he, hl, hlen]
      exact frWrite_main kd g s p cap b w h (by omega) (by omega) (by omega)
end Go.Proofs.Ytbmcajhknohhdaa
