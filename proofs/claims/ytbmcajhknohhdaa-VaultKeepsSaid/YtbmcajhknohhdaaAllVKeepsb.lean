/-
  The program's vaults: what is read of an area.
-/
import Derived.Test.YtbmcajhknohhdaaFrmM
import Derived.Test.YtbmcajhknohhdaaWirN
import Derived.Test.YtbmcajhknohhdaaDskK
import Derived.Test.YtbmcajhknohhdaaFrmR
import Derived.Deep.DeepCutAuto
import Derived.LoopTactic
import Derived.Test.YtbmcajhknohhdaaWirB
import Derived.Test.YtbmcajhknohhdaaDskB
import Derived.Test.YtbmcajhknohhdaaRowsC
import Derived.Test.YtbmcajhknohhdaaStage
import Derived.Test.YtbmcajhknohhdaaCrcV
import Derived.Test.YtbmcajhknohhdaaFrmC
import Derived.Test.YtbmcajhknohhdaaWirV
import Derived.Test.YtbmcajhknohhdaaCrcG
import Derived.Test.YtbmcajhknohhdaaRowB
import Derived.Lib.BufferWrite
import Derived.Test.YtbmcajhknohhdaaDskE
import Derived.Test.YtbmcajhknohhdaaWirW
import Derived.Test.YtbmcajhknohhdaaWirE
import Derived.Test.YtbmcajhknohhdaaCrcF
import Derived.OwnWalk
import Derived.Test.YtbmcajhknohhdaaDskH
import Derived.StillTailTactics
import Derived.Test.YtbmcajhknohhdaaDskF
/-! JrnM -/
namespace Go.Proofs.Ytbmcajhknohhdaa

/-- Where a journal begins, its room, the generation, how many entries it regards as committed. -/
structure JS where
  at_ : Nat
  room : Nat
  gen : Nat
  n : Nat
/-- The step of entry k, if it is committed. -/
def jstepAt (S : DS) (a g k : Nat) : Option (List UInt8) :=
  if ((frR 82 (blockL S (a + 2 * k))).e = 0 ∧ (frR 82 (blockL S (a + 2 * k))).gen = g ∧ (frR 82 (blockL S (a + 2 * k))).seq = k) ∧
     ((frR 67 (blockL S (a + 2 * k + 1))).e = 0 ∧ (frR 67 (blockL S (a + 2 * k + 1))).gen = g ∧ (frR 67 (blockL S (a + 2 * k + 1))).seq = k) ∧ (frR 67 (blockL S (a + 2 * k + 1))).pay = []
  then some (frR 82 (blockL S (a + 2 * k))).pay else none
def stepsF (S : DS) (a g : Nat) : Nat → Nat → List (List UInt8)
  | 0, _ => []
  | f + 1, k => match jstepAt S a g k with
    | none => []
    | some p => p :: stepsF S a g f (k + 1)
/-- The committed steps. -/
def stepsL (S : DS) (a g room : Nat) : List (List UInt8) := stepsF S a g room 0
theorem stepsF_eq (S : DS) (a g : Nat) (l : List (List UInt8)) : ∀ f k, l.length ≤ f → (∀ e, (h : e < l.length) → jstepAt S a g (k + e) = some l[e]) → (l.length < f → jstepAt S a g (k + l.length) = none) → stepsF S a g f k = l := by
  induction l with
  | nil =>
    intro f k _ _ h
    cases f with
    | zero => rfl
    | succ f => rw [stepsF, show jstepAt S a g k = none from h (by simp)]
  | cons p l ih =>
    intro f k hf h1 h2
    cases f with
    | zero => simp at hf
    | succ f =>
      rw [stepsF, show jstepAt S a g k = some p from h1 0 (by simp)]
      simp only
      rw [ih f (k + 1) (by simpa using hf) (fun e he => by
        have := h1 (e + 1) (by simpa using he)
        rw [show k + (e + 1) = k + 1 + e by omega] at this
        simpa using this) (fun hl => by
        have := h2 (by simpa using hl)
        rw [show k + (p :: l).length = k + 1 + l.length by simp; omega] at this
        exact this)]
theorem stepsF_spec (S : DS) (a g : Nat) : ∀ f k, (stepsF S a g f k).length ≤ f ∧ (∀ e, (h : e < (stepsF S a g f k).length) → jstepAt S a g (k + e) = some (stepsF S a g f k)[e]) ∧ ((stepsF S a g f k).length < f → jstepAt S a g (k + (stepsF S a g f k).length) = none) := by
  intro f
  induction f with
  | zero => intro k; simp [stepsF]
  | succ f ih =>
    intro k
    rw [stepsF]
    cases hs : jstepAt S a g k with
    | none => simpa using hs
    | some p =>
      obtain ⟨h1, h2, h3⟩ := ih (k + 1)
      refine ⟨by simpa using h1, fun e he => ?_, fun hl => ?_⟩
      · cases e with
        | zero => simpa using hs
        | succ e =>
          have := h2 e (by simpa using he)
          rw [show k + (e + 1) = k + 1 + e by omega, this]; simp
      · have := h3 (by simpa using hl)
        rw [← this]; simp; congr 1; omega
theorem stepsL_eq {S : DS} {a g room : Nat} {l : List (List UInt8)} (hl : l.length ≤ room) (h1 : ∀ e, (h : e < l.length) → jstepAt S a g e = some l[e]) (h2 : l.length < room → jstepAt S a g l.length = none) : stepsL S a g room = l :=
  stepsF_eq S a g l room 0 hl (fun e he => by rw [Nat.zero_add]; exact h1 e he) (fun h => by rw [Nat.zero_add]; exact h2 h)
theorem stepsL_spec (S : DS) (a g room : Nat) : (stepsL S a g room).length ≤ room ∧ (∀ e, (h : e < (stepsL S a g room).length) → jstepAt S a g e = some (stepsL S a g room)[e]) ∧ ((stepsL S a g room).length < room → jstepAt S a g (stepsL S a g room).length = none) := by
  have := stepsF_spec S a g room 0
  simp only [Nat.zero_add] at this
  exact this

/-! What the calls answer and leave. -/
/-- Two blocks of the first entry that is not regarded as committed. -/
def put2E (S : DS) (J : JS) (x y : List UInt8) : Int :=
  if writeE S ((J.at_ + 2 * J.n : Nat) : Int) x ≠ 0 then writeE S ((J.at_ + 2 * J.n : Nat) : Int) x else writeE (writeS S ((J.at_ + 2 * J.n : Nat) : Int) x) ((J.at_ + 2 * J.n + 1 : Nat) : Int) y
def put2S (S : DS) (J : JS) (x y : List UInt8) : DS :=
  if writeE S ((J.at_ + 2 * J.n : Nat) : Int) x ≠ 0 then writeS S ((J.at_ + 2 * J.n : Nat) : Int) x else writeS (writeS S ((J.at_ + 2 * J.n : Nat) : Int) x) ((J.at_ + 2 * J.n + 1 : Nat) : Int) y
def addE (S : DS) (J : JS) (b : List UInt8) : Int := if J.n = J.room then 12 else if 112 < b.length then 5 else put2E S J (frL 82 J.gen J.n b) (frL 67 J.gen J.n [])
def addD (S : DS) (J : JS) (b : List UInt8) : DS := if J.n = J.room ∨ 112 < b.length then S else put2S S J (frL 82 J.gen J.n b) (frL 67 J.gen J.n [])
def addJ (S : DS) (J : JS) (b : List UInt8) : JS := if addE S J b = 0 then { J with n := J.n + 1 } else J
def cleanE (S : DS) (J : JS) : Int := if J.n = J.room then 0 else put2E S J (zeros 128) (zeros 128)
def cleanD (S : DS) (J : JS) : DS := if J.n = J.room then S else put2S S J (zeros 128) (zeros 128)
def openE (S : DS) (gen : Int) : Int := if gen < 0 ∨ 2147483647 < gen then 8 else if S.off then 19 else 0
def openR (S : DS) (J : JS) (gen : Int) : List (List UInt8) := if openE S gen = 0 then stepsL S J.at_ gen.toNat J.room else []
def openJ (S : DS) (J : JS) (gen : Int) : JS := if openE S gen = 0 then { J with gen := gen.toNat, n := (stepsL S J.at_ gen.toNat J.room).length } else J
/-- What every journal keeps. -/
structure JOk (S : DS) (J : JS) : Prop where
  n : J.n ≤ J.room
  room : J.room ≤ 64
  fits : J.at_ + 2 * J.room ≤ S.len
  gen : J.gen ≤ 2147483647

/-! Writing on a disk that is on. -/
theorem writeS_on {S : DS} {i : Nat} {l : List UInt8} (hi : i < S.len) (hl : l.length = 128) (ho : S.off = false) :
    writeS S (i : Int) l = ⟨putL S.all (128 * i) (writtenL S l), decide (S.fuse = 0), if S.fuse = 0 then -1 else if 0 < S.fuse then S.fuse - 1 else S.fuse, S.keep, S.wr + 1⟩ := by
  have hh : hasD S (i : Int) = true := by rw [hasD_iff]; omega
  unfold writeS; rw [if_pos (by simp [writeOk, hh, hl, ho])]; rfl
theorem writeE_on {S : DS} {i : Nat} {l : List UInt8} (hi : i < S.len) (hl : l.length = 128) (ho : S.off = false) : writeE S (i : Int) l = if S.fuse = 0 then 19 else 0 := by
  have hh : hasD S (i : Int) = true := by rw [hasD_iff]; omega
  unfold writeE; rw [if_neg (by rw [hh]; simp), if_neg (by omega), if_neg (by rw [ho]; simp)]
theorem writeE_off {S : DS} {i : Nat} {l : List UInt8} (hi : i < S.len) (hl : l.length = 128) (ho : S.off = true) : writeE S (i : Int) l = 19 ∧ writeS S (i : Int) l = S := by
  have hh : hasD S (i : Int) = true := by rw [hasD_iff]; omega
  refine ⟨?_, ?_⟩
  · unfold writeE; rw [if_neg (by rw [hh]; simp), if_neg (by omega), if_pos ho]
  · unfold writeS; rw [if_neg (by simp [writeOk, ho])]
theorem writeS_len2 {S : DS} (h : DSOk S) (i : Int) (l : List UInt8) : (writeS S i l).len = S.len := by unfold DS.len; rw [writeS_len S h]
/-- A write changes its block alone. -/
theorem blockL_write {S : DS} (h : DSOk S) {i : Nat} {l : List UInt8} (hi : i < S.len) (hl : l.length = 128) (ho : S.off = false) {j : Nat} : blockL (writeS S (i : Int) l) j = if j = i then writtenL S l else blockL S j := by
  have hw := writtenL_length h hl
  have ha := h.len
  rw [writeS_on hi hl ho]
  unfold blockL
  simp only
  apply List.ext_getElem?
  intro k
  by_cases hk : k < 128
  · rw [List.getElem?_take, if_pos hk, List.getElem?_drop, putL_get (by omega), hw]
    by_cases e : j = i
    · subst e
      rw [if_pos rfl, if_pos (by omega)]; congr 1; omega
    · rw [if_neg e, if_neg (by omega), List.getElem?_take, if_pos hk, List.getElem?_drop]
  · rw [List.getElem?_take, if_neg hk]
    by_cases e : j = i
    · rw [if_pos e, List.getElem?_eq_none (by omega)]
    · rw [if_neg e, List.getElem?_take, if_neg hk]
theorem blockL_off {S : DS} {i : Nat} {l : List UInt8} (hi : i < S.len) (hl : l.length = 128) (ho : S.off = true) (j : Nat) : blockL (writeS S (i : Int) l) j = blockL S j := by rw [(writeE_off hi hl ho).2]
theorem blockL_arm (S : DS) (n k : Int) (j : Nat) : blockL (armS S n k) j = blockL S j := by unfold blockL; rw [armS_all]
theorem blockL_power (S : DS) (j : Nat) : blockL (powerS S) j = blockL S j := rfl
theorem jstepAt_cong {S T : DS} {a k : Nat} (h1 : blockL S (a + 2 * k) = blockL T (a + 2 * k)) (h2 : blockL S (a + 2 * k + 1) = blockL T (a + 2 * k + 1)) (g : Nat) : jstepAt S a g k = jstepAt T a g k := by
  unfold jstepAt; rw [h1, h2]
theorem jstepAt_power (S : DS) (a g k : Nat) : jstepAt (powerS S) a g k = jstepAt S a g k := rfl
theorem jstepAt_arm (S : DS) (n m : Int) (a g k : Nat) : jstepAt (armS S n m) a g k = jstepAt S a g k := jstepAt_cong (blockL_arm S n m _) (blockL_arm S n m _) g

/-! Frames. -/
theorem frR_frL {kd : UInt8} {g n : Nat} {b : List UInt8} (hg : g ≤ 2147483647) (hn : n ≤ 65535) (hb : b.length ≤ 112) : frR kd (frL kd g n b) = ⟨g, n, b, 0⟩ := by
  have he : frWE (g : Int) (n : Int) b = 0 := by unfold frWE; rw [if_neg (by omega), if_neg (by omega)]
  have hw : frWL kd (g : Int) (n : Int) b = frL kd g n b := by unfold frWL; rw [if_pos he]; rfl
  have := frR_frW (kd := kd) he
  rw [hw] at this; exact this
theorem frR_zeros (kd : UInt8) : (frR kd (zeros 128)).e ≠ 0 := by
  have he : frRE kd (zeros 128) = 3 := by
    unfold frRE
    rw [if_neg (by simp [zeros]), if_pos]
    right; simp [zeros, frTail]
  unfold frR
  rw [if_neg (by omega), he]; decide
theorem tornL_all {l : List UInt8} (h : l.length = 128) : tornL 128 l = l := by
  unfold tornL
  rw [show (128 : Int).toNat = 128 from rfl, List.take_of_length_le (by omega), h]; simp
theorem frR_torn {kd : UInt8} {l : List UInt8} {k : Nat} (h : l.length = 128) (hk : k < 128) : (frR kd (tornL k l)).e ≠ 0 := by
  have h1 : frRE kd (tornL k l) = 3 := by
    refine torn_none (by rw [tornL_length (by omega), h]) ?_
    rw [tornL_get (by omega) (by omega), if_pos (by omega)]
  unfold frR
  rw [if_neg (by omega), h1]; decide
/-- Zeros, however torn, are no frame. -/
theorem frR_torn0 (kd : UInt8) {k : Nat} (hk : k ≤ 128) : (frR kd (tornL k (zeros 128))).e ≠ 0 := by
  by_cases h : k = 128
  · subst h
    rw [show ((128 : Nat) : Int) = 128 from rfl, tornL_all (by simp [zeros])]; exact frR_zeros kd
  · exact frR_torn (by simp [zeros]) (by omega)
theorem jstepAt_no {S : DS} {a g k : Nat} (h : (frR 67 (blockL S (a + 2 * k + 1))).e ≠ 0) : jstepAt S a g k = none := by
  unfold jstepAt; rw [if_neg (fun h2 => h h2.2.1.1)]
theorem jstepAt_frames {S : DS} {a g k : Nat} {b : List UInt8} (hg : g ≤ 2147483647) (hk : k ≤ 65535) (hb : b.length ≤ 112) (h1 : blockL S (a + 2 * k) = frL 82 g k b) (h2 : blockL S (a + 2 * k + 1) = frL 67 g k []) (g' : Nat) : jstepAt S a g' k = if g' = g then some b else none := by
  unfold jstepAt
  rw [h1, h2, frR_frL hg hk hb, frR_frL hg hk (by simp)]
  by_cases e : g' = g
  · subst e; simp
  · rw [if_neg e, if_neg]
    rintro ⟨⟨-, h3, -⟩, -⟩
    have h3' : (g : Int) = (g' : Int) := h3
    omega
theorem frL_len {kd : UInt8} {g n : Nat} {b : List UInt8} (hb : b.length ≤ 112) : (frL kd g n b).length = 128 := frL_length hb
theorem new_block (n j : Nat) (h : j < n) : blockL (DS.new n) j = zeros 128 := by
  unfold blockL DS.new zeros
  simp only [List.drop_replicate, List.take_replicate]
  congr 1; omega
end Go.Proofs.Ytbmcajhknohhdaa

/-! VltM -/
namespace Go.Proofs.Ytbmcajhknohhdaa

def blkN (n : Nat) : Nat := (n + 127) / 128
def fillL (b : List UInt8) : List UInt8 := b ++ zeros (128 * blkN b.length - b.length)
def payL (b : List UInt8) : List UInt8 := be b.length 4 ++ be (crcSum b) 4
def vheadL (g : Nat) (b : List UInt8) : List UInt8 := frL 86 g (blkN b.length) (payL b)
def vAt (from_ g : Nat) : Nat := from_ + 256 * (g % 2)
def chunkL (b : List UInt8) (k : Nat) : List UInt8 := ((fillL b).drop (128 * k)).take 128
theorem blkN_le (n : Nat) : n ≤ 128 * blkN n := by unfold blkN; omega
theorem blkN_lt (n : Nat) : 128 * blkN n < n + 128 := by unfold blkN; omega
theorem fillL_length (b : List UInt8) : (fillL b).length = 128 * blkN b.length := by
  unfold fillL zeros; rw [List.length_append, List.length_replicate]; have := blkN_le b.length; omega
theorem chunkL_length {b : List UInt8} {k : Nat} (h : k < blkN b.length) : (chunkL b k).length = 128 := by
  unfold chunkL; rw [List.length_take, List.length_drop, fillL_length]; omega
theorem payL_length (b : List UInt8) : (payL b).length = 8 := by unfold payL; rw [List.length_append, be_length, be_length]
theorem vheadL_length (g : Nat) (b : List UInt8) : (vheadL g b).length = 128 := frL_length (by rw [payL_length]; omega)
theorem vheadL_read {g : Nat} {b : List UInt8} (hg : g ≤ 2147483647) (hb : blkN b.length ≤ 255) : frR 86 (vheadL g b) = ⟨g, blkN b.length, payL b, 0⟩ := frR_frL hg (by omega) (by rw [payL_length]; omega)
theorem payL_size {b : List UInt8} (hb : b.length < 4294967296) : valB ((payL b).take 4) = b.length := by
  unfold payL
  rw [List.take_left' (be_length _ 4), valB_be _ _ (by simpa using hb)]

/-- Writes in turn, up to the first that fails. -/
def wrl (S : DS) : List (Nat × List UInt8) → Int × DS
  | [] => (0, S)
  | p :: r => if writeE S (p.1 : Int) p.2 = 0 then wrl (writeS S (p.1 : Int) p.2) r else (writeE S (p.1 : Int) p.2, writeS S (p.1 : Int) p.2)
theorem wrl_append (S : DS) (p q : List (Nat × List UInt8)) : wrl S (p ++ q) = if (wrl S p).1 = 0 then wrl (wrl S p).2 q else wrl S p := by
  induction p generalizing S with
  | nil => simp [wrl]
  | cons x p ih =>
    rw [List.cons_append, wrl, wrl]
    by_cases h : writeE S (x.1 : Int) x.2 = 0
    · rw [if_pos h, if_pos h, ih]
    · rw [if_neg h, if_neg h, if_neg h]
/-- What Save writes: the contents, then the head. -/
def bodyP (a : Nat) (b : List UInt8) (n : Nat) : List (Nat × List UInt8) := (List.range n).map fun k => (a + 1 + k, chunkL b k)
def planP (a g : Nat) (b : List UInt8) : List (Nat × List UInt8) := bodyP a b (blkN b.length) ++ [(a, vheadL g b)]
theorem bodyP_succ (a : Nat) (b : List UInt8) (n : Nat) : bodyP a b (n + 1) = bodyP a b n ++ [(a + 1 + n, chunkL b n)] := by unfold bodyP; rw [List.range_succ, List.map_append]; rfl
def saveE (S : DS) (from_ : Nat) (gen : Int) (b : List UInt8) : Int := if gen < 0 ∨ 2147483647 < gen then 8 else if 255 < blkN b.length then 12 else (wrl S (planP (vAt from_ gen.toNat) gen.toNat b)).1
def saveD (S : DS) (from_ : Nat) (gen : Int) (b : List UInt8) : DS := if (gen < 0 ∨ 2147483647 < gen) ∨ 255 < blkN b.length then S else (wrl S (planP (vAt from_ gen.toNat) gen.toNat b)).2
/-- What an area holds. -/
def segL (S : DS) (a n : Nat) : List UInt8 := (S.all.drop (128 * (a + 1))).take n
def sizeA (S : DS) (a : Nat) : Nat := valB ((frR 86 (blockL S a)).pay.take 4)
def hasV (S : DS) (a odd : Nat) : Option (Nat × List UInt8) :=
  if ((frR 86 (blockL S a)).e = 0 ∧ (frR 86 (blockL S a)).gen % 2 = odd ∧ (frR 86 (blockL S a)).pay.length = 8 ∧ (frR 86 (blockL S a)).seq ≤ 255) ∧ (frR 86 (blockL S a)).seq = blkN (sizeA S a) ∧
     fillL (segL S a (sizeA S a)) = segL S a (128 * blkN (sizeA S a)) ∧ vheadL (frR 86 (blockL S a)).gen.toNat (segL S a (sizeA S a)) = blockL S a
  then some ((frR 86 (blockL S a)).gen.toNat, segL S a (sizeA S a)) else none
structure LoadR where
  gen : Nat
  b : List UInt8
  e : Int
def pickL : Option (Nat × List UInt8) → Option (Nat × List UInt8) → LoadR
  | some x, some y => if x.1 < y.1 then ⟨y.1, y.2, 0⟩ else ⟨x.1, x.2, 0⟩
  | some x, none => ⟨x.1, x.2, 0⟩
  | none, some y => ⟨y.1, y.2, 0⟩
  | none, none => ⟨0, [], 6⟩
def loadR (S : DS) (from_ : Nat) : LoadR := if S.off then ⟨0, [], 19⟩ else pickL (hasV S from_ 0) (hasV S (from_ + 256) 1)

/-! What writes keep. -/
theorem wr_one (T : DS) (z : Int) (q : List UInt8) : (writeS T z q).wr ≤ T.wr + 1 := by
  unfold writeS; split
  · exact Int.le_refl _
  · omega
theorem wrl_keep (p : List (Nat × List UInt8)) : ∀ S : DS, DSOk S → (∀ x ∈ p, x.1 < S.len ∧ x.2.length = 128) →
    DSOk (wrl S p).2 ∧ (wrl S p).2.len = S.len ∧ (wrl S p).2.wr ≤ S.wr + p.length ∧ ∀ j, (∀ x ∈ p, j ≠ x.1) → blockL (wrl S p).2 j = blockL S j := by
  induction p with
  | nil => intro S ok _; exact ⟨ok, rfl, by simp [wrl], fun _ _ => rfl⟩
  | cons x p ih =>
    intro S ok h
    have ok1 := ok.write (x.1 : Int) x.2
    have l1 := writeS_len2 ok (x.1 : Int) x.2
    have w1 := wr_one S (x.1 : Int) x.2
    obtain ⟨hi, hx⟩ := h x (by simp)
    have b1 : ∀ j, j ≠ x.1 → blockL (writeS S (x.1 : Int) x.2) j = blockL S j := by
      intro j hj
      cases ho : S.off with
      | true => exact blockL_off hi hx ho j
      | false => rw [blockL_write ok hi hx ho, if_neg hj]
    rw [wrl]
    split
    · obtain ⟨k1, k2, k3, k4⟩ := ih _ ok1 (fun y hy => by rw [l1]; exact h y (by simp [hy]))
      refine ⟨k1, by rw [k2, l1], by simp only [List.length_cons]; omega, fun j hj => ?_⟩
      rw [k4 j (fun y hy => hj y (by simp [hy])), b1 j (hj x (by simp))]
    · exact ⟨ok1, l1, by simp only [List.length_cons]; omega, fun j hj => b1 j (hj x (by simp))⟩
/-- All of them, on a disk that is on and whose fuse is not met. -/
theorem wrl_all (p : List (Nat × List UInt8)) : ∀ S : DS, DSOk S → S.off = false → (S.fuse < 0 ∨ (p.length : Int) ≤ S.fuse) → (∀ x ∈ p, x.1 < S.len ∧ x.2.length = 128) → p.Pairwise (fun x y => x.1 ≠ y.1) →
    (wrl S p).1 = 0 ∧ (wrl S p).2.off = false ∧ (wrl S p).2.fuse = (if 0 ≤ S.fuse then S.fuse - p.length else S.fuse) ∧ (wrl S p).2.keep = S.keep ∧ (wrl S p).2.wr = S.wr + p.length ∧ ∀ x ∈ p, blockL (wrl S p).2 x.1 = x.2 := by
  induction p with
  | nil => intro S ok ho _ _ _; exact ⟨rfl, ho, by simp [wrl], rfl, by simp [wrl], fun x hx => by simp at hx⟩
  | cons x p ih =>
    intro S ok ho hf h hp
    obtain ⟨hi, hx⟩ := h x (by simp)
    have f0 := ok.fuse0
    have hfn : S.fuse ≠ 0 := by simp only [List.length_cons] at hf; omega
    have e1 := writeE_on hi hx ho
    rw [if_neg hfn] at e1
    have s1 := writeS_on hi hx ho
    have hw : writtenL S x.2 = x.2 := by unfold writtenL; rw [if_neg hfn]
    have ok1 := ok.write (x.1 : Int) x.2
    have l1 := writeS_len2 ok (x.1 : Int) x.2
    have o1 : (writeS S (x.1 : Int) x.2).off = false := by rw [s1]; simpa using hfn
    have f1 : (writeS S (x.1 : Int) x.2).fuse = if 0 < S.fuse then S.fuse - 1 else S.fuse := by rw [s1]; simp only; rw [if_neg hfn]
    have k1 : (writeS S (x.1 : Int) x.2).keep = S.keep := by rw [s1]
    have w1 : (writeS S (x.1 : Int) x.2).wr = S.wr + 1 := by rw [s1]
    have hp2 := List.pairwise_cons.1 hp
    rw [wrl, if_pos e1]
    have hsub : ∀ y ∈ p, y.1 < (writeS S (x.1 : Int) x.2).len ∧ y.2.length = 128 := fun y hy => by rw [l1]; exact h y (by simp [hy])
    obtain ⟨q1, q2, q3, q4, q5, q6⟩ := ih _ ok1 o1 (by rw [f1]; simp only [List.length_cons] at hf; split <;> omega) hsub hp2.2
    refine ⟨q1, q2, ?_, by rw [q4, k1], by rw [q5, w1]; simp only [List.length_cons]; omega, fun y hy => ?_⟩
    · rw [q3, f1]
      simp only [List.length_cons]
      by_cases h0 : 0 < S.fuse
      · rw [if_pos h0, if_pos (by omega), if_pos (by omega)]; omega
      · rw [if_neg h0, if_neg (by omega), if_neg (by omega)]
    · rcases List.mem_cons.1 hy with rfl | hy
      · rw [(wrl_keep p _ ok1 hsub).2.2.2 y.1 (fun z hz => hp2.1 z hz), blockL_write ok hi hx ho, if_pos rfl, hw]
      · exact q6 y hy
theorem wrl_off {S : DS} {i : Nat} {x : List UInt8} {p : List (Nat × List UInt8)} (hi : i < S.len) (hx : x.length = 128) (ho : S.off = true) : wrl S ((i, x) :: p) = (19, S) := by
  obtain ⟨h1, h2⟩ := writeE_off hi hx ho
  rw [wrl]; simp only; rw [h1, h2, if_neg (by decide)]
end Go.Proofs.Ytbmcajhknohhdaa

/-! VltK -/
namespace Go.Proofs.Ytbmcajhknohhdaa

theorem seg_succ (S : DS) (a m : Nat) : segL S a (128 * (m + 1)) = segL S a (128 * m) ++ blockL S (a + 1 + m) := by
  unfold segL blockL
  rw [Nat.mul_succ, List.take_add, List.drop_drop, show 128 * (a + 1) + 128 * m = 128 * (a + 1 + m) by omega]
theorem seg_cong {S T : DS} {a m : Nat} (h : ∀ k, k < m → blockL S (a + 1 + k) = blockL T (a + 1 + k)) : segL S a (128 * m) = segL T a (128 * m) := by
  induction m with
  | zero => simp [segL]
  | succ m ih => rw [seg_succ, seg_succ, ih (fun k hk => h k (by omega)), h m (by omega)]
theorem seg_take (S : DS) (a : Nat) {z m : Nat} (h : z ≤ m) : segL S a z = (segL S a m).take z := by
  unfold segL; rw [List.take_take, Nat.min_eq_left h]
theorem seg_chunks {S : DS} {a : Nat} {b : List UInt8} (h : ∀ k, k < blkN b.length → blockL S (a + 1 + k) = chunkL b k) : segL S a (128 * blkN b.length) = fillL b := by
  have hm : ∀ m, m ≤ blkN b.length → segL S a (128 * m) = (fillL b).take (128 * m) := by
    intro m
    induction m with
    | zero => intro _; simp [segL]
    | succ m ih =>
      intro hm
      rw [seg_succ, ih (by omega), h m (by omega), Nat.mul_succ, List.take_add]; rfl
  rw [hm _ (Nat.le_refl _), List.take_of_length_le (by rw [fillL_length]; exact Nat.le_refl _)]
theorem blk_size {n : Nat} (h : blkN n ≤ 255) : n ≤ 32640 := by have := blkN_le n; omega
theorem has_saved {S : DS} {a g odd : Nat} {b : List UInt8} (hg : g ≤ 2147483647) (ho : g % 2 = odd) (hb : blkN b.length ≤ 255) (h1 : blockL S a = vheadL g b) (h2 : ∀ k, k < blkN b.length → blockL S (a + 1 + k) = chunkL b k) : hasV S a odd = some (g, b) := by
  have hsz := blk_size hb
  have hr : frR 86 (blockL S a) = ⟨g, blkN b.length, payL b, 0⟩ := by rw [h1, vheadL_read hg hb]
  have hz : sizeA S a = b.length := by unfold sizeA; rw [hr]; exact payL_size (by omega)
  have hs : segL S a b.length = b := by
    rw [seg_take S a (blkN_le b.length), seg_chunks h2]
    unfold fillL; rw [List.take_left]
  unfold hasV
  rw [hz, hs, hr]
  rw [if_pos]
  · rfl
  · refine ⟨⟨rfl, ?_, payL_length b, ?_⟩, rfl, (seg_chunks h2).symm, ?_⟩
    · show (g : Int) % 2 = odd; omega
    · show ((blkN b.length : Nat) : Int) ≤ 255; omega
    · show vheadL ((g : Int)).toNat b = _; rw [Int.toNat_natCast, h1]
theorem has_no {S : DS} {a odd : Nat} (h : (frR 86 (blockL S a)).e ≠ 0) : hasV S a odd = none := by
  unfold hasV; rw [if_neg (fun h2 => h h2.1.1)]
theorem has_gen {S : DS} {a odd g : Nat} {b : List UInt8} (h : hasV S a odd = some (g, b)) : (frR 86 (blockL S a)).e = 0 ∧ (frR 86 (blockL S a)).gen.toNat = g := by
  unfold hasV at h
  split at h
  · rename_i h2
    simp only [Option.some.injEq, Prod.mk.injEq] at h
    exact ⟨h2.1.1, h.1⟩
  · cases h
theorem has_cong {S T : DS} {a odd : Nat} (h : ∀ j, a ≤ j → j < a + 256 → blockL S j = blockL T j) : hasV S a odd = hasV T a odd := by
  have h0 := h a (Nat.le_refl _) (by omega)
  have hs : ∀ z, z ≤ 128 * 255 → segL S a z = segL T a z := by
    intro z hz
    rw [seg_take S a hz, seg_take T a hz, seg_cong (T := T) (fun k hk => h (a + 1 + k) (by omega) (by omega))]
  have hz : sizeA S a = sizeA T a := by unfold sizeA; rw [h0]
  unfold hasV
  rw [hz, h0]
  by_cases hc : (frR 86 (blockL T a)).seq ≤ 255 ∧ (frR 86 (blockL T a)).seq = blkN (sizeA T a)
  · have hn : blkN (sizeA T a) ≤ 255 := by omega
    have hle := blk_size hn
    rw [hs _ (by omega), hs _ (by omega)]
  · rw [if_neg (fun h2 => hc ⟨h2.1.2.2.2, h2.2.1⟩), if_neg (fun h2 => hc ⟨h2.1.2.2.2, h2.2.1⟩)]
theorem frR_gen0 (kd : UInt8) (t : List UInt8) : 0 ≤ (frR kd t).gen := by
  unfold frR; split
  · show (0 : Int) ≤ (frGen t : Int); omega
  · exact Int.le_refl _
theorem has_power (S : DS) (a odd : Nat) : hasV (powerS S) a odd = hasV S a odd := rfl

/-! One Save. -/
theorem plan_length (a g : Nat) (b : List UInt8) : (planP a g b).length = blkN b.length + 1 := by simp [planP, bodyP]
theorem plan_fit {S : DS} {a g : Nat} {b : List UInt8} (h : a + 256 ≤ S.len) (hb : blkN b.length ≤ 255) : ∀ x ∈ planP a g b, x.1 < S.len ∧ x.2.length = 128 := by
  intro x hx
  unfold planP at hx
  rcases List.mem_append.1 hx with hx | hx
  · unfold bodyP at hx
    obtain ⟨k, hk, rfl⟩ := List.mem_map.1 hx
    have hk := List.mem_range.1 hk
    exact ⟨by show a + 1 + k < S.len; omega, chunkL_length hk⟩
  · rw [List.mem_singleton.1 hx]
    exact ⟨by show a < S.len; omega, vheadL_length g b⟩
theorem body_pair (a : Nat) (b : List UInt8) (n : Nat) : (bodyP a b n).Pairwise (fun x y => x.1 ≠ y.1) := by
  unfold bodyP
  rw [List.pairwise_map]
  exact List.Pairwise.imp (fun h => by show _ ≠ _; omega) (List.pairwise_lt_range (n := n))
theorem plan_pair (a g : Nat) (b : List UInt8) : (planP a g b).Pairwise (fun x y => x.1 ≠ y.1) := by
  unfold planP
  rw [List.pairwise_append]
  refine ⟨body_pair a b _, by simp, fun x hx y hy => ?_⟩
  unfold bodyP at hx
  obtain ⟨k, -, rfl⟩ := List.mem_map.1 hx
  rw [List.mem_singleton.1 hy]
  show a + 1 + k ≠ a; omega
theorem plan_in {a g : Nat} {b : List UInt8} {x : Nat × List UInt8} (hx : x ∈ planP a g b) : a ≤ x.1 ∧ x.1 ≤ a + blkN b.length := by
  unfold planP at hx
  rcases List.mem_append.1 hx with hx | hx
  · unfold bodyP at hx
    obtain ⟨k, hk, rfl⟩ := List.mem_map.1 hx
    have hk := List.mem_range.1 hk
    exact ⟨by show a ≤ a + 1 + k; omega, by show a + 1 + k ≤ _; omega⟩
  · rw [List.mem_singleton.1 hx]; exact ⟨Nat.le_refl _, by show a ≤ _; omega⟩
theorem plan_body {a g : Nat} {b : List UInt8} {k : Nat} (hk : k < blkN b.length) : (a + 1 + k, chunkL b k) ∈ planP a g b := by
  unfold planP bodyP
  exact List.mem_append.2 (.inl (List.mem_map.2 ⟨k, List.mem_range.2 hk, rfl⟩))
theorem plan_head (a g : Nat) (b : List UInt8) : (a, vheadL g b) ∈ planP a g b := List.mem_append.2 (.inr (by simp))
/-- Saved as a whole: held. -/
theorem save_whole {S : DS} {from_ g : Nat} {b : List UInt8} (ok : DSOk S) (ho : S.off = false) (hf : S.fuse < 0 ∨ ((blkN b.length + 1 : Nat) : Int) ≤ S.fuse) (hl : from_ + 512 ≤ S.len) (hg : g ≤ 2147483647) (hb : blkN b.length ≤ 255) :
    saveE S from_ g b = 0 ∧ DSOk (saveD S from_ g b) ∧ (saveD S from_ g b).len = S.len ∧ (saveD S from_ g b).off = false ∧ (saveD S from_ g b).fuse = (if 0 ≤ S.fuse then S.fuse - (blkN b.length + 1 : Nat) else S.fuse) ∧ (saveD S from_ g b).wr = S.wr + (blkN b.length + 1 : Nat) ∧
      hasV (saveD S from_ g b) (vAt from_ g) (g % 2) = some (g, b) ∧ ∀ j, ¬ (vAt from_ g ≤ j ∧ j < vAt from_ g + 256) → blockL (saveD S from_ g b) j = blockL S j := by
  have ha : vAt from_ g + 256 ≤ S.len := by unfold vAt; omega
  have hfit := plan_fit (g := g) ha hb
  have eE : saveE S from_ g b = (wrl S (planP (vAt from_ g) g b)).1 := by unfold saveE; rw [if_neg (by omega), if_neg (by omega), Int.toNat_natCast]
  have eD : saveD S from_ g b = (wrl S (planP (vAt from_ g) g b)).2 := by unfold saveD; rw [if_neg (by omega), Int.toNat_natCast]
  obtain ⟨k1, k2, -, k4⟩ := wrl_keep _ S ok hfit
  obtain ⟨q1, q2, q3, -, q5, q6⟩ := wrl_all _ S ok ho (by rw [plan_length]; exact hf) hfit (plan_pair _ g b)
  rw [plan_length] at q3 q5
  rw [eE, eD]
  refine ⟨q1, k1, k2, q2, q3, q5, has_saved hg rfl hb (q6 _ (plan_head _ g b)) (fun k hk => q6 _ (plan_body hk)), fun j hj => k4 j (fun x hx e => hj ?_)⟩
  have := plan_in hx
  omega
theorem torn_at {S : DS} {i : Nat} {x : List UInt8} {p q : List (Nat × List UInt8)} (ok : DSOk S) (ho : S.off = false) (hf : S.fuse = p.length) (hfit : ∀ y ∈ p ++ (i, x) :: q, y.1 < S.len ∧ y.2.length = 128) (hp : (p ++ (i, x) :: q).Pairwise (fun x y => x.1 ≠ y.1)) :
    (wrl S (p ++ (i, x) :: q)).1 = 19 ∧ blockL (wrl S (p ++ (i, x) :: q)).2 i = tornL S.keep x ∧ (∀ y ∈ p, blockL (wrl S (p ++ (i, x) :: q)).2 y.1 = y.2) ∧ ∀ j, j ≠ i → (∀ y ∈ p, j ≠ y.1) → blockL (wrl S (p ++ (i, x) :: q)).2 j = blockL S j := by
  obtain ⟨hp1, -, hp3⟩ := List.pairwise_append.1 hp
  have hsub : ∀ y ∈ p, y.1 < S.len ∧ y.2.length = 128 := fun y hy => hfit y (by simp [hy])
  obtain ⟨hi, hx⟩ := hfit (i, x) (by simp)
  simp only at hi hx
  obtain ⟨ok1, l1, -, k1⟩ := wrl_keep p S ok hsub
  obtain ⟨q1, q2, q3, q4, -, q6⟩ := wrl_all p S ok ho (by omega) hsub hp1
  have f1 : (wrl S p).2.fuse = 0 := by rw [q3, if_pos (by omega)]; omega
  rw [← l1] at hi
  have e1 := writeE_on hi hx q2
  rw [if_pos f1] at e1
  have ew : wrl S (p ++ (i, x) :: q) = (19, writeS (wrl S p).2 (i : Int) x) := by
    rw [wrl_append, if_pos q1, wrl]
    simp only
    rw [e1, if_neg (by decide)]
  have hw : writtenL (wrl S p).2 x = tornL S.keep x := by unfold writtenL; rw [if_pos f1, q4]
  rw [ew]
  refine ⟨rfl, ?_, fun y hy => ?_, fun j hj hy => ?_⟩
  · show blockL (writeS _ _ _) i = _
    rw [blockL_write ok1 hi hx q2, if_pos rfl, hw]
  · show blockL (writeS _ _ _) y.1 = _
    rw [blockL_write ok1 hi hx q2, if_neg (fun e => hp3 y hy (i, x) (by simp) e), q6 y hy]
  · show blockL (writeS _ _ _) j = _
    rw [blockL_write ok1 hi hx q2, if_neg hj, k1 j hy]
theorem body_split (a : Nat) (b : List UInt8) (n : Nat) : ∀ m, ∃ r, bodyP a b (n + 1 + m) = bodyP a b n ++ (a + 1 + n, chunkL b n) :: r := by
  intro m
  induction m with
  | zero => exact ⟨[], by rw [Nat.add_zero, bodyP_succ]⟩
  | succ m ih =>
    obtain ⟨r, hr⟩ := ih
    exact ⟨r ++ [(a + 1 + (n + 1 + m), chunkL b (n + 1 + m))], by rw [← Nat.add_assoc, bodyP_succ, hr]; simp⟩
theorem body_length (a : Nat) (b : List UInt8) (n : Nat) : (bodyP a b n).length = n := by simp [bodyP]
theorem body_in {a n : Nat} {b : List UInt8} {y : Nat × List UInt8} (h : y ∈ bodyP a b n) : a ≠ y.1 := by
  unfold bodyP at h
  obtain ⟨k, -, rfl⟩ := List.mem_map.1 h
  show a ≠ a + 1 + k; omega
/-- A Save that the fuse tears: at the write number n. -/
theorem save_torn {S : DS} {from_ g : Nat} {b : List UInt8} (ok : DSOk S) (ho : S.off = false) {n : Nat} (hf : S.fuse = n) (hn : n < blkN b.length + 1) (hl : from_ + 512 ≤ S.len) (hg : g ≤ 2147483647) (hb : blkN b.length ≤ 255) :
    saveE S from_ g b = 19 ∧ DSOk (saveD S from_ g b) ∧ (saveD S from_ g b).len = S.len ∧ (saveD S from_ g b).wr ≤ S.wr + (blkN b.length + 1 : Nat) ∧ (∀ j, ¬ (vAt from_ g ≤ j ∧ j < vAt from_ g + 256) → blockL (saveD S from_ g b) j = blockL S j) ∧
      (n < blkN b.length → blockL (saveD S from_ g b) (vAt from_ g) = blockL S (vAt from_ g)) ∧
      (n = blkN b.length → blockL (saveD S from_ g b) (vAt from_ g) = tornL S.keep (vheadL g b) ∧ ∀ k, k < blkN b.length → blockL (saveD S from_ g b) (vAt from_ g + 1 + k) = chunkL b k) := by
  have ha : vAt from_ g + 256 ≤ S.len := by unfold vAt; omega
  have eE : saveE S from_ g b = (wrl S (planP (vAt from_ g) g b)).1 := by unfold saveE; rw [if_neg (by omega), if_neg (by omega), Int.toNat_natCast]
  have eD : saveD S from_ g b = (wrl S (planP (vAt from_ g) g b)).2 := by unfold saveD; rw [if_neg (by omega), Int.toNat_natCast]
  rw [eE, eD]
  generalize vAt from_ g = a at *
  have hfit := plan_fit (g := g) ha hb
  have hpair := plan_pair a g b
  have hin := fun x (hx : x ∈ planP a g b) => plan_in hx
  obtain ⟨k1, k2, k3, k4⟩ := wrl_keep _ S ok hfit
  rw [plan_length] at k3
  by_cases hnb : n < blkN b.length
  · obtain ⟨r, hr⟩ := body_split a b n (blkN b.length - n - 1)
    rw [show n + 1 + (blkN b.length - n - 1) = blkN b.length by omega] at hr
    have hP : planP a g b = bodyP a b n ++ (a + 1 + n, chunkL b n) :: (r ++ [(a, vheadL g b)]) := by unfold planP; rw [hr]; simp
    have ht := torn_at (S := S) (i := a + 1 + n) (x := chunkL b n) (p := bodyP a b n) (q := r ++ [(a, vheadL g b)]) ok ho (by rw [body_length]; exact hf) (by rw [← hP]; exact hfit) (by rw [← hP]; exact hpair)
    rw [← hP] at ht
    refine ⟨ht.1, k1, k2, k3, fun j hj => k4 j (fun x hx e => hj ?_), fun _ => ht.2.2.2 a (by omega) (fun y hy => body_in hy), fun h => absurd h (by omega)⟩
    have := hin x hx; omega
  · obtain rfl : n = blkN b.length := by omega
    have hP : planP a g b = bodyP a b (blkN b.length) ++ (a, vheadL g b) :: [] := rfl
    have ht := torn_at (S := S) (i := a) (x := vheadL g b) (p := bodyP a b (blkN b.length)) (q := []) ok ho (by rw [body_length]; exact hf) (by rw [← hP]; exact hfit) (by rw [← hP]; exact hpair)
    rw [← hP] at ht
    refine ⟨ht.1, k1, k2, k3, fun j hj => k4 j (fun x hx e => hj ?_), fun h => absurd h hnb, fun _ => ⟨ht.2.1, fun k hk => ht.2.2.1 (a + 1 + k, chunkL b k) ?_⟩⟩
    · have := hin x hx; omega
    · unfold bodyP; exact List.mem_map.2 ⟨k, List.mem_range.2 hk, rfl⟩

/-- Behind i Saves, of the generations 1 to i. -/
structure VK (l : List (List UInt8)) (i : Nat) (S : DS) : Prop where
  ok : DSOk S
  len : S.len = 512
  off : S.off = false
  fuse : S.fuse = -1
  wr : S.wr ≤ 9 * i
  cur : ∀ k, i = k + 1 → ∀ h : k < l.length, hasV S (vAt 0 i) (i % 2) = some (i, l[k])
  old : (frR 86 (blockL S (vAt 0 (i + 1)))).e = 0 → (frR 86 (blockL S (vAt 0 (i + 1)))).gen < i
  none0 : i = 0 → (frR 86 (blockL S 0)).e ≠ 0
theorem VK.start (l : List (List UInt8)) : VK l 0 (DS.new 512) :=
  ⟨DSOk.new (by omega), DS.new_len 512, rfl, rfl, Int.le_refl _, fun k hk => by omega,
    fun h => absurd h (by rw [new_block _ _ (by unfold vAt; omega)]; exact frR_zeros 86), fun _ => by rw [new_block _ _ (by omega)]; exact frR_zeros 86⟩
theorem blk_small {b : List UInt8} (h : b.length ≤ 1000) : blkN b.length ≤ 8 := by unfold blkN; omega
theorem vAt_two (g : Nat) : vAt 0 (g + 2) = vAt 0 g := by unfold vAt; omega
theorem VK.head {l : List (List UInt8)} {i : Nat} {S : DS} (h : VK l i S) (hi : i ≤ l.length) : (frR 86 (blockL S (vAt 0 i))).e = 0 → (frR 86 (blockL S (vAt 0 i))).gen < i + 1 := by
  intro he
  cases i with
  | zero => exact absurd he (h.none0 rfl)
  | succ k =>
    have h1 := (has_gen (h.cur k rfl (by omega))).2
    have h2 := frR_gen0 86 (blockL S (vAt 0 (k + 1)))
    omega
theorem VK.save {l : List (List UInt8)} {i : Nat} {S : DS} (h : VK l i S) (hi : i < l.length) (h6 : i ≤ 6) (hb : l[i].length ≤ 1000) :
    saveE S 0 ((i + 1 : Nat) : Int) l[i] = 0 ∧ VK l (i + 1) (saveD S 0 ((i + 1 : Nat) : Int) l[i]) := by
  have h8 := blk_small hb
  obtain ⟨e1, ok', l', o', f', w', hs, hot⟩ := save_whole (from_ := 0) (g := i + 1) (b := l[i]) h.ok h.off (.inl (by rw [h.fuse]; decide)) (by rw [h.len]; decide) (by omega) (by omega)
  have hf := h.fuse
  have hw := h.wr
  refine ⟨e1, ok', by rw [l', h.len], o', by rw [f', if_neg (by omega), hf], by rw [w']; omega, fun k hk hl => ?_, ?_, fun h0 => by omega⟩
  · obtain rfl : k = i := by omega
    exact hs
  · rw [vAt_two, hot _ (by unfold vAt; omega)]
    have := h.head (by omega)
    intro he
    have := this he
    omega
/-- What is loaded. -/
theorem load_pick {S : DS} {fr g : Nat} {b : List UInt8} (ho : S.off = false) (h1 : hasV S (vAt fr g) (g % 2) = some (g, b)) (h2 : ∀ g' b', hasV S (vAt fr (g + 1)) ((g + 1) % 2) = some (g', b') → g' < g) : loadR S fr = ⟨g, b, 0⟩ := by
  unfold loadR
  rw [if_neg (by rw [ho]; decide)]
  rcases Nat.mod_two_eq_zero_or_one g with hg | hg
  · have e1 : vAt fr g = fr := by unfold vAt; omega
    have e2 : vAt fr (g + 1) = fr + 256 := by unfold vAt; omega
    rw [e1, hg] at h1
    rw [e2, show (g + 1) % 2 = 1 by omega] at h2
    rw [h1]
    cases h3 : hasV S (fr + 256) 1 with
    | none => rfl
    | some y =>
      have := h2 y.1 y.2 (by rw [h3])
      show (if g < y.1 then _ else _) = _
      rw [if_neg (by omega)]
  · have e1 : vAt fr g = fr + 256 := by unfold vAt; omega
    have e2 : vAt fr (g + 1) = fr := by unfold vAt; omega
    rw [e1, hg] at h1
    rw [e2, show (g + 1) % 2 = 0 by omega] at h2
    rw [h1]
    cases h3 : hasV S fr 0 with
    | none => rfl
    | some y =>
      have := h2 y.1 y.2 (by rw [h3])
      show (if y.1 < g then _ else _) = _
      rw [if_pos (by omega)]
theorem load_none {S : DS} {fr : Nat} (ho : S.off = false) (h1 : hasV S fr 0 = none) (h2 : hasV S (fr + 256) 1 = none) : loadR S fr = ⟨0, [], 6⟩ := by
  unfold loadR
  rw [if_neg (by rw [ho]; decide), h1, h2]; rfl
/-- The last Save, under the fuse (n, k): what it answers, what is loaded then. -/
theorem VK.last {l : List (List UInt8)} {S : DS} (h : VK l l.length S) (hl : l.length ≤ 6) {b : List UInt8} (hb : b.length ≤ 1000) {n k : Nat} (hn : n ≤ blkN b.length + 1) (hk : k ≤ 128) :
    saveE (armS S n k) 0 ((l.length + 1 : Nat) : Int) b = (if n = blkN b.length + 1 then 0 else 19) ∧
    loadR (powerS (saveD (armS S n k) 0 ((l.length + 1 : Nat) : Int) b)) 0 = (if n = blkN b.length + 1 ∨ (n = blkN b.length ∧ k = 128) then ⟨l.length + 1, b, 0⟩ else if l.length = 0 then ⟨0, [], 6⟩ else ⟨l.length, l.getD (l.length - 1) [], 0⟩) := by
  have h8 := blk_small hb
  have ha : armE (n : Int) (k : Int) = 0 := by unfold armE; rw [if_neg (by omega)]
  have okA := h.ok.arm (n : Int) (k : Int) (by omega)
  have eA : armS S n k = { S with fuse := n, keep := k } := by unfold armS; rw [if_pos ha]
  have oA : (armS S n k).off = false := by rw [eA]; exact h.off
  have fA : (armS S n k).fuse = n := by rw [eA]
  have kA : (armS S n k).keep = k := by rw [eA]
  have lA : (armS S n k).len = 512 := by unfold DS.len; rw [armS_all]; exact h.len
  have bA := fun j => blockL_arm S n k j
  clear eA
  generalize armS S n k = A at *
  have holdA : (frR 86 (blockL A (vAt 0 (l.length + 1)))).e = 0 → (frR 86 (blockL A (vAt 0 (l.length + 1)))).gen < l.length := by rw [bA]; exact h.old
  -- what the area of the generation before holds
  have hprev : ∀ T : DS, (∀ j, ¬ (vAt 0 (l.length + 1) ≤ j ∧ j < vAt 0 (l.length + 1) + 256) → blockL T j = blockL A j) → ∀ a odd, a = vAt 0 l.length → hasV T a odd = hasV S a odd := by
    intro T hT a odd hav
    refine has_cong (fun j h1 h2 => ?_)
    rw [hT j (by subst hav; unfold vAt at *; omega), bA]
  by_cases hw : n = blkN b.length + 1
  · obtain ⟨e1, ok', l', o', f', w', hs, hot⟩ := save_whole (from_ := 0) (g := l.length + 1) (b := b) okA oA (.inr (by rw [fA]; omega)) (by rw [lA]; decide) (by omega) (by omega)
    refine ⟨by rw [if_pos hw]; exact e1, ?_⟩
    rw [if_pos (.inl hw)]
    refine load_pick rfl hs (fun g' b' hh => ?_)
    obtain ⟨g1, g2⟩ := has_gen hh
    rw [vAt_two, blockL_power, hot _ (by unfold vAt; omega), bA] at g1 g2
    have := h.head (Nat.le_refl _) g1
    have := frR_gen0 86 (blockL S (vAt 0 l.length))
    omega
  · obtain ⟨e1, ok', l', w', hot, hA1, hA2⟩ := save_torn (from_ := 0) (g := l.length + 1) (b := b) okA oA fA (by omega) (by rw [lA]; decide) (by omega) (by omega)
    refine ⟨by rw [if_neg hw]; exact e1, ?_⟩
    have hpv := hprev _ hot
    by_cases hfull : n = blkN b.length ∧ k = 128
    · rw [if_pos (.inr hfull)]
      obtain ⟨hd, hc⟩ := hA2 hfull.1
      rw [kA, hfull.2, show ((128 : Nat) : Int) = 128 from rfl, tornL_all (vheadL_length _ _)] at hd
      refine load_pick rfl (has_saved (by omega) rfl (by omega) hd hc) (fun g' b' hh => ?_)
      obtain ⟨g1, g2⟩ := has_gen hh
      rw [vAt_two, blockL_power, hot _ (by unfold vAt; omega), bA] at g1 g2
      have := h.head (Nat.le_refl _) g1
      have := frR_gen0 86 (blockL S (vAt 0 l.length))
      omega
    · rw [if_neg (by rintro (h1 | h1); exact hw h1; exact hfull h1)]
      -- the head of the new area: as it was, or torn
      have hnew : (frR 86 (blockL (saveD A 0 ((l.length + 1 : Nat) : Int) b) (vAt 0 (l.length + 1)))).e = 0 → (frR 86 (blockL (saveD A 0 ((l.length + 1 : Nat) : Int) b) (vAt 0 (l.length + 1)))).gen < l.length := by
        by_cases hnb : n < blkN b.length
        · rw [hA1 hnb]; exact holdA
        · have hd := (hA2 (by omega)).1
          rw [kA] at hd
          rw [hd]
          intro he
          exact absurd he (frR_torn (vheadL_length _ _) (by have : ¬ k = 128 := fun e => hfull ⟨by omega, e⟩; omega))
      by_cases h0 : l.length = 0
      · rw [if_pos h0]
        have e0 : vAt 0 l.length = 0 := by unfold vAt; omega
        have e1' : vAt 0 (l.length + 1) = 0 + 256 := by unfold vAt; omega
        refine load_none rfl ?_ (has_no ?_)
        · show hasV (saveD A 0 ((l.length + 1 : Nat) : Int) b) 0 0 = none
          rw [hpv 0 0 e0.symm]
          exact has_no (h.none0 h0)
        · show (frR 86 (blockL (saveD A 0 ((l.length + 1 : Nat) : Int) b) (0 + 256))).e ≠ 0
          rw [e1'] at hnew
          intro he
          have := hnew he
          have := frR_gen0 86 (blockL (saveD A 0 ((l.length + 1 : Nat) : Int) b) (0 + 256))
          omega
      · rw [if_neg h0]
        have hcur := h.cur (l.length - 1) (by omega) (by omega)
        have eg : l.getD (l.length - 1) [] = l[l.length - 1]'(by omega) := by rw [List.getD, List.getElem?_eq_getElem (by omega)]; rfl
        rw [eg]
        refine load_pick rfl ?_ (fun g' b' hh => ?_)
        · show hasV (saveD A 0 ((l.length + 1 : Nat) : Int) b) _ _ = _
          rw [hpv _ _ rfl]; exact hcur
        · obtain ⟨g1, g2⟩ := has_gen hh
          have := hnew g1
          have := frR_gen0 86 (blockL (saveD A 0 ((l.length + 1 : Nat) : Int) b) (vAt 0 (l.length + 1)))
          have g2' : (frR 86 (blockL (saveD A 0 ((l.length + 1 : Nat) : Int) b) (vAt 0 (l.length + 1)))).gen.toNat = g' := g2
          omega
end Go.Proofs.Ytbmcajhknohhdaa

/-! VltC -/
namespace Go.Proofs.Ytbmcajhknohhdaa
open Go.RowKit

/-- What the memory of a vault is, apart from the disk's. At w vb db a G: at vb a vault on the disk at db that begins at block a. -/
structure VltRel where
  At : World → Nat → Nat → Nat → (Nat → Prop) → Prop
  lt : ∀ {w vb db a G}, At w vb db a G → ∀ k, G k → k < w.heap.size
  kept : ∀ {w w' vb db a G} {T : Nat → Prop}, At w vb db a G → Chg T w w' → (∀ k, G k → ¬ T k) → At w' vb db a G
structure VP (K : DiskRel) (R : VltRel) (w : World) (vb db : Nat) (S : DS) (a : Nat) (F : Nat → Prop) : Prop where
  ok : DSOk S
  fits : a + 512 ≤ S.len
  ex : ∃ D G, K.At w db S D ∧ R.At w vb db a G ∧ (∀ k, D k → ¬ G k) ∧ ∀ k, F k ↔ (D k ∨ G k)
theorem VP.lt {K : DiskRel} {R : VltRel} {w : World} {vb db : Nat} {S : DS} {a : Nat} {F : Nat → Prop} (h : VP K R w vb db S a F) : ∀ k, F k → k < w.heap.size := by
  obtain ⟨D, G, h1, h2, -, h4⟩ := h.ex
  intro k hk
  rcases (h4 k).1 hk with h5 | h5
  · exact (K.lt h1).2 k h5
  · exact R.lt h2 k h5
theorem VP.kept {K : DiskRel} {R : VltRel} {w w' : World} {vb db : Nat} {S : DS} {a : Nat} {F T : Nat → Prop} (h : VP K R w vb db S a F) (hc : Chg T w w') (hF : ∀ k, F k → ¬ T k) : VP K R w' vb db S a F := by
  obtain ⟨D, G, h1, h2, h3, h4⟩ := h.ex
  exact ⟨h.ok, h.fits, D, G, K.kept h1 hc (fun k hk => hF k ((h4 k).2 (.inl hk))), R.kept h2 hc (fun k hk => hF k ((h4 k).2 (.inr hk))), h3, h4⟩
/-- The disk alone was called. -/
theorem VP.disk {K : DiskRel} {R : VltRel} {w w' : World} {vb db : Nat} {S S' : DS} {a : Nat} {F : Nat → Prop} (h : VP K R w vb db S a F) (ok : DSOk S') (hl : S'.len = S.len) {D : Nat → Prop}
    (hx : ∃ G, R.At w vb db a G ∧ (∀ k, D k → ¬ G k) ∧ ∀ k, F k ↔ (D k ∨ G k)) {D' : Nat → Prop} (hA : K.At w' db S' D') (hs : ∀ k, D' k → D k ∨ w.heap.size ≤ k) (hc : Chg D w w') :
    ∃ F', VP K R w' vb db S' a F' ∧ (∀ k, F' k → F k ∨ w.heap.size ≤ k) ∧ Chg F w w' := by
  obtain ⟨G, h2, h3, h4⟩ := hx
  have hG := R.lt h2
  refine ⟨fun k => D' k ∨ G k, ⟨ok, by rw [hl]; exact h.fits, D', G, hA, R.kept h2 hc (fun k hk hd => h3 k hd hk), fun k hk hg => ?_, fun _ => Iff.rfl⟩, fun k hk => ?_, hc.mono fun k _ hk => (h4 k).2 (.inl hk)⟩
  · rcases hs k hk with h5 | h5
    · exact h3 k h5 hg
    · have := hG k hg; omega
  · rcases hk with hk | hk
    · rcases hs k hk with h5 | h5
      · exact .inl ((h4 k).2 (.inl h5))
      · exact .inr h5
    · exact .inl ((h4 k).2 (.inr hk))

/-! The vault's own. -/
def VNewC (K : DiskRel) (R : VltRel) : Prop := ∀ (a : Nat) (w : World) (db : Nat) (S : DS) (D : Nat → Prop), K.At w db S D → DSOk S → a + 512 ≤ S.len →
  Calls Try.prog 8 #[ptrV db, .int .i64 (a : Int)] w fun e w' => ∃ vb F, e = .returned (.tuple #[ptrV vb, .int .i64 0]) ∧ VP K R w' vb db S a F ∧ (∀ k, F k → D k ∨ w.heap.size ≤ k) ∧ Below w.heap.size w w'
def VNewNoC (K : DiskRel) : Prop := ∀ (a : Int) (w : World) (db : Nat) (S : DS) (D : Nat → Prop), K.At w db S D → DSOk S → a < 0 ∨ (S.len : Int) < a + 512 → -9223372036854775808 ≤ a → a ≤ 9223372036854775807 →
  Calls Try.prog 8 #[ptrV db, .int .i64 a] w fun e w' => e = .returned (.tuple #[.pointer none, .int .i64 8]) ∧ Below w.heap.size w w'
def VNewNilC : Prop := ∀ (w : World), Calls Try.prog 8 #[.pointer none, .int .i64 0] w fun e w' => e = .returned (.tuple #[.pointer none, .int .i64 2]) ∧ Below w.heap.size w w'
def VBlocksC : Prop := ∀ (n : Int) (w : World), n ≤ 9223372036854775807 → Calls Try.prog 25 #[.int .i64 n] w fun e w' => e = .returned (.int .i64 (if n < 1 then 0 else ((blkN n.toNat : Nat) : Int))) ∧ w = w'
def VSaveC (K : DiskRel) (R : VltRel) : Prop := ∀ {w vb db S a F p len cap b} (gen : Int), VP K R w vb db S a F → S.wr ≤ 900000 → BsAt w p len cap b → b.length ≤ 100000 → (∀ x, p = some x → b ≠ [] → ¬ F x.block ∧ x.block < w.heap.size) →
  Calls Try.prog 12 #[ptrV vb, .int .i64 gen, .slice p len cap] w fun e w' => ∃ F', e = .returned (.int .i64 (saveE S a gen b)) ∧ VP K R w' vb db (saveD S a gen b) a F' ∧ (∀ k, F' k → F k ∨ w.heap.size ≤ k) ∧ Chg F w w'
def VLoadC (K : DiskRel) (R : VltRel) : Prop := ∀ {w vb db S a F}, VP K R w vb db S a F →
  Calls Try.prog 21 #[ptrV vb] w fun e w' => ∃ p c, e = .returned (.tuple #[.int .i64 ((loadR S a).gen : Int), .slice p (loadR S a).b.length c, .int .i64 (loadR S a).e]) ∧ BsAt w' p (loadR S a).b.length c (loadR S a).b ∧ (∀ x, p = some x → w.heap.size ≤ x.block) ∧ Below w.heap.size w w'
def VNilSaveC : Prop := ∀ (p : Option Addr) (len cap : Nat) (w : World), Calls Try.prog 12 #[.pointer none, .int .i64 0, .slice p len cap] w fun e w' => e = .returned (.int .i64 2) ∧ Below w.heap.size w w'
def VAliveC : Prop := ∀ (w : World), Calls Try.prog 9 #[] w fun e w' => e = .returned (.bool true) ∧ Below w.heap.size w w'
def DOnV (K : DiskRel) : Prop := ∀ {w b S F}, K.At w b S F → DSOk S → Calls Try.prog 23 #[ptrV b] w fun e w' => e = .returned (.bool (!S.off)) ∧ Below w.heap.size w w'
def DWritesC (K : DiskRel) : Prop := ∀ {w b S F}, K.At w b S F → DSOk S → Calls Try.prog 24 #[ptrV b] w fun e w' => e = .returned (.int .i64 S.wr) ∧ Below w.heap.size w w'

/-- In V: a vault on a disk that were made since w; what was there in w has not changed. -/
structure VW (K : DiskRel) (R : VltRel) (w : World) (vb db : Nat) (S : DS) (a : Nat) (V : World) : Prop where
  below : Below w.heap.size w V
  ex : ∃ F, VP K R V vb db S a F ∧ ∀ k, F k → w.heap.size ≤ k
theorem VW.ok {K : DiskRel} {R : VltRel} {w : World} {vb db : Nat} {S : DS} {a : Nat} {V : World} (h : VW K R w vb db S a V) : DSOk S := by
  obtain ⟨F, h1, -⟩ := h.ex; exact h1.ok
theorem VW.to {w V V' : World} {F F' : Nat → Prop} (hb : Below w.heap.size w V) (ho : ∀ k, F k → w.heap.size ≤ k) (hs : ∀ k, F' k → F k ∨ V.heap.size ≤ k) (hc : Chg F V V') :
    Below w.heap.size w V' ∧ ∀ k, F' k → w.heap.size ≤ k :=
  ⟨hb.trans (hc.below hb.size ho), fun k hk => (hs k hk).elim (ho k) (fun h => Nat.le_trans hb.size h)⟩
theorem VW.step {K : DiskRel} {R : VltRel} {w : World} {vb db : Nat} {S : DS} {a : Nat} {V V' : World} (h : VW K R w vb db S a V) (hB : Below V.heap.size V V') : VW K R w vb db S a V' := by
  obtain ⟨F, h1, h2⟩ := h.ex
  exact ⟨h.below.trans (hB.mono h.below.size), F, h1.kept (Chg.ofBelow (S := fun _ => False) hB) (fun _ _ h => h), h2⟩
section
variable {K : DiskRel} {R : VltRel} {w : World} {vb db : Nat} {S : DS} {a : Nat} {V : World}
/-- Bytes of the world w are saved. -/
theorem VW.save (c : VSaveC K R) (h : VW K R w vb db S a V) (gen : Int) (hw : S.wr ≤ 900000) {p : Option Addr} {len cap : Nat} {b : List UInt8} (hb : BsAt w p len cap b) (hl : b.length ≤ 100000) :
    Calls Try.prog 12 #[ptrV vb, .int .i64 gen, .slice p len cap] V fun e w' => e = .returned (.int .i64 (saveE S a gen b)) ∧ VW K R w vb db (saveD S a gen b) a w' := by
  obtain ⟨F, h1, h2⟩ := h.ex
  refine (c gen h1 hw (hb.below h.below (Nat.le_refl _)) hl (fun x hx hne => ?_)).mono fun e w' ⟨F', he, hp, hs, hc⟩ => ?_
  · have hlt : x.block < w.heap.size := by
      subst hx
      rcases hb.place with ⟨h3, -⟩ | ⟨h3, -⟩ | ⟨g, off, h3, h4, -⟩
      · cases h3
      · exact absurd h3 hne
      · cases h3; exact h4
    exact ⟨fun hf => by have := h2 _ hf; omega, Nat.lt_of_lt_of_le hlt h.below.size⟩
  · obtain ⟨k1, k2⟩ := VW.to h.below h2 hs hc
    exact ⟨he, k1, F', hp, k2⟩
/-- Bytes that were made since, apart from the vault. -/
theorem VW.save2 (c : VSaveC K R) {W : World} (h : VW K R w vb db S a W) (hB : Below W.heap.size W V) (gen : Int) (hw : S.wr ≤ 900000) {p : Option Addr} {len cap : Nat} {b : List UInt8} (hb : BsAt V p len cap b) (hl : b.length ≤ 100000) (hp : ∀ x, p = some x → b ≠ [] → W.heap.size ≤ x.block) :
    Calls Try.prog 12 #[ptrV vb, .int .i64 gen, .slice p len cap] V fun e w' => e = .returned (.int .i64 (saveE S a gen b)) ∧ VW K R w vb db (saveD S a gen b) a w' := by
  obtain ⟨F, h1, h2⟩ := h.ex
  have hlt := h1.lt
  have h1' := h1.kept (Chg.ofBelow (S := fun _ => False) hB) (fun _ _ h => h)
  have hb' := h.below.trans (hB.mono h.below.size)
  refine (c gen h1' hw hb hl (fun x hx hne => ?_)).mono fun e w' ⟨F', he, hp, hs, hc⟩ => ?_
  · have h3 := hp x hx hne
    refine ⟨fun hf => by have := hlt _ hf; omega, ?_⟩
    subst hx
    rcases hb.place with ⟨h3, -⟩ | ⟨h3, -⟩ | ⟨g, off, h3, h4, -⟩
    · cases h3
    · exact absurd h3 hne
    · cases h3; exact h4
  · obtain ⟨k1, k2⟩ := VW.to hb' h2 hs hc
    exact ⟨he, k1, F', hp, k2⟩
/-- A Save keeps other bytes that were made since some world in which the vault was there. -/
theorem VW.saveK (c : VSaveC K R) {W : World} (h : VW K R w vb db S a W) (hB : Below W.heap.size W V) (gen : Int) (hw : S.wr ≤ 900000) {q : Option Addr} {n c2 : Nat} {m : List UInt8} (hb : BsAt V q n c2 m) (hq : ∀ x, q = some x → W.heap.size ≤ x.block) :
    Calls Try.prog 12 #[ptrV vb, .int .i64 gen, .slice none 0 0] V fun e w' => e = .returned (.int .i64 (saveE S a gen [])) ∧ BsAt w' q n c2 m ∧ VW K R w vb db (saveD S a gen []) a w' := by
  obtain ⟨F, h1, h2⟩ := h.ex
  have hlt := h1.lt
  have h1' := h1.kept (Chg.ofBelow (S := fun _ => False) hB) (fun _ _ h => h)
  have hb' := h.below.trans (hB.mono h.below.size)
  refine (c gen h1' hw (bsAt_nil V) (by simp) (fun x hx => by cases hx)).mono fun e w' ⟨F', he, hp, hs, hc⟩ => ?_
  obtain ⟨k1, k2⟩ := VW.to hb' h2 hs hc
  exact ⟨he, hb.chg hc (fun x hx hf => by have := hq x hx; have := hlt _ hf; omega), k1, F', hp, k2⟩
theorem VW.load (c : VLoadC K R) (h : VW K R w vb db S a V) :
    Calls Try.prog 21 #[ptrV vb] V fun e w' => ∃ p c, e = .returned (.tuple #[.int .i64 ((loadR S a).gen : Int), .slice p (loadR S a).b.length c, .int .i64 (loadR S a).e]) ∧ BsAt w' p (loadR S a).b.length c (loadR S a).b ∧ VW K R w vb db S a w' := by
  obtain ⟨F, h1, -⟩ := h.ex
  exact (c h1).mono fun e w' ⟨p, c, he, hb, _, hB⟩ => ⟨p, c, he, hb, h.step hB⟩
/-- What is loaded lies in new memory. -/
theorem VW.load2 (c : VLoadC K R) (h : VW K R w vb db S a V) :
    Calls Try.prog 21 #[ptrV vb] V fun e w' => ∃ p c, e = .returned (.tuple #[.int .i64 ((loadR S a).gen : Int), .slice p (loadR S a).b.length c, .int .i64 (loadR S a).e]) ∧ BsAt w' p (loadR S a).b.length c (loadR S a).b ∧ (∀ x, p = some x → V.heap.size ≤ x.block) ∧ Below V.heap.size V w' := by
  obtain ⟨F, h1, -⟩ := h.ex
  exact c h1
theorem VW.arm (c : DArmC K) (h : VW K R w vb db S a V) (n keep : Int) (hn : n ≤ 9223372036854775807) :
    Calls Try.prog 14 #[ptrV db, .int .i64 n, .int .i64 keep] V fun e w' => e = .returned (.int .i64 (armE n keep)) ∧ VW K R w vb db (armS S n keep) a w' := by
  obtain ⟨F, h1, h2⟩ := h.ex
  obtain ⟨D, G, g1, g2⟩ := h1.ex
  refine (c n keep g1 h1.ok hn).mono fun e w' ⟨D', he, hA, hs, hc⟩ => ?_
  obtain ⟨F', hp, hs2, hc2⟩ := h1.disk (h1.ok.arm n keep hn) (by unfold DS.len; rw [armS_all]) ⟨G, g2⟩ hA hs hc
  obtain ⟨k1, k2⟩ := VW.to h.below h2 hs2 hc2
  exact ⟨he, k1, F', hp, k2⟩
theorem VW.power (c : DPowerC K) (h : VW K R w vb db S a V) :
    Calls Try.prog 16 #[ptrV db] V fun e w' => e = .returned (.tuple #[]) ∧ VW K R w vb db (powerS S) a w' := by
  obtain ⟨F, h1, h2⟩ := h.ex
  obtain ⟨D, G, g1, g2⟩ := h1.ex
  refine (c g1 h1.ok).mono fun e w' ⟨D', he, hA, hs, hc⟩ => ?_
  obtain ⟨F', hp, hs2, hc2⟩ := h1.disk h1.ok.power rfl ⟨G, g2⟩ hA hs hc
  obtain ⟨k1, k2⟩ := VW.to h.below h2 hs2 hc2
  exact ⟨he, k1, F', hp, k2⟩
theorem VW.on (c : DOnV K) (h : VW K R w vb db S a V) : Calls Try.prog 23 #[ptrV db] V fun e w' => e = .returned (.bool (!S.off)) ∧ VW K R w vb db S a w' := by
  obtain ⟨F, h1, -⟩ := h.ex
  obtain ⟨D, G, g1, -⟩ := h1.ex
  exact (c g1 h1.ok).mono fun e w' ⟨he, hB⟩ => ⟨he, h.step hB⟩
theorem VW.writes (c : DWritesC K) (h : VW K R w vb db S a V) : Calls Try.prog 24 #[ptrV db] V fun e w' => e = .returned (.int .i64 S.wr) ∧ VW K R w vb db S a w' := by
  obtain ⟨F, h1, -⟩ := h.ex
  obtain ⟨D, G, g1, -⟩ := h1.ex
  exact (c g1 h1.ok).mono fun e w' ⟨he, hB⟩ => ⟨he, h.step hB⟩
end
/-- A new vault on a new disk. -/
theorem VW.made {K : DiskRel} {R : VltRel} (c : VNewC K R) {w V : World} {db n : Nat} {D : Nat → Prop} (hD : K.At V db (DS.new n) D) (hown : ∀ k, D k → w.heap.size ≤ k) (hB : Below w.heap.size w V) (a : Nat) (hn : n ≤ 1024) (hf : a + 512 ≤ n) :
    Calls Try.prog 8 #[ptrV db, .int .i64 (a : Int)] V fun e w' => ∃ vb, e = .returned (.tuple #[ptrV vb, .int .i64 0]) ∧ VW K R w vb db (DS.new n) a w' :=
  (c a V db (DS.new n) D hD (DSOk.new hn) (by rw [DS.new_len]; exact hf)).mono fun e w' ⟨vb, F, he, hp, hs, hB2⟩ =>
    ⟨vb, he, hB.trans (hB2.mono hB.size), F, hp, fun k hk => (hs k hk).elim (hown k) (fun h => Nat.le_trans hB.size h)⟩
end Go.Proofs.Ytbmcajhknohhdaa

/-! VltB -/
namespace Go.Proofs.Ytbmcajhknohhdaa
open Go.RowKit

def blkZ (n : Int) : Nat := if n < 1 then 0 else blkN n.toNat
theorem blkZ_nat (n : Nat) : blkZ (n : Int) = blkN n := by
  unfold blkZ
  by_cases h : n = 0
  · subst h; rfl
  · rw [if_neg (by omega), Int.toNat_natCast]
set_option maxHeartbeats 1600000 in
theorem rvBlocks_any (n : Int) (w : World) (h1 : -9223372036854775808 ≤ n) (h2 : n ≤ 9223372036854775807) :
    Calls Try.prog 26 #[.int .i64 n] w fun e w' => e = .returned (.int .i64 (blkZ n : Int)) ∧ w = w' := by
  by_cases hn : n < 1
  · have e : blkZ n = 0 := by unfold blkZ; rw [if_pos hn]
    rw [e]
    clear e
    go_enter Try.func26, Try.ntmps26
    go_wp2_with fail
    go_loop [0, 3] (fun a k => a = .int .i64 n ∧ k = .int .i64 0) (fun _ _ => 0)
    case atStart => exact ⟨rfl, rfl⟩
    case round =>
      obtain ⟨rfl, rfl⟩ := hrel
      have d : decide (0 < n) = false := by simp; omega
      go_wp2_with fail
      go_ret
      exact ⟨rfl, rfl⟩
  · obtain ⟨m, rfl⟩ := Int.eq_ofNat_of_zero_le (show 0 ≤ n by omega)
    rw [blkZ_nat]
    have hm : m ≤ 9223372036854775807 := by omega
    clear h1 h2 hn
    go_enter Try.func26, Try.ntmps26
    go_wp2_with fail
    go_loop [0, 3] (fun a k => ∃ j : Nat, j ≤ blkN m ∧ a = .int .i64 ((m : Int) - 128 * j) ∧ k = .int .i64 j) (fun _ k => blkN m - (intOf k).toNat)
    case atStart => exact ⟨0, Nat.zero_le _, by simp, rfl⟩
    case round =>
      obtain ⟨j, hj, rfl, rfl⟩ := hrel
      have hb1 := blkN_le m
      have hb2 := blkN_lt m
      have hkw : IntKind.i64.wrap ((j : Int) + 1) = (j : Int) + 1 := IntWalk.i64_in _ (by omega)
      by_cases hlt : j < blkN m
      · have hw : IntKind.i64.wrap ((m : Int) - 128 * (j : Int) - 128) = (m : Int) - 128 * (j : Int) - 128 := IntWalk.i64_in _ (by omega)
        have E := Lib.hid (show (m : Int) - 128 * (j : Int) - 128 = (m : Int) - 128 * ((j + 1 : Nat) : Int) by omega)
        have d : decide (0 < (m : Int) - 128 * (j : Int)) = true := by simp; omega
        have hx := Lib.hid hlt
        generalize hX : (m : Int) - 128 * (j : Int) = X at *
        clear hX hlt hb1 hb2
        go_wp2_with fail
        go_round
        case rel => exact ⟨j + 1, hx.out, by rw [E.out], by go_num⟩
        case measure => have := hx.out; simp [intOf]; omega
      · obtain rfl : j = blkN m := by omega
        have d : decide (0 < (m : Int) - 128 * ((blkN m : Nat) : Int)) = false := by simp; omega
        generalize (m : Int) - 128 * ((blkN m : Nat) : Int) = X at *
        go_wp2_with fail
        go_ret
        exact ⟨rfl, rfl⟩
end Go.Proofs.Ytbmcajhknohhdaa

/-! VltD -/
namespace Go.Proofs.Ytbmcajhknohhdaa
open Go.RowKit

theorem rvBlocks_len (n : Nat) (w : World) (h : n ≤ 9223372036854775807) : Calls Try.prog 26 #[.int .i64 (n : Int)] w fun e w' => e = .returned (.int .i64 ((blkN n : Nat) : Int)) ∧ w = w' := by
  have := rvBlocks_any (n : Int) w (by omega) (by omega)
  rw [blkZ_nat] at this
  exact this
set_option maxRecDepth 100000 in
set_option maxHeartbeats 3200000 in
theorem rvFilled_any (p : Option Addr) (len cap : Nat) (b : List UInt8) (w : World) (h : BsAt w p len cap b) (hl : b.length ≤ 100000) :
    Calls Try.prog 31 #[.slice p len cap] w fun e w' => ∃ q c, e = .returned (.slice q (fillL b).length c) ∧ w'.ownsRow w.heap.size 5 1 (.slice q (fillL b).length c) (fillL b).length (bvs (fillL b)) ∧ Below w.heap.size w w' := by
  have hsame := h.same
  subst hsame
  have HBk := Lib.hid (fun V => rvBlocks_len b.length V (by omega))
  have hb1 := blkN_le b.length
  have hb2 := blkN_lt b.length
  have hbs0 := h.below (belowNew w (.cells #[] 5)) (Nat.le_refl _)
  have hown : (w.alloc (.cells #[] 5)).ownsRow w.heap.size 5 1 (.slice (some ⟨w.heap.size, 0, none⟩) 0 0) ([] : List UInt8).length (bvs []) := World.ownsRow_lit w #[] 0 (Nat.le_refl _) (by decide) rfl
  have HB2 := Lib.hid hbs0
  have hq : ([] : List UInt8).length + b.length ≤ 140737488355328 := by simp; omega
  have hfl : fillL b = b ++ zeros (128 * blkN b.length - b.length) := rfl
  have HF := Lib.hid hfl
  obtain ⟨n, hn⟩ : ∃ n, n = b.length := ⟨_, rfl⟩
  have HNl := Lib.hid hn
  rw [← hn] at HBk hb1 hb2 HF ⊢
  have hn5 : n ≤ 100000 := by omega
  clear h hbs0 hfl hn hl
  generalize blkN n = K at *
  have hmw : IntKind.i64.wrap (128 * (K : Int)) = 128 * (K : Int) := IntWalk.i64_in _ (by omega)
  go_enter Try.func31, Try.ntmps31
  have tok1 : True := trivial
  go_wp2_with (at_builtin; have _t := tok1; refine wpList_append_bytes rfl _ _ 31 rfl w.heap.size 5 Try.underlying31 infoU8 rfl hown rfl (by rw [HNl.out]; exact HB2.out) hq (by simp) ?_; intro p1 n1 c1 w1 hrow1 hg1 hn1; have HR1 := Lib.hid hrow1; have HB1 := Lib.hid ((belowNew w _).grown hg1 (by simp) (fun k hk => by cases hk; exact Nat.le_refl _)); clear hrow1 hg1 hn1 hown tok1)
  rw [List.nil_append] at HR1
  go_loopw [3] (fun v wr => ∃ j : Nat, j ≤ 128 * K - n ∧ wr.ownsRow w.heap.size 5 1 v (b ++ zeros j).length (bvs (b ++ zeros j)) ∧ Below w.heap.size w wr) (fun v _ => 128 * K - (match v with | .slice _ n _ => n | _ => 0))
  case atStart => exact ⟨0, Nat.zero_le _, by rw [show b ++ zeros 0 = b by simp [zeros]]; exact HR1.out, HB1.out⟩
  case round =>
    obtain ⟨j, hj, hR, hB⟩ := hrel
    have hlen : (b ++ zeros j).length = n + j := by rw [List.length_append, HNl.out]; simp [zeros]
    have HLen := Lib.hid hlen
    obtain ⟨p2, c2, rfl⟩ := own_form hR
    have HR2 := Lib.hid hR
    have HBr := Lib.hid hB
    clear hR hB
    have HZ := Lib.hid (show b ++ zeros (j + 1) = b ++ zeros j ++ [0] by rw [zeros_succ, List.append_assoc])
    by_cases hlt : j < 128 * K - n
    · generalize b ++ zeros j = T2 at *
      have hown3 := HR2.out.alloc (.cells #[.int .u8 0] 5)
      have HS3 := Lib.hid (bsAt_new wr #[.int .u8 0] 5 0 [0] (by simp [maxLen]) (fun i hi => by
        obtain rfl : i = 0 := by simp at hi; omega
        rfl))
      have HQ3 := Lib.hid (HBr.out.alloc HBr.out.size (.cells #[.int .u8 0] 5))
      have hq3 : T2.length + [(0 : UInt8)].length ≤ 140737488355328 := by have := HLen.out; simp only [List.length_cons, List.length_nil]; omega
      have hlt2 : T2.length < 128 * K := by have := HLen.out; omega
      have d1 : decide ((T2.length : Int) < 128 * (K : Int)) = true := by simp; omega
      have HL2 := Lib.hid (show (T2 ++ [(0 : UInt8)]).length = T2.length + 1 by simp)
      clear hlen
      go_wp2_with fail
      refine (HBk.out _).mono ?_
      rintro e w4 ⟨rfl, rfl⟩
      go_wp2_with (at_builtin; refine wpList_append_bytes rfl _ _ 31 rfl w.heap.size 5 Try.underlying31 infoU8 rfl hown3 rfl HS3.out hq3 HQ3.out.size ?_; intro p3 n3 c3 w3 hrow hg3 hn3; have HR3 := Lib.hid hrow; have HB3 := Lib.hid (HQ3.out.grown hg3 HQ3.out.size (fun k hk => (hown3.lt k hk).1)); clear hrow hg3 hn3 hown3)
      obtain rfl : n3 = T2.length + 1 := by
        obtain ⟨pv, cv, e⟩ := own_form HR3.out
        cases e; rw [HL2.out]
      go_roundw
      case rel => exact ⟨j + 1, by omega, by rw [HZ.out]; exact HR3.out, HB3.out⟩
      case measure => simp; omega
    · obtain rfl : j = 128 * K - n := by omega
      rw [← HF.out] at HR2 HLen
      rw [← HF.out]
      have d1 : decide (((fillL b).length : Int) < 128 * (K : Int)) = false := by have := HLen.out; simp; omega
      have hl9 : (fillL b).length ≤ 200000 := by have := HLen.out; omega
      clear hlen
      generalize hT : fillL b = T2 at *
      have HT := Lib.hid hT
      clear hT
      go_wp2_with fail
      refine (HBk.out _).mono ?_
      rintro e w4 ⟨rfl, rfl⟩
      go_wp2_with fail
      go_ret
      rw [HT.out]
      exact ⟨p2, c2, rfl, HR2.out, HBr.out⟩
theorem okN_four {n : Nat} (h : n < 4294967296) : okN (n : Int) ((4 : Nat) : Int) = true := by
  rw [okN_iff]
  refine ⟨by omega, by omega, by omega, ?_⟩
  rw [Int.toNat_natCast]
  simp; omega
set_option maxRecDepth 100000 in
set_option maxHeartbeats 3200000 in
theorem rvHead_any (g : Nat) (p : Option Addr) (len cap : Nat) (b : List UInt8) (w : World) (h : BsAt w p len cap b) (hg : g ≤ 2147483647) (hb : blkN b.length ≤ 255) :
    Calls Try.prog 32 #[.int .i64 (g : Int), .slice p len cap] w fun e w' => ∃ q c, e = .returned (.slice q 128 c) ∧ w'.ownsRow w.heap.size 5 1 (.slice q 128 c) 128 (bvs (vheadL g b)) ∧ Below w.heap.size w w' := by
  have hsame := h.same
  subst hsame
  have hsz := blk_size hb
  have HBk := Lib.hid (fun V => rvBlocks_len b.length V (by omega))
  have HBs := Lib.hid h
  have HN1 : Hid (∀ V : World, Calls Try.prog 45 #[.int .i64 (b.length : Int), .int .i64 4] V (RNumIs V true (be b.length 4))) := Lib.hid (fun V => by
    have := rnum_in b.length 4 V (by omega) (by omega) (by omega)
    rw [okN_four (by omega)] at this
    exact this)
  have hc := crcSum_lt b
  have HN2 : Hid (∀ V : World, Calls Try.prog 45 #[.int .i64 ((crcSum b : Nat) : Int), .int .i64 4] V (RNumIs V true (be (crcSum b) 4))) := Lib.hid (fun V => by
    have := rnum_in (crcSum b) 4 V (by omega) (by omega) (by omega)
    rw [okN_four (by omega)] at this
    exact this)
  have HW := Lib.hid (fun (q : Option Addr) (n c : Nat) (V : World) (hV : BsAt V q n c (payL b)) => rfWrite_any 86 (g : Int) ((blkN b.length : Nat) : Int) q n c (payL b) V hV)
  have he : frWE (g : Int) ((blkN b.length : Nat) : Int) (payL b) = 0 := by unfold frWE; rw [if_neg (by omega), if_neg (by rw [payL_length]; omega)]
  have hwl : frWL 86 (g : Int) ((blkN b.length : Nat) : Int) (payL b) = vheadL g b := by unfold frWL; rw [if_pos he]; rfl
  rw [he, hwl, vheadL_length] at HW
  have hcw : IntKind.i64.wrap ((crcSum b : Nat) : Int) = ((crcSum b : Nat) : Int) := IntWalk.i64_in _ (by omega)
  have HP := Lib.hid (show payL b = be b.length 4 ++ be (crcSum b) 4 from rfl)
  have hl5 : b.length ≤ 1000000 := by omega
  clear h he hwl hc hb
  go_enter Try.func32, Try.ntmps32
  go_wp2_with fail
  refine (HN1.out _).mono ?_
  rintro e w1 ⟨p1, n1, c1, y1, rfl, hb1, hy1, hB1⟩
  have hy := hy1 rfl
  subst hy
  have HB1 := Lib.hid hB1
  have HY1 := Lib.hid hb1
  have HSum := Lib.hid (rcSum_any p b.length cap b w1 (HBs.out.below hB1 (Nat.le_refl _)) hl5)
  clear hb1 hy1 hB1 HN1
  go_wp2_with fail
  refine HSum.out.mono ?_
  rintro e w2 ⟨rfl, rfl⟩
  go_wp2_with fail
  refine (HN2.out _).mono ?_
  rintro e w3 ⟨p3, n3, c3, y3, rfl, hb3, hy3, hB3⟩
  have hy := hy3 rfl
  subst hy
  have HB3 := Lib.hid (HB1.out.trans (hB3.mono HB1.out.size))
  have HY3 := Lib.hid (HY1.out.below hB3 (Nat.le_refl _))
  have HZ3 := Lib.hid hb3
  have h4a : (be b.length 4).length = 4 := be_length _ _
  have h4b : (be (crcSum b) 4).length = 4 := be_length _ _
  clear hb3 hy3 hB3 HN2 HSum HB1 HY1
  generalize be b.length 4 = X1 at *
  generalize be (crcSum b) 4 = X2 at *
  have hq1 : ([] : List UInt8).length + X1.length ≤ 140737488355328 := by rw [h4a]; simp
  have tok1 : True := trivial
  go_upto_region 5 with (at_builtin; have _t := tok1; refine wpList_append_bytes rfl _ _ 31 rfl w.heap.size 5 Try.underlying31 infoU8 (l := []) rfl (World.ownsRow_nil _ _ _ _) rfl HY3.out hq1 HB3.out.size ?_; intro p5 n5 c5 w5 hrow5 hg5 hn5; have HR5 := Lib.hid hrow5; have HB5 := Lib.hid (HB3.out.grown hg5 HB3.out.size (fun k hk => by cases hk)); have HG5 := Lib.hid (HZ3.out.kept hg5.size (fun a _ hlt => hg5.block a.block hlt (fun e => by cases e))); clear hrow5 hg5 hn5 tok1)
  rw [List.nil_append] at HR5
  have hq2 : X1.length + X2.length ≤ 140737488355328 := by omega
  have tok2 : True := trivial
  go_upto_region 6 with (at_builtin; have _t := tok2; refine wpList_append_bytes rfl _ _ 31 rfl w.heap.size 5 Try.underlying31 infoU8 rfl HR5.out rfl HG5.out hq2 HB5.out.size ?_; intro p6 n6 c6 w6 hrow6 hg6 hn6; have HR6 := Lib.hid hrow6; have HB6 := Lib.hid (HB5.out.grown hg6 HB5.out.size (fun k hk => (HR5.out.lt k hk).1)); clear hrow6 hg6 hn6 tok2)
  rw [← HP.out] at HR6
  obtain ⟨q6, d6, e6, hbs6⟩ := BsAt.ofRow HR6.out
  rw [Value.slice.injEq] at e6
  obtain ⟨rfl, rfl, rfl⟩ := e6
  have HW6 := Lib.hid (HW.out p6 _ c6 w6 hbs6)
  clear hbs6 HW
  generalize (payL b).length = np at *
  go_wp2_with fail
  refine (HBk.out _).mono ?_
  rintro e w7 ⟨rfl, rfl⟩
  go_wp2_with fail
  refine HW6.out.mono ?_
  rintro e w8 ⟨q8, c8, rfl, hR8, hB8⟩
  have HB8 := Lib.hid (HB6.out.trans (hB8.mono HB6.out.size))
  have HR8 := Lib.hid (own_base2 hR8 HB6.out.size)
  clear hR8 hB8 HW6
  go_wp2_with fail
  go_ret
  exact ⟨q8, c8, rfl, HR8.out, HB8.out⟩
end Go.Proofs.Ytbmcajhknohhdaa

/-! VltE -/
namespace Go.Proofs.Ytbmcajhknohhdaa
open Go.RowKit

theorem plan_split (a g : Nat) (b : List UInt8) {k : Nat} (hk : k < blkN b.length) : ∃ r, planP a g b = bodyP a b k ++ (a + 1 + k, chunkL b k) :: r := by
  obtain ⟨r, hr⟩ := body_split a b k (blkN b.length - k - 1)
  rw [show k + 1 + (blkN b.length - k - 1) = blkN b.length by omega] at hr
  exact ⟨r ++ [(a, vheadL g b)], by unfold planP; rw [hr]; simp⟩
theorem wrl_stop {S T : DS} {a g k : Nat} {b : List UInt8} (hk : k < blkN b.length) (h : wrl S (bodyP a b k) = (0, T)) (hne : writeE T ((a + 1 + k : Nat) : Int) (chunkL b k) ≠ 0) : wrl S (planP a g b) = (writeE T ((a + 1 + k : Nat) : Int) (chunkL b k), writeS T ((a + 1 + k : Nat) : Int) (chunkL b k)) := by
  obtain ⟨r, hr⟩ := plan_split a g b hk
  rw [hr, wrl_append, h, if_pos rfl, wrl]
  simp only
  rw [if_neg hne]
theorem wrl_more {S T : DS} {a k : Nat} {b : List UInt8} (h : wrl S (bodyP a b k) = (0, T)) (he : writeE T ((a + 1 + k : Nat) : Int) (chunkL b k) = 0) : wrl S (bodyP a b (k + 1)) = (0, writeS T ((a + 1 + k : Nat) : Int) (chunkL b k)) := by
  rw [bodyP_succ, wrl_append, h, if_pos rfl, wrl]
  simp only
  rw [if_pos he]; rfl
theorem wrl_end {S T : DS} {a g : Nat} {b : List UInt8} (h : wrl S (bodyP a b (blkN b.length)) = (0, T)) : wrl S (planP a g b) = (writeE T (a : Int) (vheadL g b), writeS T (a : Int) (vheadL g b)) := by
  unfold planP
  rw [wrl_append, h, if_pos rfl, wrl]
  simp only
  by_cases he : writeE T (a : Int) (vheadL g b) = 0
  · rw [if_pos he, wrl, he]
  · rw [if_neg he]
theorem foot_lt {B : Nat} {w : World} {c : Nat} {v : Value} {S : DS} (h : RDisk B w c v S) : ∀ k, foot c v k → k < w.heap.size := by
  intro k hk
  rcases hk with rfl | hk
  · exact h.blk.lt
  · exact (h.row.lt k hk).2
theorem RDisk.below {B : Nat} {w w' : World} {c : Nat} {v : Value} {S : DS} (h : RDisk B w c v S) (hB : Below w.heap.size w w') : RDisk B w' c v S :=
  ⟨h.blk.below hB h.blk.lt, own_below h.row hB (Nat.le_refl _), h.apart⟩

/-- Bytes are read as before where what changed lies apart (no bytes are read anywhere). -/
theorem BsAt.chg2 {S : Nat → Prop} {w w' : World} {p : Option Addr} {len cap : Nat} {l : List UInt8} (h : BsAt w p len cap l) (hc : Chg S w w') (hp : ∀ a, p = some a → l ≠ [] → ¬ S a.block) : BsAt w' p len cap l := by
  by_cases hl : l = []
  · subst hl
    refine ⟨h.same, h.le, h.small, ?_⟩
    rcases h.place with h1 | h1 | ⟨g, off, rfl, -, -⟩
    · exact .inl h1
    · exact .inr (.inl h1)
    · exact .inr (.inl ⟨rfl, by simp⟩)
  · exact h.chg hc fun a ha => hp a ha hl
theorem dropP {p : Option Addr} {cap n : Nat} {P : Nat → Prop} (h : ∀ a, p = some a → P a.block) : ∀ a, (if cap = n then p else p.map (·.add n)) = some a → P a.block := by
  intro a ha
  split at ha
  · exact h a ha
  · cases p with
    | none => cases ha
    | some q =>
      simp only [Option.map_some, Option.some.injEq] at ha
      rw [← ha]
      have : (q.add n).block = q.block := by unfold Addr.add; split <;> rfl
      rw [this]; exact h q rfl
theorem bs_range {w : World} {p : Option Addr} {len cap lo hi : Nat} {l : List UInt8} (h : BsAt w p len cap l) (h1 : lo ≤ hi) (h2 : hi ≤ l.length) : BsAt w (if cap = lo then p else p.map (·.add lo)) (hi - lo) (cap - lo) ((l.drop lo).take (hi - lo)) := by
  have ht := bs_take (n := hi) h h2
  have hd := bs_drop (n := lo) ht (by rw [List.length_take]; omega)
  rw [List.drop_take] at hd
  exact hd

set_option maxRecDepth 100000 in
set_option maxHeartbeats 6400000 in
theorem rvSave_main {B : Nat} {w : World} {c : Nat} {v : Value} {S : DS} (fr g : Nat) {p : Option Addr} {cap : Nat} {b : List UInt8} (h : RDisk B w c v S) (hok : DSOk S) (hwr : S.wr ≤ 900000) (hb : BsAt w p b.length cap b) (hpf : ∀ x, p = some x → b ≠ [] → ¬ foot c v x.block)
    (hg : g ≤ 2147483647) (hn : blkN b.length ≤ 255) (hfr : fr ≤ 100000) :
    Calls Try.prog 13 #[ptrV c, .int .i64 (fr : Int), .int .i64 (g : Int), .slice p b.length cap] w fun e w' => e = .returned (.int .i64 (saveE S fr g b)) ∧ RDisk B w' c v (saveD S fr g b) ∧ Chg (foot c v) w w' := by
  have hsz := blk_size hn
  have HBk := Lib.hid (fun V => rvBlocks_len b.length V (by omega))
  have hfo := foot_lt h
  have HFl := Lib.hid (rvFilled_any p b.length cap b w hb (by omega))
  have eE : saveE S fr g b = (wrl S (planP (vAt fr g) g b)).1 := by unfold saveE; rw [if_neg (by omega), if_neg (by omega), Int.toNat_natCast]
  have eD : saveD S fr g b = (wrl S (planP (vAt fr g) g b)).2 := by unfold saveD; rw [if_neg (by omega), Int.toNat_natCast]
  have HE := Lib.hid (And.intro eE eD)
  have hav : vAt fr g = fr + 256 * (g % 2) := rfl
  have HRd := Lib.hid h
  have HOk := Lib.hid hok
  have HBs := Lib.hid hb
  have HPf := Lib.hid hpf
  have HFo := Lib.hid hfo
  have hl9 : b.length ≤ 9223372036854775807 := by omega
  have d1 : decide ((g : Int) < 0) = false := by simp
  have d2 : decide ((2147483647 : Int) < (g : Int)) = false := by simp; omega
  have d3 : decide ((255 : Int) < ((blkN b.length : Nat) : Int)) = false := by simp; omega
  have hfw : IntKind.i64.wrap ((fr : Int) + 256) = (fr : Int) + 256 := IntWalk.i64_in _ (by omega)
  clear h hok hb hpf eE eD hfo
  generalize hN : blkN b.length = n at *
  have HNn := Lib.hid hN
  clear hN
  unfold ptrV
  go_enter Try.func13, Try.ntmps13
  go_wp2_with fail
  refine (HBk.out _).mono ?_
  rintro e w0 ⟨rfl, rfl⟩
  go_upto_region 6 with fail
  obtain ⟨a, ha⟩ : ∃ a, a = vAt fr g := ⟨_, rfl⟩
  have HAa := Lib.hid ha
  rw [hav] at ha
  go_upto_if 26 with fail
  go_cut [9] (fun s wx => s = .int .i64 (a : Int) ∧ wx = w)
  case first =>
    rcases Nat.mod_two_eq_zero_or_one g with h2 | h2
    · have q : ((g : Int) % 2 == 1) = false := by simp; omega
      have E := Lib.hid (show (fr : Int) = (a : Int) by omega)
      clear ha h2 hav
      go_wp2_with fail
      go_meet
      exact ⟨by rw [E.out], rfl⟩
    · have q : ((g : Int) % 2 == 1) = true := by simp; omega
      have E := Lib.hid (show (fr : Int) + 256 = (a : Int) by omega)
      clear ha h2 hav
      go_wp2_with fail
      go_meet
      exact ⟨by rw [E.out], rfl⟩
  case rest =>
  obtain ⟨rfl, rfl⟩ := hcut
  have ha9 : a ≤ 200000 := by omega
  rw [← HAa.out] at HE
  clear ha hav HAa
  go_wp2_with fail
  refine HFl.out.mono ?_
  rintro e w1 ⟨pf, cf, rfl, hrow, hB1⟩
  obtain ⟨qf, df, ef, hbf⟩ := BsAt.ofRow hrow
  rw [Value.slice.injEq] at ef
  obtain ⟨rfl, -, rfl⟩ := ef
  have hapf : ∀ x, pf = some x → ¬ foot c v x.block := fun x hx hf => by
    subst hx
    have := (hrow.lt x.block rfl).1
    have := HFo.out _ hf
    omega
  have HAp := Lib.hid hapf
  have HF1 := Lib.hid hbf
  have HR1 := Lib.hid (HRd.out.below hB1)
  have HB1 := Lib.hid hB1
  have HBs1 := Lib.hid (HBs.out.below hB1 (Nat.le_refl _))
  have hfl : (fillL b).length = 128 * n := by rw [fillL_length, HNn.out]
  have hcf := hbf.le
  clear hbf hB1 hrow hapf HFl
  go_wp2_with fail
  have hle : 128 * n ≤ cf := by rw [← hfl]; exact hcf
  go_loopw [11] (fun i wr => ∃ (k : Nat) (T : DS), k ≤ n ∧ i = .int .i64 k ∧ wrl S (bodyP a b k) = (0, T) ∧ DSOk T ∧ T.wr ≤ S.wr + k ∧ RDisk B wr c v T ∧ Chg (foot c v) w1 wr) (fun i _ => n - (intOf i).toNat)
  case atStart => exact ⟨0, S, Nat.zero_le _, rfl, rfl, HOk.out, by omega, HR1.out, Chg.refl _ _⟩
  case round =>
    obtain ⟨k, T, hk, rfl, hP, hokT, hwT, hRT, hC⟩ := hrel
    have HP := Lib.hid hP
    have HOT := Lib.hid hokT
    have HRT := Lib.hid hRT
    have HC := Lib.hid hC
    clear hP hokT hRT hC
    by_cases hlt : k < n
    · have hlt2 : k < blkN b.length := by rw [HNn.out]; exact hlt
      have HK2 := Lib.hid hlt2
      have m1 : IntKind.i64.wrap (128 * (k : Int)) = 128 * (k : Int) := IntWalk.i64_in _ (by omega)
      have m2 : IntKind.i64.wrap (128 * (k : Int) + 128) = 128 * (k : Int) + 128 := IntWalk.i64_in _ (by omega)
      have m3 : IntKind.i64.wrap ((a : Int) + 1) = (a : Int) + 1 := IntWalk.i64_in _ (by omega)
      have m4 : IntKind.i64.wrap ((a : Int) + 1 + (k : Int)) = (a : Int) + 1 + (k : Int) := IntWalk.i64_in _ (by omega)
      have u1 := fun (V : World) => run_range (w := V) (p := pf) (len := 128 * n) (cap := cf) (lo := 128 * k) (hi := 128 * k + 128) (x := 128 * (k : Int)) (y := 128 * (k : Int) + 128) (by omega) (by omega) (by omega) (by omega)
      have hsub := bs_range (lo := 128 * k) (hi := 128 * k + 128) (HF1.out.chg HC.out HAp.out) (by omega) (by rw [hfl]; omega)
      have hsubP := dropP (cap := cf) (n := 128 * k) (P := fun k => ¬ foot c v k) HAp.out
      rw [show 128 * k + 128 - 128 * k = 128 by omega] at u1 hsub
      have hch : ((fillL b).drop (128 * k)).take 128 = chunkL b k := rfl
      rw [hch] at hsub
      have hwr := rdWrite_any ((a + 1 + k : Nat) : Int) HRT.out HOT.out (by omega) hsub hsubP
      rw [show ((a + 1 + k : Nat) : Int) = (a : Int) + 1 + (k : Int) by omega] at hwr
      have HWr := Lib.hid hwr
      have HEi := Lib.hid (show ((a + 1 + k : Nat) : Int) = (a : Int) + 1 + (k : Int) by omega)
      have hw1 := wr_one T ((a : Int) + 1 + (k : Int)) (chunkL b k)
      have hx := Lib.hid hlt
      clear hsub hsubP hch hwr hlt hlt2
      generalize (if cf = 128 * k then pf else pf.map (·.add (128 * k))) = pk at *
      unfold ptrV at *
      go_wp2_with fail
      refine (HBk.out _).mono ?_
      rintro e w2 ⟨rfl, rfl⟩
      go_wp2_with fail
      refine HWr.out.mono ?_
      rintro e w3 ⟨rfl, hR3, hC3⟩
      have HR3 := Lib.hid hR3
      have HC3 := Lib.hid (HC.out.trans hC3)
      clear hR3 hC3 HWr m1 m2 m3 m4 u1
      by_cases he : writeE T ((a : Int) + 1 + (k : Int)) (chunkL b k) = 0
      · have hmore := wrl_more HP.out (by rw [HEi.out]; exact he)
        rw [HEi.out] at hmore
        have HM := Lib.hid hmore
        rw [he]
        clear he hmore
        go_wp2_with fail
        go_roundw
        case rel => exact ⟨k + 1, _, by have := hx.out; omega, by go_num, HM.out, HOT.out.write _ _, by omega, HR3.out, HC3.out⟩
        case measure => have := hx.out; simp [intOf]; omega
      · have hstop := wrl_stop (g := g) HK2.out HP.out (by rw [HEi.out]; exact he)
        rw [HEi.out] at hstop
        have HSt := Lib.hid hstop
        have d5 : (writeE T ((a : Int) + 1 + (k : Int)) (chunkL b k) == 0) = false := by simpa using he
        clear he hstop
        generalize hZ : writeE T ((a : Int) + 1 + (k : Int)) (chunkL b k) = z at *
        have HZ := Lib.hid hZ
        clear hZ
        go_wp2_with fail
        go_ret
        rw [HE.out.1, HE.out.2, HSt.out]
        exact ⟨rfl, HR3.out, (Chg.ofBelow HB1.out).trans HC3.out⟩
    · obtain rfl : k = n := by omega
      have hP := HP.out
      rw [← HNn.out] at hP
      have hend := wrl_end (g := g) hP
      have HEn := Lib.hid hend
      have hbr := HBs1.out.chg2 HC.out HPf.out
      have HHd := Lib.hid (rvHead_any g p b.length cap b wr hbr hg (by rw [HNn.out]; exact hn))
      clear hP hend hbr
      go_wp2_with fail
      refine (HBk.out _).mono ?_
      rintro e w2 ⟨rfl, rfl⟩
      go_wp2_with fail
      refine HHd.out.mono ?_
      rintro e w3 ⟨q3, c3, rfl, hr3, hB3⟩
      have hlen := vheadL_length g b
      have hb3 : BsAt w3 q3 128 c3 (vheadL g b) := by
        rw [← hlen] at hr3
        obtain ⟨q4, c4, e4, h4⟩ := BsAt.ofRow hr3
        rw [Value.slice.injEq] at e4
        obtain ⟨rfl, -, rfl⟩ := e4
        rw [hlen] at h4; exact h4
      have hq3 : ∀ x, q3 = some x → ¬ foot c v x.block := fun x hx hf => by
        subst hx
        have := (hr3.lt x.block rfl).1
        have := foot_lt HRT.out _ hf
        omega
      have HWr := Lib.hid (rdWrite_any (a : Int) (HRT.out.below hB3) HOT.out (by omega) hb3 hq3)
      have HB3 := Lib.hid hB3
      clear hr3 hB3 hb3 hq3 HHd hlen
      unfold ptrV at *
      go_wp2_with fail
      refine HWr.out.mono ?_
      rintro e w4 ⟨rfl, hR4, hC4⟩
      have HR4 := Lib.hid hR4
      have HC4 := Lib.hid hC4
      clear hR4 hC4 HWr
      go_wp2_with fail
      go_ret
      rw [HE.out.1, HE.out.2, HEn.out]
      exact ⟨rfl, HR4.out, ((Chg.ofBelow HB1.out).trans HC.out).trans ((Chg.ofBelow HB3.out).trans HC4.out)⟩
set_option maxRecDepth 100000 in
set_option maxHeartbeats 3200000 in
theorem rvSave_any {B : Nat} {w : World} {c : Nat} {v : Value} {S : DS} (fr : Nat) (gen : Int) {p : Option Addr} {len cap : Nat} {b : List UInt8} (h : RDisk B w c v S) (hok : DSOk S) (hwr : S.wr ≤ 900000) (hb : BsAt w p len cap b) (hl : b.length ≤ 100000) (hpf : ∀ x, p = some x → b ≠ [] → ¬ foot c v x.block) (hfr : fr ≤ 100000) :
    Calls Try.prog 13 #[ptrV c, .int .i64 (fr : Int), .int .i64 gen, .slice p len cap] w fun e w' => e = .returned (.int .i64 (saveE S fr gen b)) ∧ RDisk B w' c v (saveD S fr gen b) ∧ Chg (foot c v) w w' := by
  have hsame := hb.same
  subst hsame
  by_cases hg : gen < 0 ∨ 2147483647 < gen
  · have HE := Lib.hid (show saveE S fr gen b = 8 ∧ saveD S fr gen b = S from ⟨by unfold saveE; rw [if_pos hg], by unfold saveD; rw [if_pos (.inl hg)]⟩)
    have HR := Lib.hid h
    have hc : gen < 0 ∨ (¬ gen < 0 ∧ 2147483647 < gen) := by omega
    clear h hok hwr hb hl hpf hg
    generalize b.length = n at *
    unfold ptrV
    rcases hc with h1 | ⟨h1, h2⟩
    · have d1 : decide (gen < 0) = true := by simpa using h1
      clear h1
      go_enter Try.func13, Try.ntmps13
      go_wp2_with fail
      go_ret
      exact ⟨by rw [HE.out.1]; rfl, by rw [HE.out.2]; exact HR.out, Chg.refl _ _⟩
    · have d1 : decide (gen < 0) = false := by simpa using h1
      have d2 : decide (2147483647 < gen) = true := by simpa using h2
      clear h1 h2
      go_enter Try.func13, Try.ntmps13
      go_wp2_with fail
      go_ret
      exact ⟨by rw [HE.out.1]; rfl, by rw [HE.out.2]; exact HR.out, Chg.refl _ _⟩
  · obtain ⟨g, rfl⟩ := Int.eq_ofNat_of_zero_le (show 0 ≤ gen by omega)
    by_cases hn : 255 < blkN b.length
    · have HE := Lib.hid (show saveE S fr g b = 12 ∧ saveD S fr g b = S from ⟨by unfold saveE; rw [if_neg hg, if_pos hn], by unfold saveD; rw [if_pos (.inr hn)]⟩)
      have HR := Lib.hid h
      have HBk := Lib.hid (fun V => rvBlocks_len b.length V (by omega))
      have d1 : decide ((g : Int) < 0) = false := by simp
      have d2 : decide ((2147483647 : Int) < (g : Int)) = false := by simp; omega
      have d3 : decide ((255 : Int) < ((blkN b.length : Nat) : Int)) = true := by simp; omega
      have hl9 : b.length ≤ 9223372036854775807 := by omega
      clear h hok hwr hb hl hpf hg hn
      generalize b.length = n at *
      generalize blkN n = N at *
      unfold ptrV
      go_enter Try.func13, Try.ntmps13
      go_wp2_with fail
      refine (HBk.out _).mono ?_
      rintro e w2 ⟨rfl, rfl⟩
      go_wp2_with fail
      go_ret
      exact ⟨by rw [HE.out.1]; rfl, by rw [HE.out.2]; exact HR.out, Chg.refl _ _⟩
    · exact rvSave_main fr g h hok hwr hb hpf (by omega) (by omega) hfr
end Go.Proofs.Ytbmcajhknohhdaa

/-! LawVKeeps -/
namespace Go.Proofs.Ytbmcajhknohhdaa
open Go.RowKit

set_option maxRecDepth 100000 in
set_option maxHeartbeats 12800000 in
theorem vkeeps_any (K : DiskRel) (R : VltRel) (dN : DNewC K) (dA : DArmC K) (dP : DPowerC K) (vN : VNewC K R) (vB : VBlocksC) (vS : VSaveC K R) (vL : VLoadC K R) (hA : VAliveC) (v : Value) (l : List (List UInt8)) (pl : Option Addr) (ln cl : Nat) (last : List UInt8) (xn xk : Nat) (w : World) (hl : RowsAt w v l) (hb : BsAt w pl ln cl last)
    (h1 : xn < 256) (h2 : xk < 256) :
    Calls Try.prog 4 #[v, .slice pl ln cl, .int .u8 (xn : Int), .int .u8 (xk : Int)] w fun e w' => e = .returned (.bool true) ∧ Below w.heap.size w w' := by
  have hsame := hb.same
  subst hsame
  obtain ⟨lp, lc, rfl, ll, lb, lo, lx, ly⟩ := hl.each
  have HA := Lib.hid hA
  have HLx := Lib.hid lx
  have HLy := Lib.hid ly
  have HLs := Lib.hid hb
  have hl9 : last.length ≤ 9223372036854775807 := by have := hb.le; have := hb.small; unfold maxLen at this; omega
  clear hl hA lx ly hb
  by_cases hfar : 6 < l.length ∨ 1000 < last.length
  · have hc : (6 < l.length) ∨ (¬ 6 < l.length ∧ 1000 < last.length) := by omega
    clear hfar HLx HLy HLs
    generalize l.length = a at *
    generalize last.length = b at *
    rcases hc with h3 | ⟨h3, h4⟩
    all_goals
      go_enter Try.func4, Try.ntmps4
      go_wp2_with fail
      refine (HA.out _).mono ?_
      rintro e w1 ⟨rfl, hB⟩
      have HB := Lib.hid hB
      clear hB
      go_wp2_with fail
      go_ret
      exact ⟨rfl, HB.out⟩
  have H6 := Lib.hid (show l.length ≤ 6 ∧ last.length ≤ 1000 by omega)
  have HN : Hid (Calls Try.prog 7 #[.int .i64 512] w fun e w' => ∃ b F, e = .returned (.tuple #[ptrV b, .int .i64 0]) ∧ K.At w' b (DS.new 512) F ∧ (∀ k, F k → w.heap.size ≤ k) ∧ Below w.heap.size w w') := Lib.hid (dN 512 w (by omega) (by omega))
  have HST := Lib.hid (VK.start l)
  obtain ⟨a, ha⟩ : ∃ a, a = l.length := ⟨_, rfl⟩
  obtain ⟨b, hbb⟩ : ∃ b, b = last.length := ⟨_, rfl⟩
  have HLa := Lib.hid ha
  have HLb := Lib.hid hbb
  have d1 : decide ((6 : Int) < (l.length : Int)) = false := by simp; omega
  have d2 : decide ((1000 : Int) < (last.length : Int)) = false := by simp; omega
  rw [← ha] at ll d1 ⊢
  rw [← hbb] at hl9 d2 ⊢
  clear hfar ha hbb
  go_enter Try.func4, Try.ntmps4
  go_wp2_with fail
  refine HN.out.mono ?_
  rintro e V1 ⟨db, D, rfl, hD, hown, hB1⟩
  have HJ : Hid (Calls Try.prog 8 #[ptrV db, .int .i64 0] V1 fun e w' => ∃ vb, e = .returned (.tuple #[ptrV vb, .int .i64 0]) ∧ VW K R w vb db (DS.new 512) 0 w') := Lib.hid (VW.made vN hD hown hB1 0 (by omega) (by omega))
  clear hD hown hB1 HN
  unfold ptrV at *
  go_wp2_with fail
  refine HJ.out.mono ?_
  rintro e V2 ⟨vb, rfl, hW⟩
  have HW0 := Lib.hid hW
  clear hW HJ
  unfold ptrV at *
  generalize DS.new 512 = S0 at *
  go_wp2_with fail
  go_loopw [13] (fun i wr => ∃ (k : Nat) (S : DS), k ≤ a ∧ i = .int .i64 k ∧ VK l k S ∧ VW K R w vb db S 0 wr) (fun i _ => a - (intOf i).toNat)
  case atStart => exact ⟨0, _, Nat.zero_le _, rfl, HST.out, HW0.out⟩
  case round =>
    obtain ⟨k, S, hk, rfl, hG, hW⟩ := hrel
    have HW := Lib.hid hW
    have HG := Lib.hid hG
    clear hW HW0 hG
    by_cases hlt : k < a
    · have hk2 : k < l.length := by rw [← HLa.out]; exact hlt
      have hne : l ≠ [] := by intro e; rw [e] at hk2; simp at hk2
      have hp := HLx.out hne
      obtain ⟨q, c, hx⟩ := HLy.out k hk2
      have HX := Lib.hid hx
      have hsm := (hx w (Below.refl _ _)).2.small
      have hle := (hx w (Below.refl _ _)).2.le
      have hn9 : l[k].length ≤ 9223372036854775807 := by unfold maxLen at hsm; omega
      have k0 := (hx wr HW.out.below).1
      obtain ⟨n, hn⟩ : ∃ n, n = l[k].length := ⟨_, rfl⟩
      have HNn := Lib.hid hn
      rw [← hn] at k0 hn9
      subst hp
      clear hx hsm hle hn hne
      by_cases h112 : 1000 < n
      · have d112 : decide ((1000 : Int) < (n : Int)) = true := by simp; omega
        clear h112
        go_wp2_with fail
        refine (HA.out _).mono ?_
        rintro e w1 ⟨rfl, hB⟩
        have HB := Lib.hid (HW.out.below.trans (hB.mono HW.out.below.size))
        clear hB
        go_wp2_with fail
        go_ret
        exact ⟨rfl, HB.out⟩
      · have d112 : decide ((1000 : Int) < (n : Int)) = false := by simp; omega
        have hadd := HG.out.save hk2 (by have := H6.out.1; omega) (by have := HNn.out; omega)
        have HAd := Lib.hid hadd
        have hwr := HG.out.wr
        have HC := Lib.hid (HW.out.save vS ((k + 1 : Nat) : Int) (by have := H6.out; have := HLa.out; omega) (HX.out w (Below.refl _ _)).2 (by have := HNn.out; omega))
        rw [← HNn.out, HAd.out.1, show ((k + 1 : Nat) : Int) = (k : Int) + 1 by omega] at HC
        have hkw : IntKind.i64.wrap ((k : Int) + 1) = (k : Int) + 1 := IntWalk.i64_in _ (by omega)
        clear hadd h112
        go_wp2_with fail
        refine HC.out.mono ?_
        rintro e w1 ⟨rfl, hW1⟩
        have HW1 := Lib.hid hW1
        clear hW1
        go_wp2_with fail
        go_roundw
        case rel => exact ⟨k + 1, _, by omega, by go_num, HAd.out.2, HW1.out⟩
        case measure => simp [intOf]; omega
    · obtain rfl : k = a := by omega
      have hG := HG.out
      rw [HLa.out] at hG
      have hBl := vB (b : Int) wr (by omega)
      have eb : (if (b : Int) < 1 then (0 : Int) else ((blkN ((b : Int)).toNat : Nat) : Int)) = ((blkN b : Nat) : Int) := by
        by_cases h0 : b = 0
        · subst h0; rfl
        · rw [if_neg (by omega), Int.toNat_natCast]
      rw [eb] at hBl
      have HBl := Lib.hid hBl
      have h8 : blkN b ≤ 8 := by have := H6.out.2; have := HLb.out; unfold blkN; omega
      have hxw : IntKind.i64.wrap (xn : Int) = (xn : Int) := IntWalk.i64_in _ (by omega)
      have hkw : IntKind.i64.wrap (xk : Int) = (xk : Int) := IntWalk.i64_in _ (by omega)
      have hn1 : xn % (blkN b + 2) ≤ blkN b + 1 := by have := Nat.mod_lt xn (show 0 < blkN b + 2 by omega); omega
      have hk1 : xk % 129 ≤ 128 := by omega
      have hlast := hG.last (b := last) (n := xn % (blkN b + 2)) (k := xk % 129) H6.out.1 H6.out.2 (by rw [← HLb.out]; omega) hk1
      have hwrS : S.wr ≤ 54 := by have := HG.out.wr; have := H6.out.1; have := HLa.out; omega
      rw [← HLb.out] at hlast
      have HLast := Lib.hid hlast
      have e1 : (xn : Int) % (((blkN b : Nat) : Int) + 1 + 1) = ((xn % (blkN b + 2) : Nat) : Int) := by
        rw [show ((blkN b : Nat) : Int) + 1 + 1 = ((blkN b + 2 : Nat) : Int) by omega]; exact (Int.natCast_emod _ _).symm
      have e2 : (xk : Int) % 129 = ((xk % 129 : Nat) : Int) := by omega
      have m1 : (xn : Int).tmod (((blkN b : Nat) : Int) + 1 + 1) = ((xn % (blkN b + 2) : Nat) : Int) := by rw [Int.tmod_eq_emod_of_nonneg (by omega), e1]
      clear hlt hBl eb hG hlast
      generalize blkN b = B at *
      generalize xn % (B + 2) = N at *
      generalize xk % 129 = Kp at *
      have hB1 : IntKind.i64.wrap ((B : Int) + 1) = (B : Int) + 1 := IntWalk.i64_in _ (by omega)
      have hB2 : IntKind.i64.wrap ((B : Int) + 1 + 1) = (B : Int) + 1 + 1 := IntWalk.i64_in _ (by omega)
      go_upto_region 14 with fail
      go_wp2_with fail
      refine HBl.out.mono ?_
      rintro e V4 ⟨rfl, rfl⟩
      go_upto_region 16 with fail
      simp only [e2]
      have HAr := Lib.hid (HW.out.arm dA (N : Int) (Kp : Int) (by omega))
      have hB3 : IntKind.i64.wrap (B : Int) = (B : Int) := IntWalk.i64_in _ (by omega)
      have hwA : (armS S (N : Int) (Kp : Int)).wr ≤ 900000 := by unfold armS; split <;> (show S.wr ≤ 900000; omega)
      have hk10 : k ≤ 10 := by have := H6.out.1; have := HLa.out; omega
      have hkw2 : IntKind.i64.wrap ((k : Int) + 1) = (k : Int) + 1 := IntWalk.i64_in _ (by omega)
      clear e1 e2 m1 hxw hkw hn1 hB2
      go_wp2_with fail
      refine HAr.out.mono ?_
      rintro e V5 ⟨rfl, hW5⟩
      have HW5 := Lib.hid hW5
      have hSv := hW5.save vS ((l.length + 1 : Nat) : Int) hwA HLs.out (by have := H6.out.2; omega)
      have HLd := Lib.hid HLast.out.2
      rw [HLast.out.1, ← HLb.out, show ((l.length + 1 : Nat) : Int) = (k : Int) + 1 by have := HLa.out; omega] at hSv
      rw [show ((l.length + 1 : Nat) : Int) = (k : Int) + 1 by have := HLa.out; omega] at HLd
      generalize armE (N : Int) (Kp : Int) = ea at *
      clear hW5 HAr HW hwA
      by_cases hE : N = B + 1
      · rw [if_pos hE] at hSv
        rw [if_pos (.inl hE)] at HLd
        have HSv := Lib.hid hSv
        have b1 : ((N : Int) == (B : Int) + 1) = true := by simp; omega
        clear hSv hE
        go_wp2_with fail
        refine HSv.out.mono ?_
        rintro e V6 ⟨rfl, hW6⟩
        have HPw := Lib.hid (hW6.power dP)
        clear hW6 HSv HW5
        go_wp2_with fail
        refine HPw.out.mono ?_
        rintro e V7 ⟨rfl, hW7⟩
        have HL7 : Hid (Calls Try.prog 21 #[.pointer (some ⟨vb, 0, none⟩)] V7 fun e w' => ∃ p c, e = .returned (.tuple #[.int .i64 ((k : Int) + 1), .slice p (b) c, .int .i64 (0)]) ∧ BsAt w' p (b) c (last) ∧ VW K R w vb db (powerS (saveD (armS S N Kp) 0 ((k : Int) + 1) last)) 0 w') := Lib.hid (by
          have h := hW7.load vL
          rw [HLd.out] at h
          simp only [← HLb.out, show ((l.length + 1 : Nat) : Int) = (k : Int) + 1 by have := HLa.out; omega] at h
          exact h)
        clear hW7 HPw HLd
        go_wp2_with fail
        refine HL7.out.mono ?_
        rintro e V8 ⟨p8, c8, rfl, hb8, hW8⟩
        have HB8 := Lib.hid hW8.below
        have HS8 := Lib.hid hb8
        clear hW8 hb8 HL7
        clear HLast
        have q1 := run_string_bs (P := Try.prog) V8 31 5 9 Try.underlying31 Try.underlying5 Try.underlying9 HS8.out
        have q2 := run_string_bs (P := Try.prog) V8 31 5 9 Try.underlying31 Try.underlying5 Try.underlying9 (HLs.out.below HB8.out (Nat.le_refl _))
        rw [← HLb.out] at q2
        generalize (⟨last.toArray⟩ : ByteArray) = X at *
        go_wp2_with fail
        refine (HA.out _).mono ?_
        rintro e V9 ⟨rfl, hB9⟩
        have HB9 := Lib.hid (HB8.out.trans (hB9.mono HB8.out.size))
        clear hB9
        go_wp2_with fail
        go_ret
        exact ⟨rfl, HB9.out⟩
      · rw [if_neg hE] at hSv
        have HSv := Lib.hid hSv
        have b1 : ((N : Int) == (B : Int) + 1) = false := by simp; omega
        by_cases hfull : N = B ∧ Kp = 128
        · rw [if_pos (.inr hfull)] at HLd
          have HFl := Lib.hid hfull
          clear hSv hE hfull
          go_wp2_with fail
          refine HSv.out.mono ?_
          rintro e V6 ⟨rfl, hW6⟩
          have HPw := Lib.hid (hW6.power dP)
          clear hW6 HSv HW5
          go_wp2_with fail
          refine HPw.out.mono ?_
          rintro e V7 ⟨rfl, hW7⟩
          have HL7 : Hid (Calls Try.prog 21 #[.pointer (some ⟨vb, 0, none⟩)] V7 fun e w' => ∃ p c, e = .returned (.tuple #[.int .i64 ((k : Int) + 1), .slice p (b) c, .int .i64 (0)]) ∧ BsAt w' p (b) c (last) ∧ VW K R w vb db (powerS (saveD (armS S N Kp) 0 ((k : Int) + 1) last)) 0 w') := Lib.hid (by
            have h := hW7.load vL
            rw [HLd.out] at h
            simp only [← HLb.out, show ((l.length + 1 : Nat) : Int) = (k : Int) + 1 by have := HLa.out; omega] at h
            exact h)
          clear hW7 HPw HLd
          go_wp2_with fail
          refine HL7.out.mono ?_
          rintro e V8 ⟨p8, c8, rfl, hb8, hW8⟩
          have HB8 := Lib.hid hW8.below
          have HS8 := Lib.hid hb8
          clear hW8 hb8 HL7
          go_upto_region 22 with fail
          obtain ⟨wh, hwh⟩ : ∃ wh : Bool, wh = decide (N = B ∧ Kp = 128) := ⟨_, rfl⟩
          go_cut [123] (fun s wx => s = .bool wh ∧ wx = V8)
          case first =>
            by_cases h1 : N = B
            · have b2 : ((N : Int) == (B : Int)) = true := by simp; omega
              by_cases h2 : Kp = 128
              · have b3 : ((Kp : Int) == 128) = true := by simp; omega
                have hf : wh = true := by rw [hwh]; simp [h1, h2]
                clear hwh h1 h2
                subst hf
                go_wp2_with fail
                go_meet
                exact ⟨rfl, rfl⟩
              · have b3 : ((Kp : Int) == 128) = false := by simp; omega
                have hf : wh = false := by rw [hwh]; simp [h2]
                clear hwh h1 h2
                subst hf
                go_wp2_with fail
                go_meet
                exact ⟨rfl, rfl⟩
            · have b2 : ((N : Int) == (B : Int)) = false := by simp; omega
              have hf : wh = false := by rw [hwh]; simp [h1]
              clear hwh h1
              subst hf
              go_wp2_with fail
              go_meet
              exact ⟨rfl, rfl⟩
          case rest =>
          obtain ⟨rfl, rfl⟩ := hcut
          have hf : wh = true := by rw [hwh]; simpa using HFl.out
          clear hwh HFl HLast
          subst hf
          have q1 := run_string_bs (P := Try.prog) wc 31 5 9 Try.underlying31 Try.underlying5 Try.underlying9 HS8.out
          have q2 := run_string_bs (P := Try.prog) wc 31 5 9 Try.underlying31 Try.underlying5 Try.underlying9 (HLs.out.below HB8.out (Nat.le_refl _))
          rw [← HLb.out] at q2
          generalize (⟨last.toArray⟩ : ByteArray) = X at *
          go_wp2_with fail
          refine (HA.out _).mono ?_
          rintro e V9 ⟨rfl, hB9⟩
          have HB9 := Lib.hid (HB8.out.trans (hB9.mono HB8.out.size))
          clear hB9
          go_wp2_with fail
          go_ret
          exact ⟨rfl, HB9.out⟩
        · rw [if_neg (by rintro (h | h); exact hE h; exact hfull h)] at HLd
          have HFl := Lib.hid hfull
          clear hfull
          by_cases h0 : k = 0
          · rw [if_pos (by rw [← HLa.out]; exact h0)] at HLd
            have HK0 := Lib.hid h0
            clear hSv hE h0
            go_wp2_with fail
            refine HSv.out.mono ?_
            rintro e V6 ⟨rfl, hW6⟩
            have HPw := Lib.hid (hW6.power dP)
            clear hW6 HSv HW5
            go_wp2_with fail
            refine HPw.out.mono ?_
            rintro e V7 ⟨rfl, hW7⟩
            have HL7 : Hid (Calls Try.prog 21 #[.pointer (some ⟨vb, 0, none⟩)] V7 fun e w' => ∃ p c, e = .returned (.tuple #[.int .i64 (0), .slice p (0) c, .int .i64 (6)]) ∧ BsAt w' p (0) c ([]) ∧ VW K R w vb db (powerS (saveD (armS S N Kp) 0 ((k : Int) + 1) last)) 0 w') := Lib.hid (by
              have h := hW7.load vL
              rw [HLd.out] at h
              exact h)
            clear hW7 HPw HLd
            go_wp2_with fail
            refine HL7.out.mono ?_
            rintro e V8 ⟨p8, c8, rfl, hb8, hW8⟩
            have HB8 := Lib.hid hW8.below
            have HS8 := Lib.hid hb8
            clear hW8 hb8 HL7
            go_upto_region 22 with fail
            obtain ⟨wh, hwh⟩ : ∃ wh : Bool, wh = decide (N = B ∧ Kp = 128) := ⟨_, rfl⟩
            go_cut [123] (fun s wx => s = .bool wh ∧ wx = V8)
            case first =>
              by_cases h1 : N = B
              · have b2 : ((N : Int) == (B : Int)) = true := by simp; omega
                by_cases h2 : Kp = 128
                · have b3 : ((Kp : Int) == 128) = true := by simp; omega
                  have hf : wh = true := by rw [hwh]; simp [h1, h2]
                  clear hwh h1 h2
                  subst hf
                  go_wp2_with fail
                  go_meet
                  exact ⟨rfl, rfl⟩
                · have b3 : ((Kp : Int) == 128) = false := by simp; omega
                  have hf : wh = false := by rw [hwh]; simp [h2]
                  clear hwh h1 h2
                  subst hf
                  go_wp2_with fail
                  go_meet
                  exact ⟨rfl, rfl⟩
              · have b2 : ((N : Int) == (B : Int)) = false := by simp; omega
                have hf : wh = false := by rw [hwh]; simp [h1]
                clear hwh h1
                subst hf
                go_wp2_with fail
                go_meet
                exact ⟨rfl, rfl⟩
            case rest =>
            obtain ⟨rfl, rfl⟩ := hcut
            have hf : wh = false := by rw [hwh]; simpa using HFl.out
            clear hwh HFl HLast
            subst hf
            have b4 : ((k : Int) == 0) = true := by have := HK0.out; simp; omega
            go_wp2_with fail
            refine (HA.out _).mono ?_
            rintro e V9 ⟨rfl, hB9⟩
            have HB9 := Lib.hid (HB8.out.trans (hB9.mono HB8.out.size))
            clear hB9
            go_wp2_with fail
            go_ret
            exact ⟨rfl, HB9.out⟩
          · rw [if_neg (by rw [← HLa.out]; exact h0)] at HLd
            have HK0 := Lib.hid h0
            clear hSv hE h0
            have hk1 : k - 1 < l.length := by have := HLa.out; have := HK0.out; omega
            have hne : l ≠ [] := by intro e; rw [e] at hk1; simp at hk1
            have hp := HLx.out hne
            obtain ⟨q, c, hx⟩ := HLy.out (k - 1) hk1
            have eg : l.getD (l.length - 1) [] = l[k - 1] := by rw [← HLa.out, List.getD, List.getElem?_eq_getElem hk1]; rfl
            obtain ⟨m, hm⟩ : ∃ m, m = l[k - 1].length := ⟨_, rfl⟩
            have HM := Lib.hid hm
            clear hm
            go_wp2_with fail
            refine HSv.out.mono ?_
            rintro e V6 ⟨rfl, hW6⟩
            have HPw := Lib.hid (hW6.power dP)
            clear hW6 HSv HW5
            go_wp2_with fail
            refine HPw.out.mono ?_
            rintro e V7 ⟨rfl, hW7⟩
            have HL7 : Hid (Calls Try.prog 21 #[.pointer (some ⟨vb, 0, none⟩)] V7 fun e w' => ∃ p c, e = .returned (.tuple #[.int .i64 ((k : Int)), .slice p (m) c, .int .i64 (0)]) ∧ BsAt w' p (m) c (l[k - 1]) ∧ VW K R w vb db (powerS (saveD (armS S N Kp) 0 ((k : Int) + 1) last)) 0 w') := Lib.hid (by
              have h := hW7.load vL
              rw [HLd.out] at h
              simp only [eg, ← HM.out, show (l.length : Int) = (k : Int) by have := HLa.out; omega] at h
              exact h)
            clear hW7 HPw HLd
            go_wp2_with fail
            refine HL7.out.mono ?_
            rintro e V8 ⟨p8, c8, rfl, hb8, hW8⟩
            have HB8 := Lib.hid hW8.below
            have HS8 := Lib.hid hb8
            clear hW8 hb8 HL7
            go_upto_region 22 with fail
            obtain ⟨wh, hwh⟩ : ∃ wh : Bool, wh = decide (N = B ∧ Kp = 128) := ⟨_, rfl⟩
            go_cut [123] (fun s wx => s = .bool wh ∧ wx = V8)
            case first =>
              by_cases h1 : N = B
              · have b2 : ((N : Int) == (B : Int)) = true := by simp; omega
                by_cases h2 : Kp = 128
                · have b3 : ((Kp : Int) == 128) = true := by simp; omega
                  have hf : wh = true := by rw [hwh]; simp [h1, h2]
                  clear hwh h1 h2
                  subst hf
                  go_wp2_with fail
                  go_meet
                  exact ⟨rfl, rfl⟩
                · have b3 : ((Kp : Int) == 128) = false := by simp; omega
                  have hf : wh = false := by rw [hwh]; simp [h2]
                  clear hwh h1 h2
                  subst hf
                  go_wp2_with fail
                  go_meet
                  exact ⟨rfl, rfl⟩
              · have b2 : ((N : Int) == (B : Int)) = false := by simp; omega
                have hf : wh = false := by rw [hwh]; simp [h1]
                clear hwh h1
                subst hf
                go_wp2_with fail
                go_meet
                exact ⟨rfl, rfl⟩
            case rest =>
            obtain ⟨rfl, rfl⟩ := hcut
            have hf : wh = false := by rw [hwh]; simpa using HFl.out
            clear hwh HFl HLast
            subst hf
            have b4 : ((k : Int) == 0) = false := by have := HK0.out; simp; omega
            have HX := Lib.hid (fun V (hV : Below w.heap.size w V) => And.intro (hx V hV).1 (run_string_bs (P := Try.prog) V 31 5 9 Try.underlying31 Try.underlying5 Try.underlying9 (hx V hV).2))
            have HY := Lib.hid (fun V (hV : Below wc.heap.size wc V) => run_string_bs (P := Try.prog) V 31 5 9 Try.underlying31 Try.underlying5 Try.underlying9 (HS8.out.below hV (Nat.le_refl _)))
            have HK := Lib.hid (show (0 : Int) ≤ (k : Int) - 1 ∧ (k : Int) - 1 < (k : Int) ∧ ((k : Int) - 1).toNat = k - 1 from by have := HK0.out; exact ⟨by omega, by omega, by omega⟩)
            have hkw2 : IntKind.i64.wrap ((k : Int) - 1) = (k : Int) - 1 := IntWalk.i64_in _ (by omega)
            rw [← HM.out] at HX
            subst hp
            clear hx HS8 eg hne
            generalize (⟨l[k - 1].toArray⟩ : ByteArray) = X at *
            go_upto_region 26 with fail
            refine wp_region_S (fun _ V => Below wc.heap.size wc V) 0 [.val (.int .i64 (k : Int)), .val (.slice (some ⟨lb, lo, none⟩) k lc), .val (.int .i64 (k : Int)), .val (.bool true), .val (.bool true), .val (.slice p8 m c8), .val (.string X), .val (.slice (some ⟨lb, lo, none⟩) k lc), .val (.slice (some ⟨lb, lo, none⟩) k lc), .val (.int .i64 (k : Int)), .val (.int .i64 ((k : Int) - 1)), .val (.pointer (some ⟨lb, lo + (k - 1), none⟩)), .val (.slice q m c), .val (.string X), .val (.bool true), .val (.bool true), .val (.bool true), .val (.int .i64 0), .val (.bool true), .val (.bool true), .val (.bool true), .val (.bool true), .val (.bool true), .val (.bool true)]
              (fun x => { tmps := #[.slice (some ⟨lb, lo, none⟩) k lc, .slice pl b cl, .int .u8 (xn : Int), .int .u8 (xk : Int), undef, undef, undef, undef, x 23, .pointer (some ⟨db, 0, none⟩), .int .i64 0, .pointer (some ⟨vb, 0, none⟩), .int .i64 0, .int .i64 (k : Int), .int .i64 ((B : Int) + 1), .int .i64 (N : Int), .int .i64 (Kp : Int), .int .i64 19, .int .i64 (k : Int), .slice p8 m c8, .int .i64 0, u21, u22, u23, u24, u25, u26, u27, u28, u29, u30, u31, u32, u33, u34, u35, u36, u37, u38, u39, u40, u41, u42, u43, u44, u45, u46, u47, u48, u49, u50, u51, u52, u53, u54, u55, u56, u57, u58, u59, u60, u61, u62, u63, u64, u65, u66, u67, u68, u69, u70, u71, u72, u73, u74, u75, u76, u77, u78, u79, u80, u81, u82, u83, u84, u85, u86, u87, u88, u89, u90, u91, u92, u93, u94, u95, u96, u97, u98, u99, u100, u101, u102, u103, u104, u105, u106, u107, u108, u109, u110, u111, u112, u113, u114, u115, u116, u117, u118, u119, u120, u121, u122, .bool false, u124, u125, u126, u127, u128, u129, u130, u131, u132, u133, u134, u135, u136, u137, u138, u139, u140, u141, u142, .slice (some ⟨lb, lo, none⟩) k lc, .int .i64 (k : Int), .bool false, u146, u147, u148, u149, u150, u151, u152, u153, u154, u155, u156, u157, u158, u159, x 0, x 1, x 2, x 3, x 4, x 5, x 6, x 7, x 8, x 9, x 10, x 11, x 12, x 13, x 14, x 15, x 16, x 17, x 18, x 19, x 20, x 21, x 22], defers := [] }) (fun i => ([u160, u161, u162, u163, u164, u165, u166, u167, u168, u169, u170, u171, u172, u173, u174, u175, u176, u177, u178, u179, u180, u181, u182, u8] : List Value).getD i undef) (by kernel_rfl) rfl rfl (by kernel_rfl) (by kernel_rfl) (by kernel_rfl) (by kernel_rfl) ((Below.refl _ _).drew) ?_ ?_
            · refine ⟨ObS.of_val rfl (fun x v => rfl) (fun x V kst hC hD => ?_), ?_⟩
              · clear hD
                refine want_yes rfl ?_
                exact leads_value (v := .int .i64 (k : Int)) (by go_simp) ⟨rfl, hC⟩
              refine ⟨ObS.of_val rfl (fun x v => rfl) (fun x V kst hC hD => ?_), ?_⟩
              · clear hD
                refine want_yes rfl ?_
                exact leads_value (v := .slice (some ⟨lb, lo, none⟩) k lc) (by go_simp) ⟨rfl, hC⟩
              refine ⟨ObS.of_val rfl (fun x v => rfl) (fun x V kst hC hD => ?_), ?_⟩
              · have e1 : x 1 = .slice (some ⟨lb, lo, none⟩) k lc := hD.1 rfl
                clear hD
                refine want_yes rfl ?_
                exact leads_value (v := .int .i64 (k : Int)) (by go_simp) ⟨rfl, hC⟩
              refine ⟨ObS.of_val rfl (fun x v => rfl) (fun x V kst hC hD => ?_), ?_⟩
              · have e0 : x 0 = .int .i64 (k : Int) := hD.1 rfl
                have e2 : x 2 = .int .i64 (k : Int) := hD.2.1 rfl
                clear hD
                refine want_yes rfl ?_
                exact leads_value (v := .bool true) (by go_simp) ⟨rfl, hC⟩
              refine ⟨ObS.of_val rfl (fun x v => rfl) (fun x V kst hC hD => ?_), ?_⟩
              · have e3 : x 3 = .bool true := hD.1 rfl
                clear hD
                refine want_yes rfl ?_
                exact leads_value (v := .bool true) (by go_simp) ⟨rfl, hC⟩
              refine ⟨ObS.of_val rfl (fun x v => rfl) (fun x V kst hC hD => ?_), ?_⟩
              · have e4 : x 4 = .bool true := hD.1 rfl
                clear hD
                refine want_yes (by simp [Region.wanted, yielded, e4]) ?_
                exact leads_value (v := .slice p8 m c8) (by go_simp) ⟨rfl, hC⟩
              refine ⟨ObS.of_val rfl (fun x v => rfl) (fun x V kst hC hD => ?_), ?_⟩
              · have e5 : x 5 = .slice p8 m c8 := hD.1 rfl
                have e4 : x 4 = .bool true := hD.2.1 rfl
                clear hD
                refine want_yes (by simp [Region.wanted, yielded, e4]) ?_
                have k0 := HY.out V hC
                exact leads_value (v := .string X) (by go_simp) ⟨rfl, hC⟩
              refine ⟨ObS.of_val rfl (fun x v => rfl) (fun x V kst hC hD => ?_), ?_⟩
              · have e4 : x 4 = .bool true := hD.1 rfl
                clear hD
                refine want_yes (by simp [Region.wanted, yielded, e4]) ?_
                exact leads_value (v := .slice (some ⟨lb, lo, none⟩) k lc) (by go_simp) ⟨rfl, hC⟩
              refine ⟨ObS.of_val rfl (fun x v => rfl) (fun x V kst hC hD => ?_), ?_⟩
              · have e4 : x 4 = .bool true := hD.1 rfl
                clear hD
                refine want_yes (by simp [Region.wanted, yielded, e4]) ?_
                exact leads_value (v := .slice (some ⟨lb, lo, none⟩) k lc) (by go_simp) ⟨rfl, hC⟩
              refine ⟨ObS.of_val rfl (fun x v => rfl) (fun x V kst hC hD => ?_), ?_⟩
              · have e8 : x 8 = .slice (some ⟨lb, lo, none⟩) k lc := hD.1 rfl
                have e4 : x 4 = .bool true := hD.2.1 rfl
                clear hD
                refine want_yes (by simp [Region.wanted, yielded, e4]) ?_
                exact leads_value (v := .int .i64 (k : Int)) (by go_simp) ⟨rfl, hC⟩
              refine ⟨ObS.of_val rfl (fun x v => rfl) (fun x V kst hC hD => ?_), ?_⟩
              · have e9 : x 9 = .int .i64 (k : Int) := hD.1 rfl
                have e4 : x 4 = .bool true := hD.2.1 rfl
                clear hD
                refine want_yes (by simp [Region.wanted, yielded, e4]) ?_
                have q0 := hkw2
                exact leads_value (v := .int .i64 ((k : Int) - 1)) (by go_simp) ⟨rfl, hC⟩
              refine ⟨ObS.of_val rfl (fun x v => rfl) (fun x V kst hC hD => ?_), ?_⟩
              · have e7 : x 7 = .slice (some ⟨lb, lo, none⟩) k lc := hD.1 rfl
                have e10 : x 10 = .int .i64 ((k : Int) - 1) := hD.2.1 rfl
                have e4 : x 4 = .bool true := hD.2.2.1 rfl
                clear hD
                refine want_yes (by simp [Region.wanted, yielded, e4]) ?_
                have q0 := HK.out.1
                have q1 := HK.out.2.1
                have q2 := HK.out.2.2
                have q3 : ¬ ((k : Int) < 1) := by have := HK0.out; omega
                exact leads_value (v := .pointer (some ⟨lb, lo + (k - 1), none⟩)) (by go_simp) ⟨rfl, hC⟩
              refine ⟨ObS.of_val rfl (fun x v => rfl) (fun x V kst hC hD => ?_), ?_⟩
              · have e11 : x 11 = .pointer (some ⟨lb, lo + (k - 1), none⟩) := hD.1 rfl
                have e4 : x 4 = .bool true := hD.2.1 rfl
                clear hD
                refine want_yes (by simp [Region.wanted, yielded, e4]) ?_
                have k0 := (HX.out V (HB8.out.trans (hC.mono HB8.out.size))).1
                exact leads_value (v := .slice q m c) (by go_simp) ⟨rfl, hC⟩
              refine ⟨ObS.of_val rfl (fun x v => rfl) (fun x V kst hC hD => ?_), ?_⟩
              · have e12 : x 12 = .slice q m c := hD.1 rfl
                have e4 : x 4 = .bool true := hD.2.1 rfl
                clear hD
                refine want_yes (by simp [Region.wanted, yielded, e4]) ?_
                have k0 := (HX.out V (HB8.out.trans (hC.mono HB8.out.size))).2
                exact leads_value (v := .string X) (by go_simp) ⟨rfl, hC⟩
              refine ⟨ObS.of_val rfl (fun x v => rfl) (fun x V kst hC hD => ?_), ?_⟩
              · have e6 : x 6 = .string X := hD.1 rfl
                have e13 : x 13 = .string X := hD.2.1 rfl
                have e4 : x 4 = .bool true := hD.2.2.1 rfl
                clear hD
                refine want_yes (by simp [Region.wanted, yielded, e4]) ?_
                exact leads_value (v := .bool true) (by go_simp) ⟨rfl, hC⟩
              refine ⟨ObS.of_val rfl (fun x v => rfl) (fun x V kst hC hD => ?_), ?_⟩
              · have e4 : x 4 = .bool true := hD.1 rfl
                have e14 : x 14 = .bool true := hD.2.1 rfl
                clear hD
                refine want_yes rfl ?_
                exact leads_value (v := .bool true) (by go_simp) ⟨rfl, hC⟩
              refine ⟨ObS.of_val rfl (fun x v => rfl) (fun x V kst hC hD => ?_), ?_⟩
              · have e15 : x 15 = .bool true := hD.1 rfl
                have e4 : x 4 = .bool true := hD.2.1 rfl
                clear hD
                refine want_yes rfl ?_
                exact leads_value (v := .bool true) (by go_simp) ⟨rfl, hC⟩
              refine ⟨ObS.of_val rfl (fun x v => rfl) (fun x V kst hC hD => ?_), ?_⟩
              · have e16 : x 16 = .bool true := hD.1 rfl
                clear hD
                refine want_yes (by simp [Region.wanted, yielded, e16]) ?_
                exact leads_value (v := .int .i64 0) (by go_simp) ⟨rfl, hC⟩
              refine ⟨ObS.of_val rfl (fun x v => rfl) (fun x V kst hC hD => ?_), ?_⟩
              · have e17 : x 17 = .int .i64 0 := hD.1 rfl
                have e16 : x 16 = .bool true := hD.2.1 rfl
                clear hD
                refine want_yes (by simp [Region.wanted, yielded, e16]) ?_
                exact leads_value (v := .bool true) (by go_simp) ⟨rfl, hC⟩
              refine ⟨ObS.of_val rfl (fun x v => rfl) (fun x V kst hC hD => ?_), ?_⟩
              · have e16 : x 16 = .bool true := hD.1 rfl
                have e18 : x 18 = .bool true := hD.2.1 rfl
                clear hD
                refine want_yes rfl ?_
                exact leads_value (v := .bool true) (by go_simp) ⟨rfl, hC⟩
              refine ⟨ObS.of_val rfl (fun x v => rfl) (fun x V kst hC hD => ?_), ?_⟩
              · have e19 : x 19 = .bool true := hD.1 rfl
                have e16 : x 16 = .bool true := hD.2.1 rfl
                clear hD
                refine want_yes rfl ?_
                exact leads_value (v := .bool true) (by go_simp) ⟨rfl, hC⟩
              refine ⟨ObS.of_val rfl (fun x v => rfl) (fun x V kst hC hD => ?_), ?_⟩
              · have e20 : x 20 = .bool true := hD.1 rfl
                clear hD
                refine want_yes (by simp [Region.wanted, yielded, e20]) ?_
                exact leads_enter2 (by go_simp) ((HA.out V).mono fun e w'' ⟨he, hB⟩ => ⟨_, he, rfl, hC.trans (hB.mono hC.size)⟩)
              refine ⟨ObS.of_val rfl (fun x v => rfl) (fun x V kst hC hD => ?_), ?_⟩
              · have e20 : x 20 = .bool true := hD.1 rfl
                have e21 : x 21 = .bool true := hD.2.1 rfl
                clear hD
                refine want_yes rfl ?_
                exact leads_value (v := .bool true) (by go_simp) ⟨rfl, hC⟩
              refine ⟨ObS.of_val rfl (fun x v => rfl) (fun x V kst hC hD => ?_), ?_⟩
              · have e22 : x 22 = .bool true := hD.1 rfl
                have e21 : x 21 = .bool true := hD.2.1 rfl
                have e0 : x 0 = .int .i64 (k : Int) := hD.2.2.1 rfl
                have e1 : x 1 = .slice (some ⟨lb, lo, none⟩) k lc := hD.2.2.2.1 rfl
                have e2 : x 2 = .int .i64 (k : Int) := hD.2.2.2.2.1 rfl
                have e3 : x 3 = .bool true := hD.2.2.2.2.2.1 rfl
                have e4 : x 4 = .bool true := hD.2.2.2.2.2.2.1 rfl
                have e5 : x 5 = .slice p8 m c8 := hD.2.2.2.2.2.2.2.1 rfl
                have e6 : x 6 = .string X := hD.2.2.2.2.2.2.2.2.1 rfl
                have e7 : x 7 = .slice (some ⟨lb, lo, none⟩) k lc := hD.2.2.2.2.2.2.2.2.2.1 rfl
                have e8 : x 8 = .slice (some ⟨lb, lo, none⟩) k lc := hD.2.2.2.2.2.2.2.2.2.2.1 rfl
                have e9 : x 9 = .int .i64 (k : Int) := hD.2.2.2.2.2.2.2.2.2.2.2.1 rfl
                have e10 : x 10 = .int .i64 ((k : Int) - 1) := hD.2.2.2.2.2.2.2.2.2.2.2.2.1 rfl
                have e11 : x 11 = .pointer (some ⟨lb, lo + (k - 1), none⟩) := hD.2.2.2.2.2.2.2.2.2.2.2.2.2.1 rfl
                have e12 : x 12 = .slice q m c := hD.2.2.2.2.2.2.2.2.2.2.2.2.2.2.1 rfl
                have e13 : x 13 = .string X := hD.2.2.2.2.2.2.2.2.2.2.2.2.2.2.2.1 rfl
                have e14 : x 14 = .bool true := hD.2.2.2.2.2.2.2.2.2.2.2.2.2.2.2.2.1 rfl
                have e15 : x 15 = .bool true := hD.2.2.2.2.2.2.2.2.2.2.2.2.2.2.2.2.2.1 rfl
                have e16 : x 16 = .bool true := hD.2.2.2.2.2.2.2.2.2.2.2.2.2.2.2.2.2.2.1 rfl
                have e17 : x 17 = .int .i64 0 := hD.2.2.2.2.2.2.2.2.2.2.2.2.2.2.2.2.2.2.2.1 rfl
                have e18 : x 18 = .bool true := hD.2.2.2.2.2.2.2.2.2.2.2.2.2.2.2.2.2.2.2.2.1 rfl
                have e19 : x 19 = .bool true := hD.2.2.2.2.2.2.2.2.2.2.2.2.2.2.2.2.2.2.2.2.2.1 rfl
                have e20 : x 20 = .bool true := hD.2.2.2.2.2.2.2.2.2.2.2.2.2.2.2.2.2.2.2.2.2.2.1 rfl
                clear hD
                refine want_yes rfl ?_
                exact leads_value (v := .bool true) (by go_simp) ⟨rfl, hC⟩
              trivial
            · intro x1 V hC hF
              have e23 : x1 23 = .bool true := hF 23 (by simp)
              have HV := Lib.hid (HB8.out.trans ((show Below wc.heap.size wc V from hC).mono HB8.out.size))
              clear hC hF
              rw [e23]
              clear e23
              go_wp2_with fail
              go_ret
              exact ⟨rfl, HV.out⟩
end Go.Proofs.Ytbmcajhknohhdaa

/-! LawVNobody -/
namespace Go.Proofs.Ytbmcajhknohhdaa
open Go.RowKit

/-- The cells of a vault that nobody made. -/
def vzCells : Array Value := #[.pointer none, .int .i64 0]
/-- A nil vault, or one that New did not return. -/
def NobVv (w : World) (v : Value) : Prop := v = .pointer none ∨ ∃ b, v = ptrV b ∧ Blk w b vzCells 58
theorem NobVv.below {w w' : World} {v : Value} (h : NobVv w v) (hB : Below w.heap.size w w') : NobVv w' v := by
  rcases h with h | ⟨b, h1, h2⟩
  · exact .inl h
  · exact .inr ⟨b, h1, h2.below hB h2.lt⟩
def NobLoadC : Prop := ∀ (w : World) (v : Value), NobVv w v → Calls Try.prog 21 #[v] w fun e w' => ∃ p c, e = .returned (.tuple #[.int .i64 0, .slice p 0 c, .int .i64 2]) ∧ Below w.heap.size w w'
def NobSaveC : Prop := ∀ (w : World) (v : Value) (gen : Int) (p : Option Addr) (len cap : Nat), NobVv w v → Calls Try.prog 12 #[v, .int .i64 gen, .slice p len cap] w fun e w' => e = .returned (.int .i64 2) ∧ Below w.heap.size w w'
set_option maxRecDepth 100000 in
set_option maxHeartbeats 3200000 in
theorem vnobody_any (nL : NobLoadC) (nS : NobSaveC) (nN : VNewNilC) (hA : VAliveC) (gen : Int) (p : Option Addr) (len cap : Nat) (w : World) :
    Calls Try.prog 6 #[.int .i64 gen, .slice p len cap] w fun e w' => e = .returned (.bool true) ∧ Below w.heap.size w w' := by
  have HA := Lib.hid hA
  have HL := Lib.hid nL
  have HS0 := Lib.hid nS
  have HN := Lib.hid nN
  obtain ⟨W2, hW2⟩ : ∃ W2, W2 = (w.alloc (.cells vzCells 58)).alloc (.cells #[.pointer none, .pointer (some ⟨w.heap.size, 0, none⟩)] 27) := ⟨_, rfl⟩
  have HB2 := Lib.hid (show Below w.heap.size w W2 by rw [hW2]; exact (belowNew w _).alloc (belowNew w _).size _)
  have HS := Lib.hid (show Blk W2 (w.heap.size + 1) #[.pointer none, .pointer (some ⟨w.heap.size, 0, none⟩)] 27 by
    have := Blk.new (w.alloc (.cells vzCells 58)) #[.pointer none, .pointer (some ⟨w.heap.size, 0, none⟩)] 27
    rw [show (w.alloc (.cells vzCells 58)).heap.size = w.heap.size + 1 by simp] at this
    rw [hW2]; exact this)
  have HZ := Lib.hid (show NobVv W2 (.pointer (some ⟨w.heap.size, 0, none⟩)) from .inr ⟨w.heap.size, rfl, by
    rw [hW2]; exact (Blk.new w vzCells 58).alloc _⟩)
  unfold vzCells at hW2
  clear hA nL nS nN
  go_enter Try.func6, Try.ntmps6
  go_upto_region 2 with fail
  rw [← hW2]
  have hs2 : w.heap.size + 1 < W2.heap.size := HS.out.lt
  obtain ⟨s, hs⟩ : ∃ s, s = w.heap.size := ⟨_, rfl⟩
  rw [← hs] at HS HZ hs2 ⊢
  clear hW2 hs
  go_loopw [16] (fun i wr => ∃ k : Nat, k ≤ 2 ∧ i = .int .i64 k ∧ Below W2.heap.size W2 wr) (fun i _ => 2 - (intOf i).toNat)
  case atStart => exact ⟨0, by omega, rfl, Below.refl _ _⟩
  case round =>
    obtain ⟨k, hk, rfl, hB⟩ := hrel
    have HB := Lib.hid hB
    clear hB
    by_cases hlt : k < 2
    · obtain ⟨pv, hpv, hnob⟩ : ∃ pv, wr.cell? ⟨s + 1, k, none⟩ = some pv ∧ NobVv W2 pv := by
        have hc : k = 0 ∨ k = 1 := by omega
        rcases hc with rfl | rfl
        · exact ⟨.pointer none, (HB.out.cell (p := ⟨s + 1, 0, none⟩) hs2).trans (HS.out.cell 0), .inl rfl⟩
        · exact ⟨.pointer (some ⟨s, 0, none⟩), (HB.out.cell (p := ⟨s + 1, 1, none⟩) hs2).trans (HS.out.cell 1), HZ.out⟩
      have HNv := Lib.hid hnob
      clear hnob
      have h1 := Lib.hid (HL.out wr pv (HNv.out.below HB.out))
      go_wp2_with fail
      refine h1.out.mono ?_
      rintro e V1 ⟨q, c, rfl, hB1⟩
      have HB1 := Lib.hid (HB.out.trans (hB1.mono HB.out.size))
      have h2 := Lib.hid (HS0.out V1 pv gen p len cap (HNv.out.below HB1.out))
      clear hB1 h1
      go_wp2_with fail
      refine h2.out.mono ?_
      rintro e V2 ⟨rfl, hB2⟩
      have HB6 := Lib.hid (HB1.out.trans (hB2.mono HB1.out.size))
      clear hB2 h2 HB1 hpv
      go_wp2_with fail
      go_roundw
      case rel => exact ⟨k + 1, by omega, by go_num, HB6.out⟩
      case measure => simp [intOf]; omega
    · have HBw := Lib.hid (HB2.out.trans (HB.out.mono HB2.out.size))
      have h1 := Lib.hid (HN.out wr)
      go_wp2_with fail
      refine h1.out.mono ?_
      rintro e V1 ⟨rfl, hB1⟩
      have HB1 := Lib.hid (HBw.out.trans (hB1.mono HBw.out.size))
      clear hB1 h1
      go_wp2_with fail
      refine (HA.out _).mono ?_
      rintro e V2 ⟨rfl, hB2⟩
      have HB3 := Lib.hid (HB1.out.trans (hB2.mono HB1.out.size))
      clear hB2
      go_wp2_with fail
      go_ret
      exact ⟨rfl, HB3.out⟩
end Go.Proofs.Ytbmcajhknohhdaa

/-! VltV -/
namespace Go.Proofs.Ytbmcajhknohhdaa
open Go.RowKit

structure VAF (S0 S1 S2 S3 S4 S5 : DS) : Prop where
  q1 : S1 = saveD S0 8 1 [111, 110, 101]
  q2 : S2 = armS S1 1 127
  q3 : S3 = saveD S2 8 2 [116, 119, 111]
  q4 : S4 = powerS S3
  q5 : S5 = saveD S4 8 2 []
  w0 : S0.wr ≤ 900000
  r0 : loadR S0 8 = ⟨0, [], 6⟩
  e1 : saveE S0 8 1 [111, 110, 101] = 0
  w2 : S2.wr ≤ 900000
  e3 : saveE S2 8 2 [116, 119, 111] = 19
  r4 : loadR S4 8 = ⟨1, [111, 110, 101], 0⟩
  w4 : S4.wr ≤ 900000
  e5 : saveE S4 8 2 [] = 0
  r5 : loadR S5 8 = ⟨2, [], 0⟩
theorem vafacts (S0 : DS) (ok0 : DSOk S0) (l0 : S0.len = 520) (o0 : S0.off = false) (f0 : S0.fuse = -1) (w0 : S0.wr = 0) (hz : ∀ j, j < 520 → blockL S0 j = zeros 128) : ∃ S1 S2 S3 S4 S5, VAF S0 S1 S2 S3 S4 S5 := by
  obtain ⟨S1, q1⟩ : ∃ S, S = saveD S0 8 1 [111, 110, 101] := ⟨_, rfl⟩
  obtain ⟨S2, q2⟩ : ∃ S, S = armS S1 1 127 := ⟨_, rfl⟩
  obtain ⟨S3, q3⟩ : ∃ S, S = saveD S2 8 2 [116, 119, 111] := ⟨_, rfl⟩
  obtain ⟨S4, q4⟩ : ∃ S, S = powerS S3 := ⟨_, rfl⟩
  obtain ⟨S5, q5⟩ : ∃ S, S = saveD S4 8 2 [] := ⟨_, rfl⟩
  have h0 : hasV S0 8 0 = none := has_no (by rw [hz _ (by omega)]; exact frR_zeros 86)
  have h1 : hasV S0 (8 + 256) 1 = none := has_no (by rw [hz _ (by omega)]; exact frR_zeros 86)
  obtain ⟨e1, ok1, l1, o1, f1, w1, s1, t1⟩ := save_whole (from_ := 8) (g := 1) (b := [111, 110, 101]) ok0 o0 (.inl (by omega)) (by omega) (by omega) (by decide)
  change saveE S0 8 1 [111, 110, 101] = 0 at e1
  change DSOk (saveD S0 8 1 _) at ok1
  change (saveD S0 8 1 _).len = _ at l1
  change (saveD S0 8 1 _).off = _ at o1
  change (saveD S0 8 1 _).wr = _ at w1
  change hasV (saveD S0 8 1 _) _ _ = _ at s1
  change ∀ j, _ → blockL (saveD S0 8 1 _) j = _ at t1
  rw [← q1] at ok1 l1 o1 w1 s1 t1
  have ok2 : DSOk S2 := by rw [q2]; exact ok1.arm 1 127 (by omega)
  have a2 : S2 = { S1 with fuse := 1, keep := 127 } := by rw [q2]; unfold armS; rw [if_pos (by decide)]
  have l2 : S2.len = 520 := by rw [q2]; unfold DS.len; rw [armS_all]; show S1.len = 520; omega
  have o2 : S2.off = false := by rw [a2]; exact o1
  have f2 : S2.fuse = ((1 : Nat) : Int) := by rw [a2]; rfl
  have k2 : S2.keep = ((127 : Nat) : Int) := by rw [a2]; rfl
  have w2 : S2.wr ≤ 10 := by rw [a2]; show S1.wr ≤ 10; rw [w1, w0]; decide
  have b2 : ∀ j, blockL S2 j = blockL S1 j := fun j => by rw [q2, blockL_arm]
  clear a2
  obtain ⟨e3, ok3, l3, w3, t3, -, d3⟩ := save_torn (from_ := 8) (g := 2) (b := [116, 119, 111]) ok2 o2 f2 (by decide) (by omega) (by omega) (by decide)
  change saveE S2 8 2 [116, 119, 111] = 19 at e3
  change DSOk (saveD S2 8 2 _) at ok3
  change (saveD S2 8 2 _).len = _ at l3
  change (saveD S2 8 2 _).wr ≤ _ at w3
  change ∀ j, _ → blockL (saveD S2 8 2 _) j = _ at t3
  have d3' := (d3 (by decide)).1
  change blockL (saveD S2 8 2 _) _ = _ at d3'
  rw [← q3] at ok3 l3 w3 t3 d3'
  have ok4 : DSOk S4 := by rw [q4]; exact ok3.power
  have l4 : S4.len = 520 := by rw [q4]; show S3.len = 520; omega
  have o4 : S4.off = false := by rw [q4]; rfl
  have f4 : S4.fuse = -1 := by rw [q4]; rfl
  have w4 : S4.wr ≤ 20 := by
    rw [q4]; show S3.wr ≤ 20
    have : blkN ([116, 119, 111] : List UInt8).length = 1 := by decide
    rw [this] at w3; omega
  have b4 : ∀ j, blockL S4 j = blockL S3 j := fun j => by rw [q4]; rfl
  have s4 : hasV S4 (vAt 8 1) (1 % 2) = some (1, [111, 110, 101]) := by
    rw [← s1]
    refine has_cong (fun j h1 h2 => ?_)
    rw [b4, t3 j (by unfold vAt at *; omega), b2]
  have n4 : (frR 86 (blockL S4 (vAt 8 2))).e ≠ 0 := by
    rw [b4, d3', k2]
    exact frR_torn (vheadL_length _ _) (by omega)
  have r4 : loadR S4 8 = ⟨1, [111, 110, 101], 0⟩ := load_pick o4 s4 (fun g' b' hh => by rw [has_no n4] at hh; cases hh)
  obtain ⟨e5, ok5, l5, o5, f5, w5, s5, t5⟩ := save_whole (from_ := 8) (g := 2) (b := []) ok4 o4 (.inl (by omega)) (by omega) (by omega) (by decide)
  change saveE S4 8 2 [] = 0 at e5
  change (saveD S4 8 2 _).off = _ at o5
  change hasV (saveD S4 8 2 _) _ _ = _ at s5
  change ∀ j, _ → blockL (saveD S4 8 2 _) j = _ at t5
  rw [← q5] at o5 s5 t5
  have s51 : hasV S5 (vAt 8 3) (3 % 2) = some (1, [111, 110, 101]) := by
    rw [← s4]
    refine has_cong (fun j h1 h2 => t5 j ?_)
    have e3 : vAt 8 3 = 264 := rfl
    have e2 : vAt 8 2 = 8 := rfl
    omega
  have r5 : loadR S5 8 = ⟨2, [], 0⟩ := load_pick o5 s5 (fun g' b' hh => by
    have hh : hasV S5 (vAt 8 3) (3 % 2) = some (g', b') := hh
    rw [s51] at hh
    simp only [Option.some.injEq, Prod.mk.injEq] at hh
    omega)
  exact ⟨S1, S2, S3, S4, S5, q1, q2, q3, q4, q5, by omega, load_none o0 h0 h1, e1, by omega, e3, r4, by omega, e5, r5⟩
theorem VW.saveLit {K : DiskRel} {R : VltRel} {w : World} {vb db : Nat} {S : DS} {a : Nat} {V : World} (c : VSaveC K R) (h : VW K R w vb db S a V) (gen : Int) (hw : S.wr ≤ 900000) (cs : Array Value) (fr : Nat × Nat) (b : List UInt8) (hb : cs.toList = bvs b) (hl : b.length ≤ 1000) :
    Calls Try.prog 12 #[ptrV vb, .int .i64 gen, .slice (some ⟨V.heap.size, 0, none⟩) b.length b.length] (V.alloc (.cells cs 5 fr)) fun e w' => e = .returned (.int .i64 (saveE S a gen b)) ∧ VW K R w vb db (saveD S a gen b) a w' :=
  h.save2 c (below_mark V cs fr) gen hw (bs_mark V cs fr b hb hl) (by omega) (fun x hx _ => by cases hx; exact Nat.le_refl _)
theorem VW.loadIs {K : DiskRel} {R : VltRel} {w : World} {vb db : Nat} {S : DS} {a : Nat} {V : World} (c : VLoadC K R) (h : VW K R w vb db S a V) {g : Nat} {b : List UInt8} {x : Int} (hr : loadR S a = ⟨g, b, x⟩) :
    Calls Try.prog 21 #[ptrV vb] V fun e w' => ∃ p c, e = .returned (.tuple #[.int .i64 (g : Int), .slice p b.length c, .int .i64 x]) ∧ BsAt w' p b.length c b ∧ (∀ y, p = some y → V.heap.size ≤ y.block) ∧ Below V.heap.size V w' := by
  have := h.load2 c
  rw [hr] at this
  exact this

set_option maxRecDepth 100000 in
set_option maxHeartbeats 6400000 in
theorem valive_any (K : DiskRel) (R : VltRel) (dN : DNewC K) (dA : DArmC K) (dP : DPowerC K) (vN : VNewC K R) (vX : VNewNoC K) (vB : VBlocksC) (vS : VSaveC K R) (vL : VLoadC K R) (nS : VNilSaveC) : VAliveC := by
  intro w
  have kc := fun (w : World) (C : Array Value) (n c : Nat) => Lib.run_convert_bytes_const (P := Try.prog) w 31 5 C n c Try.underlying31 Try.underlying5
  obtain ⟨S1, S2, S3, S4, S5, hF⟩ := vafacts (DS.new 520) (DSOk.new (by omega)) (DS.new_len 520) rfl rfl rfl (fun j hj => new_block 520 j hj)
  have HF := Lib.hid hF
  clear hF
  have HN : Hid (Calls Try.prog 7 #[.int .i64 520] w fun e w' => ∃ b F, e = .returned (.tuple #[ptrV b, .int .i64 0]) ∧ K.At w' b (DS.new 520) F ∧ (∀ k, F k → w.heap.size ≤ k) ∧ Below w.heap.size w w') := Lib.hid (dN 520 w (by omega) (by omega))
  go_enter Try.func9, Try.ntmps9
  go_wp2_with fail
  refine HN.out.mono ?_
  rintro e V1 ⟨db, D, rfl, hD, hown, hB1⟩
  have HJ : Hid (Calls Try.prog 8 #[ptrV db, .int .i64 8] V1 fun e w' => ∃ vb, e = .returned (.tuple #[ptrV vb, .int .i64 0]) ∧ VW K R w vb db (DS.new 520) 8 w') := Lib.hid (VW.made vN hD hown hB1 8 (by omega) (by omega))
  clear hD hown hB1 HN
  unfold ptrV at *
  go_wp2_with fail
  refine HJ.out.mono ?_
  rintro e V2 ⟨vb, rfl, hW⟩
  have hX : Calls Try.prog 8 #[ptrV db, .int .i64 9] V2 fun e w' => e = .returned (.tuple #[.pointer none, .int .i64 8]) ∧ VW K R w vb db (DS.new 520) 8 w' := by
    obtain ⟨F, h1, -⟩ := hW.ex
    obtain ⟨D, G, g1, -⟩ := h1.ex
    exact (vX 9 V2 db (DS.new 520) D g1 (DSOk.new (by omega)) (.inr (by rw [DS.new_len]; omega)) (by omega) (by omega)).mono fun e w' ⟨he, hB⟩ => ⟨he, hW.step hB⟩
  have HX := Lib.hid hX
  clear hW HJ hX
  unfold ptrV at *
  generalize DS.new 520 = S0 at *
  go_wp2_with fail
  refine HX.out.mono ?_
  rintro e V3 ⟨rfl, hW3⟩
  have HL0 := Lib.hid (hW3.loadIs vL HF.out.r0)
  have HW3 := Lib.hid hW3
  clear hW3 HX
  unfold ptrV at *
  go_wp2_with fail
  refine HL0.out.mono ?_
  rintro e V4 ⟨p4, c4, rfl, -, -, hB4⟩
  have hW4 := HW3.out.step hB4
  have HSv : Hid (Calls Try.prog 12 #[ptrV vb, .int .i64 1, .slice (some ⟨V4.heap.size, 0, none⟩) 3 3] (V4.alloc (.cells #[.int .u8 111, .int .u8 110, .int .u8 101] 5 (3, 4))) fun e w' => e = .returned (.int .i64 0) ∧ VW K R w vb db S1 8 w') := Lib.hid (by
    have h := hW4.saveLit vS 1 HF.out.w0 #[.int .u8 111, .int .u8 110, .int .u8 101] (3, 4) [111, 110, 101] rfl (by simp)
    rw [HF.out.e1, ← HF.out.q1] at h
    exact h)
  clear hB4 hW4 HL0 HW3
  unfold ptrV at *
  go_wp2_with fail
  refine HSv.out.mono ?_
  rintro e V5 ⟨rfl, hW5⟩
  have HAr : Hid (Calls Try.prog 14 #[ptrV db, .int .i64 1, .int .i64 127] V5 fun e w' => e = .returned (.int .i64 0) ∧ VW K R w vb db S2 8 w') := Lib.hid (by
    have h := hW5.arm dA 1 127 (by omega)
    rw [show armE 1 127 = 0 by decide, ← HF.out.q2] at h
    exact h)
  clear hW5 HSv
  unfold ptrV at *
  go_wp2_with fail
  refine HAr.out.mono ?_
  rintro e V6 ⟨rfl, hW6⟩
  have HS3 : Hid (Calls Try.prog 12 #[ptrV vb, .int .i64 2, .slice (some ⟨V6.heap.size, 0, none⟩) 3 3] (V6.alloc (.cells #[.int .u8 116, .int .u8 119, .int .u8 111] 5 (3, 4))) fun e w' => e = .returned (.int .i64 19) ∧ VW K R w vb db S3 8 w') := Lib.hid (by
    have h := hW6.saveLit vS 2 HF.out.w2 #[.int .u8 116, .int .u8 119, .int .u8 111] (3, 4) [116, 119, 111] rfl (by simp)
    rw [HF.out.e3, ← HF.out.q3] at h
    exact h)
  clear hW6 HAr
  unfold ptrV at *
  go_wp2_with fail
  refine HS3.out.mono ?_
  rintro e V7 ⟨rfl, hW7⟩
  have HPw : Hid (Calls Try.prog 16 #[ptrV db] V7 fun e w' => e = .returned (.tuple #[]) ∧ VW K R w vb db S4 8 w') := Lib.hid (by
    have h := hW7.power dP
    rw [← HF.out.q4] at h
    exact h)
  clear hW7 HS3
  unfold ptrV at *
  go_wp2_with fail
  refine HPw.out.mono ?_
  rintro e V8 ⟨rfl, hW8⟩
  have HL4 := Lib.hid (hW8.loadIs vL HF.out.r4)
  have HW8 := Lib.hid hW8
  clear hW8 HPw
  unfold ptrV at *
  go_wp2_with fail
  refine HL4.out.mono ?_
  rintro e V9 ⟨p9, c9, rfl, hb9, hq9, hB9⟩
  have HS5 : Hid (Calls Try.prog 12 #[ptrV vb, .int .i64 2, .slice none 0 0] V9 fun e w' => e = .returned (.int .i64 0) ∧ BsAt w' p9 3 c9 [111, 110, 101] ∧ VW K R w vb db S5 8 w') := Lib.hid (by
    have h := HW8.out.saveK vS hB9 2 HF.out.w4 hb9 hq9
    rw [HF.out.e5, ← HF.out.q5] at h
    exact h)
  clear hb9 hq9 hB9 HL4 HW8
  unfold ptrV at *
  go_wp2_with fail
  refine HS5.out.mono ?_
  rintro e V10 ⟨rfl, hb10, hW10⟩
  have HL5 := Lib.hid (hW10.loadIs vL HF.out.r5)
  have HW10 := Lib.hid hW10
  have HX10 := Lib.hid hb10
  clear hW10 hb10 HS5
  unfold ptrV at *
  go_wp2_with fail
  refine HL5.out.mono ?_
  rintro e V11 ⟨p11, c11, rfl, -, -, hB11⟩
  have HB11 := Lib.hid (HW10.out.below.trans (hB11.mono HW10.out.below.size))
  have q1 := run_string_bs (P := Try.prog) V11 31 5 9 Try.underlying31 Try.underlying5 Try.underlying9 (HX10.out.below hB11 (Nat.le_refl _))
  have HBl := Lib.hid (vB 129 V11 (by omega))
  rw [show (if (129 : Int) < 1 then (0 : Int) else ((blkN (129 : Int).toNat : Nat) : Int)) = 2 by decide] at HBl
  have HNs := Lib.hid (nS none 0 0 V11)
  clear HL5 HW10 HX10 hB11
  go_upto_region 15 with fail
  (try simp only [List.append_eq, List.cons_append, List.nil_append])
  go_wp2_with fail
  refine HBl.out.mono ?_
  rintro e V12 ⟨rfl, rfl⟩
  go_wp2_with fail
  refine HNs.out.mono ?_
  rintro e V13 ⟨rfl, hB13⟩
  have HB13 := Lib.hid (HB11.out.trans (hB13.mono HB11.out.size))
  clear hB13 HNs
  go_wp2_with fail
  go_ret
  exact ⟨rfl, HB13.out⟩
end Go.Proofs.Ytbmcajhknohhdaa

/-! FrmE -/
namespace Go.Proofs.Ytbmcajhknohhdaa
open Go.RowKit

/-- Where a part of a block lies. -/
def partP (p : Option Addr) (lo hi : Nat) : Option Addr := if hi = lo then p else p.map (·.add lo)
set_option maxHeartbeats 400000 in
theorem fpart_any (p : Option Addr) (len cap lo hi : Nat) (x y : Int) (w : World) (hx : x = (lo : Int)) (hy : y = (hi : Int)) (h1 : lo ≤ hi) (h2 : hi ≤ cap) :
    Calls Try.prog 60 #[.slice p len cap, .int .i64 x, .int .i64 y] w fun e w' => e = .returned (.slice (partP p lo hi) (hi - lo) (hi - lo)) ∧ w = w' := by
  have q : ∀ V, (Instr.slice 31 (.slice p len cap) (some (.int .i64 x)) (some (.int .i64 y)) (some (.int .i64 y))).run Try.prog V = .ok (.slice (partP p lo hi) (hi - lo) (hi - lo)) V := by
    intro V
    rw [run_slice_lhm V _ _ _ _ elemU8 .i64 .i64 .i64 _ _ _ (by omega) (by omega) (by omega) (by omega), sizeU8]
    subst hx; subst hy
    simp [Result.andThen, sliced, partP]
  clear hx hy h1 h2
  go_enter Try.func60, Try.ntmps60
  go_wp2_with fail
  go_ret
  exact ⟨rfl, rfl⟩
/-- A part that is not empty, of a block that has an address. -/
theorem fpart_at (g off len cap lo hi : Nat) (x y : Int) (o n : Nat) (w : World) (hx : x = (lo : Int)) (hy : y = (hi : Int)) (h1 : lo < hi) (h2 : hi ≤ cap) (ho : off + lo = o) (hn : hi - lo = n) :
    Calls Try.prog 60 #[.slice (some ⟨g, off, none⟩) len cap, .int .i64 x, .int .i64 y] w fun e w' => e = .returned (.slice (some ⟨g, o, none⟩) n n) ∧ w = w' := by
  refine (fpart_any (some ⟨g, off, none⟩) len cap lo hi x y w hx hy (by omega) h2).mono fun e w' ⟨he, hw⟩ => ⟨?_, hw⟩
  subst ho; subst hn
  rw [he, partP, if_neg (by omega)]
  have : (⟨g, off, none⟩ : Addr).add lo = ⟨g, off + lo, none⟩ := by unfold Addr.add; split <;> simp_all
  simp [this]
/-- A part reads as the bytes there. -/
theorem part_bs {w : World} {p : Option Addr} {len cap lo hi : Nat} {l : List UInt8} (h : BsAt w p len cap l) (h1 : lo ≤ hi) (h2 : hi ≤ len) : BsAt w (partP p lo hi) (hi - lo) (hi - lo) ((l.take hi).drop lo) := by
  have hl := h.same
  have ht := bs_take (n := hi) h (by omega)
  have hc : BsAt w p hi hi (l.take hi) := by
    refine ⟨ht.same, Nat.le_refl _, by have := h.le; have := h.small; omega, ?_⟩
    rcases ht.place with ⟨h3, h4⟩ | h3 | h3
    · exact .inl ⟨h3, by have := h.le; omega⟩
    · exact .inr (.inl h3)
    · exact .inr (.inr h3)
  have hd := bs_drop (n := lo) hc (by rw [List.length_take]; omega)
  exact hd

set_option maxHeartbeats 400000 in
theorem fwithin_any (n most : Int) (w : World) : Calls Try.prog 58 #[.int .i64 n, .int .i64 most] w fun e w' => e = .returned (.bool (decide (0 ≤ n) && decide (n ≤ most))) ∧ w = w' := by
  by_cases h1 : 0 ≤ n
  · by_cases h2 : n ≤ most
    · have b1 : decide (0 ≤ n) = true := by simpa using h1
      have b2 : decide (n ≤ most) = true := by simpa using h2
      go_enter Try.func58, Try.ntmps58
      go_wp2_with fail
      go_ret
      exact ⟨by rw [b1, b2]; rfl, rfl⟩
    · have b1 : decide (0 ≤ n) = true := by simpa using h1
      have b2 : decide (n ≤ most) = false := by simpa using h2
      clear h1 h2
      go_enter Try.func58, Try.ntmps58
      go_wp2_with fail
      go_ret
      exact ⟨by rw [b1, b2]; rfl, rfl⟩
  · have b1 : decide (0 ≤ n) = false := by simpa using h1
    clear h1
    go_enter Try.func58, Try.ntmps58
    go_wp2_with fail
    go_ret
    exact ⟨by rw [b1]; rfl, rfl⟩

theorem wNum_fit {l : List UInt8} {n : Nat} {k : Nat} (h1 : 1 ≤ k) (h4 : k ≤ 4) (hn : n < 256 ^ k) : wNum (l, 0) (n : Int) (k : Int) = (l ++ be n k, 0) := by
  have ho : okN (n : Int) (k : Int) = true := by
    rw [okN_iff]
    refine ⟨by omega, by omega, by omega, ?_⟩
    have e : (256 : Int) ^ k = ((256 ^ k : Nat) : Int) := (Int.natCast_pow 256 k).symm
    rw [Int.toNat_natCast, e]
    exact Int.ofNat_lt.2 hn
  unfold wNum addS
  rw [if_pos ho, if_pos rfl, Int.toNat_natCast, Int.toNat_natCast]
theorem head_num (kd : UInt8) (gen seq n : Nat) (hg : gen < 4294967296) (hs : seq < 65536) (hn : n < 256) :
    wNum (wNum (wNum (wNum ([], 0) (kd.toNat : Int) 1) (gen : Int) 4) (seq : Int) 2) (n : Int) 1 = (frHead kd gen seq n, 0) := by
  have e1 : wNum ([], 0) (kd.toNat : Int) 1 = _ := wNum_fit (l := []) (n := kd.toNat) (k := 1) (by omega) (by omega) (by have := kd.toNat_lt; simpa using this)
  have e2 : wNum ([] ++ be kd.toNat 1, 0) (gen : Int) 4 = _ := wNum_fit (l := [] ++ be kd.toNat 1) (n := gen) (k := 4) (by omega) (by omega) (by simpa using hg)
  have e3 : wNum ([] ++ be kd.toNat 1 ++ be gen 4, 0) (seq : Int) 2 = _ := wNum_fit (l := [] ++ be kd.toNat 1 ++ be gen 4) (n := seq) (k := 2) (by omega) (by omega) (by simpa using hs)
  have e4 : wNum ([] ++ be kd.toNat 1 ++ be gen 4 ++ be seq 2, 0) (n : Int) 1 = _ := wNum_fit (l := [] ++ be kd.toNat 1 ++ be gen 4 ++ be seq 2) (n := n) (k := 1) (by omega) (by omega) (by simpa using hn)
  rw [e1, e2, e3, e4]
  simp [be, frHead, Nat.div_div_eq_div_mul]

set_option maxRecDepth 100000 in
set_option maxHeartbeats 1600000 in
theorem fnumbers_any (kd : UInt8) (gen seq n : Nat) (w : World) (hg : gen < 4294967296) (hs : seq < 65536) (hn : n < 256) :
    Calls Try.prog 59 #[.int .u8 (kd.toNat : Int), .int .i64 (gen : Int), .int .i64 (seq : Int), .int .i64 (n : Int)] w fun e w' => ∃ v, e = .returned (.tuple #[v, .int .i64 0]) ∧ BsNew w (frHead kd gen seq n) v w' ∧ Below w.heap.size w w' := by
  have HN := Lib.hid (head_num kd gen seq n hg hs hn)
  have H0 := Lib.hid (WAt.new w 85)
  have hk := kd.toNat_lt
  generalize kd.toNat = k at *
  have hkw : IntKind.i64.wrap (k : Int) = (k : Int) := IntWalk.i64_in _ (by omega)
  go_enter Try.func59, Try.ntmps59
  go_wp2_with fail
  refine (wnum_any w.heap.size w.heap.size _ _ _ _ _ _ H0.out (by simp) (by simp)).mono ?_
  rintro e w1 ⟨rfl, v1, hT1⟩
  have HT1 := Lib.hid hT1
  have HB1 := Lib.hid ((belowNew w _).trans (hT1.below H0.out (by simp) (Nat.le_refl _)))
  have hl1 := wNum_le ([], 0) (k : Int) 1
  clear hT1
  go_wp2_with fail
  refine (wnum_any w.heap.size w.heap.size _ _ _ _ _ _ HT1.out.now HB1.out.size (by simp at hl1; omega)).mono ?_
  rintro e w2 ⟨rfl, v2, hT2⟩
  have HT2 := Lib.hid hT2
  have HB2 := Lib.hid (HB1.out.trans (hT2.below HT1.out.now HB1.out.size (Nat.le_refl _)))
  have hl2 := wNum_le (wNum ([], 0) (k : Int) 1) (gen : Int) 4
  clear hT2
  go_wp2_with fail
  refine (wnum_any w.heap.size w.heap.size _ _ _ _ _ _ HT2.out.now HB2.out.size (by simp at hl1; omega)).mono ?_
  rintro e w3 ⟨rfl, v3, hT3⟩
  have HT3 := Lib.hid hT3
  have HB3 := Lib.hid (HB2.out.trans (hT3.below HT2.out.now HB2.out.size (Nat.le_refl _)))
  have hl3 := wNum_le (wNum (wNum ([], 0) (k : Int) 1) (gen : Int) 4) (seq : Int) 2
  clear hT3
  go_wp2_with fail
  refine (wnum_any w.heap.size w.heap.size _ _ _ _ _ _ HT3.out.now HB3.out.size (by simp at hl1; omega)).mono ?_
  rintro e w4 ⟨rfl, v4, hT4⟩
  have HT4 := Lib.hid hT4
  have HB4 := Lib.hid (HB3.out.trans (hT4.below HT3.out.now HB3.out.size (Nat.le_refl _)))
  have hl4 := wNum_le (wNum (wNum (wNum ([], 0) (k : Int) 1) (gen : Int) 4) (seq : Int) 2) (n : Int) 1
  clear hT4
  go_wp2_with fail
  refine (done_any w.heap.size w.heap.size _ _ _ _ HT4.out.now (by simp at hl1; omega)).mono ?_
  rintro e w5 ⟨v5, rfl, hbs, hB5⟩
  have HB5 := Lib.hid (HB4.out.trans (hB5.mono HB4.out.size))
  have HS5 := Lib.hid (hbs.older HB4.out.size)
  rw [HN.out] at HS5
  rw [HN.out]
  clear hbs hB5 HN
  go_wp2_with fail
  refine bodyPost_ret (results_tmp2 rfl _ _ _) rfl ?_
  exact ⟨_, rfl, HS5.out, HB5.out⟩

set_option maxHeartbeats 1600000 in
theorem fblank_any (p : Option Addr) (len cap : Nat) (l : List UInt8) (w : World) (h : BsAt w p len cap l) :
    Calls Try.prog 75 #[.slice p len cap] w fun e w' => e = .returned (.bool (l.all fun c => c == 0)) ∧ w = w' := by
  have hlen := h.same
  subst hlen
  have hm : l.length ≤ 9223372036854775807 := by have := h.le; have := h.small; unfold maxLen at this; omega
  have HB := Lib.hid h
  clear h
  go_enter Try.func75, Try.ntmps75
  go_wp2_with fail
  go_loop [7] (fun i => ∃ j : Nat, j ≤ l.length ∧ i = .int .i64 j ∧ (l.take j).all (fun c => c == 0) = true) (fun i => l.length - (intOf i).toNat)
  case atStart => exact ⟨0, Nat.zero_le _, rfl, by simp⟩
  case round =>
    obtain ⟨j, hj, rfl, ha⟩ := hrel
    have HA := Lib.hid ha
    clear ha
    by_cases hlt : j < l.length
    · obtain ⟨g', off, rfl, hc⟩ : ∃ g' off, p = some ⟨g', off, none⟩ ∧ w.cell? ⟨g', off + j, none⟩ = some (.int .u8 (l[j].toNat : Int)) := by
        rcases HB.out.place with ⟨-, h2⟩ | ⟨h2, -⟩ | ⟨g', off, rfl, -, h3⟩
        · have := HB.out.le; omega
        · rw [h2] at hlt; simp at hlt
        · exact ⟨g', off, rfl, h3 j hlt⟩
      by_cases hz : l[j] = 0
      · have hx : ((l[j].toNat : Nat) : Int) = 0 := by rw [hz]; rfl
        rw [hx] at hc
        have HA2 := Lib.hid (show (l.take (j + 1)).all (fun c => c == 0) = true by rw [List.take_succ_eq_append_getElem hlt, List.all_append, HA.out, hz]; rfl)
        clear hz hx
        go_wp2_with fail
        go_round
        case rel => exact ⟨j + 1, by omega, by go_num, HA2.out⟩
        case measure => simp [intOf]; omega
      · have HE := Lib.hid (show (l.all fun c => c == 0) = false by
          rw [List.all_eq_false]
          exact ⟨l[j], List.getElem_mem hlt, by simpa using hz⟩)
        have hx : ¬ ((l[j].toNat : Nat) : Int) = 0 := by
          intro e
          exact hz (UInt8.toNat_inj.1 (by simpa using e))
        generalize l[j].toNat = x at *
        clear hz
        go_wp2_with fail
        go_ret
        exact ⟨by rw [HE.out]; rfl, rfl⟩
    · have HE := Lib.hid (show (l.all fun c => c == 0) = true by rw [← HA.out, List.take_of_length_le (by omega)])
      go_wp2_with fail
      go_ret
      exact ⟨by rw [HE.out]; rfl, rfl⟩
end Go.Proofs.Ytbmcajhknohhdaa

/-! FrmF -/
namespace Go.Proofs.Ytbmcajhknohhdaa
open Go.RowKit

theorem infoSz1 : (Try.prog.info? 5).map (·.size) = some 1 := by kernel_rfl
theorem fresh_of_blk {w : World} {B g n : Nat} {l : List UInt8} {t : TypeId} (h : Blk w g (bvA l) t) (hl : l.length = n) (hB : B ≤ g) (hn : n ≤ maxLen) : FreshB B w (.slice (some ⟨g, 0, none⟩) n n) l :=
  ⟨t, by rw [bvs_length, hl]; omega, .inr ⟨g, n, bvA l, by rw [hl], hB, h, by rw [hl]; exact Nat.le_refl _, hn, by rw [bvA_size, hl, Nat.mul_one], by rw [Nat.mul_one, List.take_of_length_le (by simp [bvA, bvs_length])]; rfl⟩⟩
/-- The row that make made is a block of just these bytes. -/
theorem blk_of_made {w : World} {B g n : Nat} {l : List UInt8} {t : TypeId} (h : w.ownsRow B t 1 (.slice (some ⟨g, 0, none⟩) n n) l.length (bvs l)) : Blk w g (bvA l) t ∧ B ≤ g := by
  obtain ⟨h1, h2⟩ := h
  rcases h2 with ⟨h2, -⟩ | ⟨g', cap, cur, h2, hB, hg, h3, h4, h5, h6⟩
  · cases h2
  · simp only [Value.slice.injEq, Option.some.injEq, Addr.mk.injEq, and_true] at h2
    obtain ⟨rfl, h7, h8⟩ := h2
    refine ⟨?_, hB⟩
    have e : cur = bvA l := by
      apply Array.ext'
      rw [← List.take_of_length_le (l := cur.toList) (i := l.length * 1) (by simp; omega), h6]
      simp [bvA]
    rw [← e]; exact hg
/-- copy(dst, s), s a string that fits. -/
theorem wpList_copy_text {P : Program} {w : World} {ops : Array Oper} {rest : List Oper} {o : Oper} {a : Act} {Q : Exit → Act → World → Prop} (hgd : o.guard = none) (d s : Operand) (dT sT : TypeId)
    (ho : o.op = .call { callee := .builtin .copy, args := #[d, s], argTypes := #[dT, sT] }) (elem : TypeId) (hu : P.underlying dT = some (.slice elem)) (hsz : (P.info? elem).map (·.size) = some 1)
    {g off dLen dCap : Nat} {r : ByteArray} {all : List UInt8} {t : TypeId} (hd : a.eval d = .slice (some ⟨g, off, none⟩) dLen dCap) (hs : a.eval s = .string r) (h : Blk w g (bvA all) t) (hle : r.size ≤ dLen) (hfit : off + r.size ≤ all.length)
    (hK : ∀ w', Put w w' g (bvA (putL all off r.data.toList)) t → wpList P ops Q rest (a.put o.dst (goInt r.size)) w') : wpList P ops Q (o :: rest) a w := by
  refine wpList_plain hgd fun K hK' => ?_
  have hrun := Lib.run_copy_row_string (P := P) w dT sT o.type elem g off dLen dCap r (bvA all) t hu hsz h hle (by rw [bvA_size]; exact hfit)
  have e := bvs_put_row all r.data.toList off
  have hn : (bvs r.data.toList).length = r.size := by rw [bvs_length]; simp
  rw [hn] at e
  have e2 : Lib.byteCells r.data.toList = bvs r.data.toList := rfl
  rw [e2, e] at hrun
  unfold Oper.wp
  simp [execOp, ho, resolve, invoke, builtin, hd, hs, hrun, Result.andThen]
  exact hK' _ _ (hK _ (put_row h))

/-! What lies in the block, copy by copy. -/
theorem fr_put1 (kd : UInt8) (gen seq n : Nat) : putL (zerosB 128) 0 ((frHead kd gen seq n).take 8) = frHead kd gen seq n ++ zerosB 120 := by
  simp [putL, frHead, zerosB]
theorem fr_put2 (kd : UInt8) (gen seq : Nat) (b : List UInt8) (hn : b.length ≤ 112) : putL (frHead kd gen seq b.length ++ zerosB 120) 8 (b.take 112) = frBody kd gen seq b ++ zerosB 8 := by
  have e1 : b.take 112 = b := List.take_of_length_le hn
  have e2 : (frHead kd gen seq b.length).length = 8 := rfl
  unfold putL
  rw [e1, List.take_left' e2, ← List.drop_drop, List.drop_left' e2]
  unfold frBody zeros zerosB
  rw [List.drop_replicate, List.append_assoc, List.append_assoc, List.replicate_append_replicate, show 120 - b.length = 112 - b.length + 8 by omega]
theorem fr_put3 (kd : UInt8) (gen seq : Nat) (b : List UInt8) (hn : b.length ≤ 112) : putL (frBody kd gen seq b ++ zerosB 8) 0 ((sealL (frBody kd gen seq b)).take 124) = sealL (frBody kd gen seq b) ++ zerosB 4 := by
  have hl := frBody_length (kd := kd) (gen := gen) (seq := seq) hn
  have hs : (sealL (frBody kd gen seq b)).length = 124 := by rw [sealL_length, hl]
  have e : (sealL (frBody kd gen seq b)).take 124 = sealL (frBody kd gen seq b) := List.take_of_length_le (by omega)
  unfold putL
  rw [e, hs]
  simp [List.drop_append, hl, zerosB]
theorem fr_put4 (kd : UInt8) (gen seq : Nat) (b : List UInt8) (hn : b.length ≤ 112) : putL (sealL (frBody kd gen seq b) ++ zerosB 4) 124 [0, 0, 0, 69] = frL kd gen seq b := by
  have hl := frBody_length (kd := kd) (gen := gen) (seq := seq) hn
  have hs : (sealL (frBody kd gen seq b)).length = 124 := by rw [sealL_length, hl]
  unfold putL
  rw [List.take_left' hs, List.drop_of_length_le (by simp [hs, zerosB])]
  simp [frL, frTail]
theorem fr_body (kd : UInt8) (gen seq : Nat) (b : List UInt8) (hn : b.length ≤ 112) : (((frBody kd gen seq b ++ zerosB 8).drop 0).take 120) = frBody kd gen seq b := by
  rw [List.drop_zero, List.take_left' (frBody_length hn)]

set_option maxRecDepth 100000 in
set_option maxHeartbeats 3200000 in
theorem frWrite_main (kd : UInt8) (gen seq : Nat) (p : Option Addr) (cap : Nat) (b : List UInt8) (w : World) (h : BsAt w p b.length cap b) (hg : gen ≤ 2147483647) (hs : seq ≤ 65535) (hn : b.length ≤ 112) :
    Calls Try.prog 42 #[.int .u8 (kd.toNat : Int), .int .i64 (gen : Int), .int .i64 (seq : Int), .slice p b.length cap] w fun e w' => ∃ q c, e = .returned (.tuple #[.slice q 128 c, .int .i64 0]) ∧ FreshB w.heap.size w' (.slice q 128 c) (frL kd gen seq b) ∧ Below w.heap.size w w' := by
  have HBs := Lib.hid h
  have HW1 := Lib.hid (fun V => fwithin_any (gen : Int) 2147483647 V)
  have HW2 := Lib.hid (fun V => fwithin_any (seq : Int) 65535 V)
  have HN := Lib.hid (fnumbers_any kd gen seq b.length w (by omega) (by omega) (by omega))
  rw [show (decide (0 ≤ (gen : Int)) && decide ((gen : Int) ≤ 2147483647)) = true by simp; omega] at HW1
  rw [show (decide (0 ≤ (seq : Int)) && decide ((seq : Int) ≤ 65535)) = true by simp; omega] at HW2
  have HF := Lib.hid (And.intro (fr_put1 kd gen seq b.length) (And.intro (fr_put2 kd gen seq b hn) (And.intro (fr_put3 kd gen seq b hn) (And.intro (fr_put4 kd gen seq b hn) (fr_body kd gen seq b hn)))))
  have HL := Lib.hid (And.intro (frBody_length (kd := kd) (gen := gen) (seq := seq) hn) (frL_length (kd := kd) (gen := gen) (seq := seq) hn))
  have hb9 : b.length ≤ 9223372036854775807 := by omega
  have HH := Lib.hid (show (frHead kd gen seq b.length).length = 8 from rfl)
  clear h hg hs
  go_enter Try.func42, Try.ntmps42
  go_wp2_with fail
  with_reducible refine (HW1.out _).mono ?_
  rintro e w0 ⟨rfl, rfl⟩
  go_wp2_with fail
  with_reducible refine (HW2.out _).mono ?_
  rintro e w0 ⟨rfl, rfl⟩
  go_wp2_with fail
  with_reducible refine HN.out.mono ?_
  rintro e w1 ⟨v1, rfl, ⟨p1, n1, c1, rfl, hb1, -⟩, hB1⟩
  have HB1 := Lib.hid hB1
  have HS1 := Lib.hid hb1
  clear hb1 hB1 HW1 HW2 HN
  have tok1 : True := trivial
  go_upto_region 9 with (at_make; have _t := tok1; refine wpList_make_zeros rfl _ _ 31 rfl w1.heap.size 5 Try.underlying31 infoU8 128 rfl rfl rfl rfl (by decide) (Nat.le_refl _) ?_; intro w2 hown hg; have HO2 := Lib.hid hown; have HG2 := Lib.hid hg; clear hown hg tok1)
  have HK2 := Lib.hid (blk_of_made HO2.out).1
  have HB2 := Lib.hid (HB1.out.grown HG2.out HB1.out.size (fun k hk => by cases hk))
  have HS2 := Lib.hid (HS1.out.below ((Below.refl w1.heap.size w1).grown HG2.out (Nat.le_refl _) (fun k hk => by cases hk)) (Nat.le_refl _))
  have hG : w.heap.size ≤ w1.heap.size := HB1.out.size
  clear HO2 HG2 HS1
  generalize w1.heap.size = g at *
  go_wp2_with fail
  with_reducible refine (fpart_at g 0 128 128 0 8 0 8 0 8 _ rfl rfl (by decide) (by decide) rfl rfl).mono ?_
  rintro e w3 ⟨rfl, rfl⟩
  go_wp2_with (refine wpList_copy_part rfl _ _ 31 31 rfl 5 Try.underlying31 infoSz1 rfl rfl HK2.out HS2.out (by simp [zerosB]) ?_; intro w4 hw4; have HP4 := Lib.hid hw4; clear hw4)
  have HB4 := Lib.hid (HB2.out.trans (HP4.out.below HB2.out.size hG))
  have HK4 := Lib.hid HP4.out.blk
  rw [HF.out.1] at HK4
  have HS4 := Lib.hid (HBs.out.below HB4.out (Nat.le_refl _))
  clear HP4 HB2 HK2 HS2
  with_reducible refine (fpart_at g 0 128 128 8 120 8 120 8 112 _ rfl rfl (by decide) (by decide) rfl rfl).mono ?_
  rintro e w5 ⟨rfl, rfl⟩
  go_wp2_with (refine wpList_copy_part rfl _ _ 31 31 rfl 5 Try.underlying31 infoSz1 rfl rfl HK4.out HS4.out (by simp [zerosB, frHead]) ?_; intro w6 hw6; have HP6 := Lib.hid hw6; clear hw6)
  have HB6 := Lib.hid (HB4.out.trans (HP6.out.below HB4.out.size hG))
  have HK6 := Lib.hid HP6.out.blk
  rw [HF.out.2.1] at HK6
  clear HP6 HB4 HK4 HS4
  with_reducible refine (fpart_at g 0 128 128 0 124 0 124 0 124 _ rfl rfl (by decide) (by decide) rfl rfl).mono ?_
  rintro e w7 ⟨rfl, rfl⟩
  go_wp2_with fail
  with_reducible refine (fpart_at g 0 128 128 0 120 0 120 0 120 _ rfl rfl (by decide) (by decide) rfl rfl).mono ?_
  rintro e w7 ⟨rfl, rfl⟩
  have HS7 := Lib.hid (HK6.out.bs (off := 0) (n := 120) (cap := 120) (by simp [HL.out.1]) (Nat.le_refl _) (by decide))
  rw [HF.out.2.2.2.2] at HS7
  go_wp2_with fail
  refine (cSeal_any _ _ _ _ _ HS7.out (by rw [HL.out.1]; decide)).mono ?_
  rintro e w8 ⟨p8, n8, c8, rfl, hb8, hB8⟩
  have HB8 := Lib.hid (HB6.out.trans (hB8.mono HB6.out.size))
  have HK8 := Lib.hid (HK6.out.below hB8 HK6.out.lt)
  have HS8 := Lib.hid hb8
  clear hb8 hB8 HB6 HK6 HS7
  go_wp2_with (refine wpList_copy_part rfl _ _ 31 31 rfl 5 Try.underlying31 infoSz1 rfl rfl HK8.out HS8.out (by simp [zerosB, HL.out.1]) ?_; intro w9 hw9; have HP9 := Lib.hid hw9; clear hw9)
  have HB9 := Lib.hid (HB8.out.trans (HP9.out.below HB8.out.size hG))
  have HK9 := Lib.hid HP9.out.blk
  rw [HF.out.2.2.1] at HK9
  clear HP9 HB8 HK8 HS8
  with_reducible refine (fpart_at g 0 128 128 124 128 124 128 124 4 _ rfl rfl (by decide) (by decide) rfl rfl).mono ?_
  rintro e w10 ⟨rfl, rfl⟩
  have hz9 : 124 + 4 ≤ (sealL (frBody kd gen seq b) ++ zerosB 4).length := by rw [List.length_append, sealL_length, HL.out.1]; simp [zerosB]
  go_wp2_with (refine wpList_copy_text (r := ⟨#[0, 0, 0, 69]⟩) rfl _ _ 31 9 rfl 5 Try.underlying31 infoSz1 rfl rfl HK9.out (by decide) hz9 ?_; intro w11 hw11; have HP11 := Lib.hid hw11; clear hw11)
  refine bodyPost_ret (results_tmp2 rfl _ _ _) rfl ?_
  have HB11 := Lib.hid (HB9.out.trans (HP11.out.below HB9.out.size hG))
  have hk := HP11.out.blk
  rw [HF.out.2.2.2.1] at hk
  exact ⟨some ⟨g, 0, none⟩, 128, rfl, fresh_of_blk hk HL.out.2 hG (by decide), HB11.out⟩
theorem fresh_nil (B : Nat) (w : World) : FreshB B w (.slice none 0 0) [] := ⟨0, World.ownsRow_nil _ _ _ _⟩

set_option maxRecDepth 100000 in
set_option maxHeartbeats 1600000 in
theorem frWrite_any : FrWriteC := by
  intro kd gen seq p len cap b w h h5
  have hlen := h.same
  subst hlen
  by_cases h8 : gen < 0 ∨ 2147483647 < gen ∨ seq < 0 ∨ 65535 < seq
  · have he : frWE gen seq b = 8 := by unfold frWE; rw [if_pos h8]
    have HE := Lib.hid (show frWE gen seq b = 8 ∧ frWL kd gen seq b = [] from ⟨he, by unfold frWL; rw [he]; rfl⟩)
    have HW1 := Lib.hid (fun V => fwithin_any gen 2147483647 V)
    have HW2 := Lib.hid (fun V => fwithin_any seq 65535 V)
    by_cases hg : 0 ≤ gen ∧ gen ≤ 2147483647
    · rw [show (decide (0 ≤ gen) && decide (gen ≤ 2147483647)) = true by simp; omega] at HW1
      rw [show (decide (0 ≤ seq) && decide (seq ≤ 65535)) = false by simp; omega] at HW2
      clear he h h8 hg h5
      generalize b.length = n at *
      go_enter Try.func42, Try.ntmps42
      go_wp2_with fail
      with_reducible refine (HW1.out _).mono ?_
      rintro e w0 ⟨rfl, rfl⟩
      go_wp2_with fail
      with_reducible refine (HW2.out _).mono ?_
      rintro e w0 ⟨rfl, rfl⟩
      go_wp2_with fail
      refine bodyPost_ret (results_tmp2 rfl _ _ _) rfl ?_
      exact ⟨none, 0, by rw [HE.out.1, HE.out.2]; rfl, by rw [HE.out.2]; exact fresh_nil _ _, Below.refl _ _⟩
    · rw [show (decide (0 ≤ gen) && decide (gen ≤ 2147483647)) = false by simp; omega] at HW1
      clear he h h8 hg h5 HW2
      generalize b.length = n at *
      go_enter Try.func42, Try.ntmps42
      go_wp2_with fail
      with_reducible refine (HW1.out _).mono ?_
      rintro e w0 ⟨rfl, rfl⟩
      go_wp2_with fail
      refine bodyPost_ret (results_tmp2 rfl _ _ _) rfl ?_
      exact ⟨none, 0, by rw [HE.out.1, HE.out.2]; rfl, by rw [HE.out.2]; exact fresh_nil _ _, Below.refl _ _⟩
  · obtain ⟨g, rfl⟩ := Int.eq_ofNat_of_zero_le (show 0 ≤ gen by omega)
    obtain ⟨s, rfl⟩ := Int.eq_ofNat_of_zero_le (show 0 ≤ seq by omega)
    by_cases h112 : 112 < b.length
    · have he : frWE g s b = 5 := by unfold frWE; rw [if_neg h8, if_pos h112]
      have HE := Lib.hid (show frWE g s b = 5 ∧ frWL kd g s b = [] from ⟨he, by unfold frWL; rw [he]; rfl⟩)
      have HW1 := Lib.hid (fun V => fwithin_any (g : Int) 2147483647 V)
      have HW2 := Lib.hid (fun V => fwithin_any (s : Int) 65535 V)
      rw [show (decide (0 ≤ (g : Int)) && decide ((g : Int) ≤ 2147483647)) = true by simp; omega] at HW1
      rw [show (decide (0 ≤ (s : Int)) && decide ((s : Int) ≤ 65535)) = true by simp; omega] at HW2
      have hb9 : b.length ≤ 9223372036854775807 := by omega
      clear he h h8 h5
      generalize b.length = n at *
      go_enter Try.func42, Try.ntmps42
      go_wp2_with fail
      with_reducible refine (HW1.out _).mono ?_
      rintro e w0 ⟨rfl, rfl⟩
      go_wp2_with fail
      with_reducible refine (HW2.out _).mono ?_
      rintro e w0 ⟨rfl, rfl⟩
      go_wp2_with fail
      refine bodyPost_ret (results_tmp2 rfl _ _ _) rfl ?_
      exact ⟨none, 0, by rw [HE.out.1, HE.out.2]; rfl, by rw [HE.out.2]; exact fresh_nil _ _, Below.refl _ _⟩
    · have he : frWE g s b = 0 := by unfold frWE; rw [if_neg h8, if_neg h112]
      have hl : frWL kd g s b = frL kd g s b := by unfold frWL; rw [if_pos he]; rfl
      have hlen := frL_length (kd := kd) (gen := g) (seq := s) (b := b) (by omega)
      rw [he, hl, hlen]
      exact frWrite_main kd g s p cap b w h (by omega) (by omega) (by omega)
end Go.Proofs.Ytbmcajhknohhdaa

/-! FrmL -/
namespace Go.Proofs.Ytbmcajhknohhdaa
open Go.RowKit

/-- What is read of the 120 bytes that were sealed. -/
def padB (T : List UInt8) : Bool := (T.drop (8 + at8 T 7)).all fun c => c == 0
def contR (T : List UInt8) : FrR := if 2147483647 < frGen T ∨ 112 < at8 T 7 ∨ padB T = false then ⟨0, 0, [], 3⟩ else ⟨frGen T, frSeq T, frPay T, 0⟩
theorem eight {T : List UInt8} (h : 8 ≤ T.length) : ∃ a b c d e f g i r, T = a :: b :: c :: d :: e :: f :: g :: i :: r := by
  match T, h with
  | a :: b :: c :: d :: e :: f :: g :: i :: r, _ => exact ⟨a, b, c, d, e, f, g, i, r, rfl⟩
theorem rd1 {T : List UInt8} (h : 8 ≤ T.length) : dNum (T, 0) 1 255 = (((at8 T 0 : Nat) : Int), (T.drop 1, 0)) := by
  obtain ⟨a, b, c, d, e, f, g, i, r, rfl⟩ := eight h
  have := a.toNat_lt
  have hv : valB [a] = a.toNat := by simp [valB]
  unfold dNum
  rw [if_pos (by decide)]
  have ht : tookS (a :: b :: c :: d :: e :: f :: g :: i :: r, 0) (1 : Int).toNat = [a] := by simp [tookS]
  have hs : takeS (a :: b :: c :: d :: e :: f :: g :: i :: r, 0) (1 : Int).toNat = (b :: c :: d :: e :: f :: g :: i :: r, 0) := by simp [takeS]
  rw [ht, hs, hv, if_neg (by omega)]
  rfl
theorem rd4 {T : List UInt8} (h : 8 ≤ T.length) : dNum (T.drop 1, 0) 4 2147483647 = if 2147483647 < frGen T then (0, ([], 8)) else (((frGen T : Nat) : Int), (T.drop 5, 0)) := by
  obtain ⟨a, b, c, d, e, f, g, i, r, rfl⟩ := eight h
  have hv : valB [b, c, d, e] = frGen (a :: b :: c :: d :: e :: f :: g :: i :: r) := by simp [valB, frGen, at8]; omega
  unfold dNum
  rw [if_pos (by decide)]
  have ht : tookS ((a :: b :: c :: d :: e :: f :: g :: i :: r).drop 1, 0) (4 : Int).toNat = [b, c, d, e] := by simp [tookS]
  have hs : takeS ((a :: b :: c :: d :: e :: f :: g :: i :: r).drop 1, 0) (4 : Int).toNat = (f :: g :: i :: r, 0) := by simp [takeS]; omega
  rw [ht, hs, hv]
  generalize frGen (a :: b :: c :: d :: e :: f :: g :: i :: r) = G
  by_cases hG : 2147483647 < G
  · rw [if_pos hG, if_pos (by omega)]; rfl
  · rw [if_neg hG, if_neg (by omega)]; rfl
theorem rd2 {T : List UInt8} (h : 8 ≤ T.length) : dNum (T.drop 5, 0) 2 65535 = (((frSeq T : Nat) : Int), (T.drop 7, 0)) := by
  obtain ⟨a, b, c, d, e, f, g, i, r, rfl⟩ := eight h
  have hv : valB [f, g] = frSeq (a :: b :: c :: d :: e :: f :: g :: i :: r) := by simp [valB, frSeq, at8]
  have hl : valB [f, g] < 65536 := by have := valB_lt [f, g]; simpa using this
  unfold dNum
  rw [if_pos (by decide)]
  have ht : tookS ((a :: b :: c :: d :: e :: f :: g :: i :: r).drop 5, 0) (2 : Int).toNat = [f, g] := by simp [tookS]
  have hs : takeS ((a :: b :: c :: d :: e :: f :: g :: i :: r).drop 5, 0) (2 : Int).toNat = (i :: r, 0) := by simp [takeS]; omega
  rw [ht, hs, if_neg (by omega), hv]
  rfl
theorem rd1b {T : List UInt8} (h : 8 ≤ T.length) : dNum (T.drop 7, 0) 1 112 = if 112 < at8 T 7 then (0, ([], 8)) else (((at8 T 7 : Nat) : Int), (T.drop 8, 0)) := by
  obtain ⟨a, b, c, d, e, f, g, i, r, rfl⟩ := eight h
  have hv : valB [i] = at8 (a :: b :: c :: d :: e :: f :: g :: i :: r) 7 := by simp [valB, at8]
  unfold dNum
  rw [if_pos (by decide)]
  have ht : tookS ((a :: b :: c :: d :: e :: f :: g :: i :: r).drop 7, 0) (1 : Int).toNat = [i] := by simp [tookS]
  have hs : takeS ((a :: b :: c :: d :: e :: f :: g :: i :: r).drop 7, 0) (1 : Int).toNat = (r, 0) := by simp [takeS]
  rw [ht, hs, hv]
  generalize at8 (a :: b :: c :: d :: e :: f :: g :: i :: r) 7 = G
  by_cases hG : 112 < G
  · rw [if_pos hG, if_pos (by omega)]; rfl
  · rw [if_neg hG, if_neg (by omega)]; rfl
theorem rdno (k : Nat) (h1 : 1 ≤ k) (h4 : k ≤ 4) (most : Int) (hm : 0 ≤ most) : dNum ([], 8) k most = (0, ([], 8)) := by
  have hz : sizedB (k : Int) = true := by simp [sizedB]; omega
  have ht : tookS ([], 8) k = [] := by unfold tookS; rw [if_pos (by simp; omega)]
  have hs : takeS ([], 8) k = ([], 8) := by unfold takeS; rw [if_pos (by simp; omega)]; simp [failS]
  unfold dNum
  rw [if_pos hz, Int.toNat_natCast, ht, hs, if_neg (by simp [valB]; omega)]
  rfl
theorem at8_take {t : List UInt8} {k n : Nat} (h : k < n) : at8 (t.take n) k = at8 t k := by
  unfold at8
  simp [List.getD, h]
theorem frGen_take (t : List UInt8) : frGen (t.take 120) = frGen t := by
  unfold frGen
  rw [at8_take (by omega), at8_take (by omega), at8_take (by omega), at8_take (by omega)]
theorem frSeq_take (t : List UInt8) : frSeq (t.take 120) = frSeq t := by
  unfold frSeq
  rw [at8_take (by omega), at8_take (by omega)]
theorem frPay_take {t : List UInt8} (h : at8 t 7 ≤ 112) : frPay (t.take 120) = frPay t := by
  unfold frPay
  rw [at8_take (by omega), List.drop_take, List.take_take, Nat.min_eq_left (by omega)]
theorem frSeq_lt (t : List UInt8) : frSeq t < 65536 := by
  have h1 := at8_lt t 5
  have h2 := at8_lt t 6
  unfold frSeq; omega
theorem frHead_eq {t : List UInt8} (h : 8 ≤ t.length) : frHead (t.getD 0 0) (frGen t) (frSeq t) (at8 t 7) = t.take 8 := by
  obtain ⟨a, b, c, d, e, f, g, i, r, rfl⟩ := eight h
  have hb := b.toNat_lt
  have hc := c.toNat_lt
  have hd := d.toNat_lt
  have he := e.toNat_lt
  have hf := f.toNat_lt
  have hg := g.toNat_lt
  have hi := i.toNat_lt
  unfold frHead frGen frSeq at8
  simp only [List.getD_cons_zero, List.getD_cons_succ, List.take_succ_cons, List.take_zero, List.cons.injEq, and_true, true_and]
  refine ⟨?_, ?_, ?_, ?_, ?_, ?_, ?_⟩ <;> apply UInt8.toNat_inj.1 <;> simp <;> omega
theorem frBody_eq {t : List UInt8} (hl : t.length = 128) (h7 : at8 t 7 ≤ 112) : frBody (t.getD 0 0) (frGen t) (frSeq t) (frPay t) = t.take (8 + at8 t 7) ++ zeros (112 - at8 t 7) := by
  have hp : (frPay t).length = at8 t 7 := by unfold frPay; rw [List.length_take, List.length_drop]; omega
  unfold frBody
  rw [hp, frHead_eq (by omega), List.take_add]
  rfl
/-- When is what a sealed block holds written as the same block? -/
theorem frWL_eq {t : List UInt8} (hl : t.length = 128) (ht : t.drop 124 = frTail) (hs : sealL (t.take 120) = t.take 124) (h7 : at8 t 7 ≤ 112) :
    frWL (t.getD 0 0) (frGen t) (frSeq t) (frPay t) = t ↔ frGen t ≤ 2147483647 ∧ padB (t.take 120) = true := by
  have hp : (frPay t).length = at8 t 7 := by unfold frPay; rw [List.length_take, List.length_drop]; omega
  have hS := frSeq_lt t
  have hpad : (t.take 120).drop (8 + at8 (t.take 120) 7) = (t.drop (8 + at8 t 7)).take (112 - at8 t 7) := by
    rw [at8_take (by omega), List.drop_take]; congr 1; omega
  by_cases hG : frGen t ≤ 2147483647
  · have he : frWE (frGen t) (frSeq t) (frPay t) = 0 := by unfold frWE; rw [if_neg (by omega), if_neg (by omega)]
    have hw : frWL (t.getD 0 0) (frGen t) (frSeq t) (frPay t) = frL (t.getD 0 0) (frGen t) (frSeq t) (frPay t) := by unfold frWL; rw [if_pos he]; rfl
    have h120 : t.take 120 = t.take (8 + at8 t 7) ++ (t.drop (8 + at8 t 7)).take (112 - at8 t 7) := by
      rw [← List.take_add]; congr 1; omega
    have hlen2 : ((t.drop (8 + at8 t 7)).take (112 - at8 t 7)).length = 112 - at8 t 7 := by rw [List.length_take, List.length_drop]; omega
    rw [hw]
    unfold frL padB
    rw [frBody_eq hl h7, hpad]
    constructor
    · intro h
      refine ⟨hG, ?_⟩
      have h1 := congrArg (List.take 120) h
      have hb : (t.take (8 + at8 t 7) ++ zeros (112 - at8 t 7)).length = 120 := by rw [List.length_append, List.length_take]; simp [zeros]; omega
      rw [sealL, List.append_assoc, List.take_left' hb, h120] at h1
      have h2 := List.append_cancel_left h1
      rw [← h2]
      simp [zeros]
    · rintro ⟨-, h⟩
      have h2 : (t.drop (8 + at8 t 7)).take (112 - at8 t 7) = zeros (112 - at8 t 7) := by
        unfold zeros
        rw [List.eq_replicate_iff]
        refine ⟨hlen2, fun x hx => ?_⟩
        have := List.all_eq_true.1 h x hx
        simpa using this
      rw [← h2, ← h120, hs, ← ht, List.take_append_drop]
  · have he : frWE (frGen t) (frSeq t) (frPay t) = 8 := by unfold frWE; rw [if_pos (by omega)]
    have hw : frWL (t.getD 0 0) (frGen t) (frSeq t) (frPay t) = [] := by unfold frWL; rw [he]; rfl
    rw [hw]
    constructor
    · intro h; rw [← h] at hl; simp at hl
    · rintro ⟨h, -⟩; exact absurd h hG
/-- What is read of a block whose form and sum hold. -/
theorem frR_cont {kd : UInt8} {t : List UInt8} (hl : t.length = 128) (h0 : t.getD 0 0 = kd) (ht : t.drop 124 = frTail) (hs : sealL (t.take 120) = t.take 124) : frR kd t = contR (t.take 120) := by
  subst h0
  have hm := frR_more (kd := t.getD 0 0) hl ⟨rfl, (tail_iff hl).1 ht⟩ hs
  unfold contR
  rw [frGen_take, frSeq_take, at8_take (by omega)]
  by_cases h7 : 112 < at8 t 7
  · rw [if_pos (.inr (.inl h7))]
    exact hm.1 (.inl h7)
  · have he := frWL_eq hl ht hs (by omega)
    by_cases hb : 2147483647 < frGen t ∨ 112 < at8 t 7 ∨ padB (t.take 120) = false
    · rw [if_pos hb]
      refine hm.1 (.inr fun h => ?_)
      obtain ⟨h1, h2⟩ := he.1 h
      rcases hb with hb | hb | hb
      · omega
      · exact h7 hb
      · rw [h2] at hb; cases hb
    · rw [if_neg hb, frPay_take (by omega)]
      refine hm.2 h7 (he.2 ⟨by omega, ?_⟩)
      cases hq : padB (t.take 120) with
      | true => rfl
      | false => exact absurd (.inr (.inr hq)) hb
def ContIs (B : Nat) (w : World) (T : List UInt8) (e : Ending) (w' : World) : Prop := ∃ q n c, e = .returned (.tuple #[.int .i64 (contR T).gen, .int .i64 (contR T).seq, .slice q n c, .int .i64 (contR T).e]) ∧ BsAt w' q n c (contR T).pay ∧ (∀ a, q = some a → B ≤ a.block) ∧ Below w.heap.size w w'
theorem partP_ge {p : Option Addr} {lo hi B : Nat} (h : ∀ a, p = some a → B ≤ a.block) : ∀ a, partP p lo hi = some a → B ≤ a.block := by
  intro a ha
  unfold partP at ha
  split at ha
  · exact h a ha
  · cases p with
    | none => cases ha
    | some q =>
      simp only [Option.map_some, Option.some.injEq] at ha
      rw [← ha]
      have : (q.add lo).block = q.block := by unfold Addr.add; split <;> rfl
      rw [this]; exact h q rfl
theorem frPay_part {T : List UInt8} : (T.take (8 + at8 T 7)).drop 8 = frPay T := by
  unfold frPay
  rw [List.drop_take]; congr 1; omega

set_option maxRecDepth 100000 in
set_option maxHeartbeats 3200000 in
theorem fcontent_any (B : Nat) (p : Option Addr) (len cap : Nat) (T : List UInt8) (w : World) (h : BsAt w p len cap T) (hl : T.length = 120) (h0 : 0 < w.heap.size) (hp : ∀ a, p = some a → B ≤ a.block) :
    Calls Try.prog 73 #[.slice p len cap] w (ContIs B w T) := by
  have hsame := h.same
  have HBs := Lib.hid h
  have HP := Lib.hid hp
  have HR := Lib.hid (newRd_any p len cap T w h (by omega) h0)
  have HD := Lib.hid (And.intro (rd1 (T := T) (by omega)) (And.intro (rd4 (T := T) (by omega)) (And.intro (rd2 (T := T) (by omega)) (rd1b (T := T) (by omega)))))
  have HN := Lib.hid (And.intro (show dNum ([], 8) 2 65535 = _ from rdno 2 (by omega) (by omega) 65535 (by omega)) (show dNum ([], 8) 1 112 = _ from rdno 1 (by omega) (by omega) 112 (by omega)))
  have hle : len ≤ cap := h.le
  have hT : (T.drop 1).length ≤ 1000000 ∧ (T.drop 5).length ≤ 1000000 ∧ (T.drop 7).length ≤ 1000000 := by simp only [List.length_drop]; omega
  have HT := Lib.hid hT
  obtain rfl : len = 120 := by omega
  clear h hp hT hsame
  by_cases hG : 2147483647 < frGen T
  · have HE := Lib.hid (show contR T = ⟨0, 0, [], 3⟩ by unfold contR; rw [if_pos (.inl hG)])
    have hd := HD.out.2.1
    rw [if_pos hG] at hd
    have HD2 := Lib.hid hd
    clear hd hG
    go_enter Try.func73, Try.ntmps73
    go_wp2_with fail
    with_reducible refine HR.out.mono ?_
    rintro e w1 ⟨b, g, rfl, hb, hgb, hgw, hA1, hB1⟩
    have HA1 := Lib.hid hA1
    have HB1 := Lib.hid hB1
    have HGB := Lib.hid hgb
    clear hA1 hB1 hgw hgb HR
    go_wp2_with fail
    refine (rdnum_any b _ g (T, 0) 1 255 _ HA1.out HGB.out (by show T.length ≤ _; omega)).mono ?_
    rintro e w2 ⟨rfl, hT2⟩
    rw [HD.out.1] at hT2
    rw [HD.out.1]
    have HT2 := Lib.hid hT2
    clear hT2
    go_wp2_with fail
    refine (rdnum_any b _ g _ 4 2147483647 _ HT2.out.1 HGB.out HT.out.1).mono ?_
    rintro e w3 ⟨rfl, hT3⟩
    rw [HD2.out] at hT3
    rw [HD2.out]
    have HT3 := Lib.hid (HT2.out.trans hT3)
    clear hT3 HT2
    go_wp2_with fail
    refine (rdnum_any b _ g _ 2 65535 _ HT3.out.1 HGB.out (by simp)).mono ?_
    rintro e w4 ⟨rfl, hT4⟩
    rw [HN.out.1] at hT4
    rw [HN.out.1]
    have HT4 := Lib.hid (HT3.out.trans hT4)
    clear hT4 HT3
    go_wp2_with fail
    refine (rdnum_any b _ g _ 1 112 _ HT4.out.1 HGB.out (by simp)).mono ?_
    rintro e w5 ⟨rfl, hT5⟩
    rw [HN.out.2] at hT5
    rw [HN.out.2]
    have HT5 := Lib.hid (HT4.out.trans hT5)
    clear hT5 HT4
    go_wp2_with fail
    refine (rderr_any b _ g _ _ HT5.out.1).mono ?_
    rintro e w6 ⟨rfl, rfl⟩
    go_wp2_with fail
    refine bodyPost_ret (results_tmp4 rfl _ _ _) rfl ?_
    exact ⟨none, 0, 0, by rw [HE.out]; rfl, by rw [HE.out]; exact bsAt_nil _, (fun _ h => by cases h), HB1.out.trans (HT5.out.2.below HB1.out.size fun k hk => by subst hk; exact hb)⟩
  · have hd := HD.out.2.1
    rw [if_neg hG] at hd
    have HD2 := Lib.hid hd
    clear hd
    by_cases h7 : 112 < at8 T 7
    · have HE := Lib.hid (show contR T = ⟨0, 0, [], 3⟩ by unfold contR; rw [if_pos (.inr (.inl h7))])
      have hd := HD.out.2.2.2
      rw [if_pos h7] at hd
      have HD7 := Lib.hid hd
      clear hd h7 hG
      go_enter Try.func73, Try.ntmps73
      go_wp2_with fail
      with_reducible refine HR.out.mono ?_
      rintro e w1 ⟨b, g, rfl, hb, hgb, hgw, hA1, hB1⟩
      have HA1 := Lib.hid hA1
      have HB1 := Lib.hid hB1
      have HGB := Lib.hid hgb
      clear hA1 hB1 hgw hgb HR
      go_wp2_with fail
      refine (rdnum_any b _ g (T, 0) 1 255 _ HA1.out HGB.out (by show T.length ≤ _; omega)).mono ?_
      rintro e w2 ⟨rfl, hT2⟩
      rw [HD.out.1] at hT2
      rw [HD.out.1]
      have HT2 := Lib.hid hT2
      clear hT2
      go_wp2_with fail
      refine (rdnum_any b _ g _ 4 2147483647 _ HT2.out.1 HGB.out HT.out.1).mono ?_
      rintro e w3 ⟨rfl, hT3⟩
      rw [HD2.out] at hT3
      rw [HD2.out]
      have HT3 := Lib.hid (HT2.out.trans hT3)
      clear hT3 HT2
      go_wp2_with fail
      refine (rdnum_any b _ g _ 2 65535 _ HT3.out.1 HGB.out HT.out.2.1).mono ?_
      rintro e w4 ⟨rfl, hT4⟩
      rw [HD.out.2.2.1] at hT4
      rw [HD.out.2.2.1]
      have HT4 := Lib.hid (HT3.out.trans hT4)
      clear hT4 HT3
      go_wp2_with fail
      refine (rdnum_any b _ g _ 1 112 _ HT4.out.1 HGB.out HT.out.2.2).mono ?_
      rintro e w5 ⟨rfl, hT5⟩
      rw [HD7.out] at hT5
      rw [HD7.out]
      have HT5 := Lib.hid (HT4.out.trans hT5)
      clear hT5 HT4
      go_wp2_with fail
      refine (rderr_any b _ g _ _ HT5.out.1).mono ?_
      rintro e w6 ⟨rfl, rfl⟩
      go_wp2_with fail
      refine bodyPost_ret (results_tmp4 rfl _ _ _) rfl ?_
      exact ⟨none, 0, 0, by rw [HE.out]; rfl, by rw [HE.out]; exact bsAt_nil _, (fun _ h => by cases h), HB1.out.trans (HT5.out.2.below HB1.out.size fun k hk => by subst hk; exact hb)⟩
    · have hd := HD.out.2.2.2
      rw [if_neg h7] at hd
      have HD7 := Lib.hid hd
      have HC := Lib.hid (show contR T = if padB T = false then ⟨0, 0, [], 3⟩ else ⟨frGen T, frSeq T, frPay T, 0⟩ by
        unfold contR
        by_cases hb : padB T = false
        · rw [if_pos (.inr (.inr hb)), if_pos hb]
        · rw [if_neg (by rintro (h | h | h); exact hG h; exact h7 h; exact hb h), if_neg hb])
      have HPd := Lib.hid (show padB T = (((T.take 120).drop (8 + at8 T 7)).all fun c => c == 0) by rw [List.take_of_length_le (by omega)]; rfl)
      have HPy := Lib.hid (frPay_part (T := T))
      clear hd hG
      generalize at8 T 7 = n at *
      have hnn : n ≤ 112 := by omega
      clear h7
      go_enter Try.func73, Try.ntmps73
      go_wp2_with fail
      with_reducible refine HR.out.mono ?_
      rintro e w1 ⟨b, g, rfl, hb, hgb, hgw, hA1, hB1⟩
      have HA1 := Lib.hid hA1
      have HB1 := Lib.hid hB1
      have HGB := Lib.hid hgb
      clear hA1 hB1 hgw hgb HR
      go_wp2_with fail
      refine (rdnum_any b _ g (T, 0) 1 255 _ HA1.out HGB.out (by show T.length ≤ _; omega)).mono ?_
      rintro e w2 ⟨rfl, hT2⟩
      rw [HD.out.1] at hT2
      rw [HD.out.1]
      have HT2 := Lib.hid hT2
      clear hT2
      go_wp2_with fail
      refine (rdnum_any b _ g _ 4 2147483647 _ HT2.out.1 HGB.out HT.out.1).mono ?_
      rintro e w3 ⟨rfl, hT3⟩
      rw [HD2.out] at hT3
      rw [HD2.out]
      have HT3 := Lib.hid (HT2.out.trans hT3)
      clear hT3 HT2
      go_wp2_with fail
      refine (rdnum_any b _ g _ 2 65535 _ HT3.out.1 HGB.out HT.out.2.1).mono ?_
      rintro e w4 ⟨rfl, hT4⟩
      rw [HD.out.2.2.1] at hT4
      rw [HD.out.2.2.1]
      have HT4 := Lib.hid (HT3.out.trans hT4)
      clear hT4 HT3
      go_wp2_with fail
      refine (rdnum_any b _ g _ 1 112 _ HT4.out.1 HGB.out HT.out.2.2).mono ?_
      rintro e w5 ⟨rfl, hT5⟩
      rw [HD7.out] at hT5
      rw [HD7.out]
      have HT5 := Lib.hid (HT4.out.trans hT5)
      clear hT5 HT4
      have hadd : IntKind.i64.wrap (8 + (n : Int)) = 8 + (n : Int) := IntWalk.i64_in _ (by omega)
      go_wp2_with fail
      refine (rderr_any b _ g _ _ HT5.out.1).mono ?_
      rintro e w6 ⟨rfl, rfl⟩
      have HB5 := Lib.hid (HB1.out.trans (HT5.out.2.below HB1.out.size fun k hk => by subst hk; exact hb))
      have HS5 := Lib.hid (HBs.out.below HB5.out (Nat.le_refl _))
      clear HT5 HB1 HA1 HD HD2 HD7 HN hadd
      have HPt := Lib.hid (fun V => fpart_any p 120 cap (8 + n) 120 (8 + (n : Int)) 120 V (by omega) rfl (by omega) hle)
      have HPu := Lib.hid (fun V => fpart_any p 120 cap 8 (8 + n) 8 (8 + (n : Int)) V rfl (by omega) (by omega) (by omega))
      have HBl := Lib.hid (fun V (hV : BsAt V p 120 cap T) => fblank_any _ _ _ _ V (part_bs (lo := 8 + n) (hi := 120) hV (by omega) (by omega)))
      rw [← HPd.out] at HBl
      go_wp2_with fail
      with_reducible refine (HPt.out _).mono ?_
      rintro e w7 ⟨rfl, rfl⟩
      cases hpd : padB T with
      | true =>
        rw [hpd] at HBl HC
        clear hpd
        go_wp2_with fail
        with_reducible refine (HBl.out _ HS5.out).mono ?_
        rintro e w8 ⟨rfl, rfl⟩
        go_wp2_with fail
        with_reducible refine (HPu.out _).mono ?_
        rintro e w9 ⟨rfl, rfl⟩
        go_wp2_with fail
        refine bodyPost_ret (results_tmp4 rfl _ _ _) rfl ?_
        have hc : contR T = ⟨frGen T, frSeq T, frPay T, 0⟩ := HC.out
        have hq := part_bs (lo := 8) (hi := 8 + n) HS5.out (by omega) (by omega)
        rw [HPy.out, show 8 + n - 8 = n by omega] at hq
        exact ⟨_, _, _, by rw [hc]; rfl, by rw [hc]; exact hq, partP_ge HP.out, HB5.out⟩
      | false =>
        rw [hpd] at HBl HC
        clear hpd
        go_wp2_with fail
        with_reducible refine (HBl.out _ HS5.out).mono ?_
        rintro e w8 ⟨rfl, rfl⟩
        go_wp2_with fail
        refine bodyPost_ret (results_tmp4 rfl _ _ _) rfl ?_
        have hc : contR T = ⟨0, 0, [], 3⟩ := HC.out
        exact ⟨none, 0, 0, by rw [hc]; rfl, by rw [hc]; exact bsAt_nil _, (fun _ h => by cases h), HB5.out⟩
theorem kd_ne {t : List UInt8} {g off : Nat} {w : World} (hl : t.length = 128) (h : ∀ i, (hi : i < t.length) → w.cell? ⟨g, off + i, none⟩ = some (.int .u8 (t[i].toNat : Int))) : w.cell? ⟨g, off, none⟩ = some (.int .u8 ((t.getD 0 0).toNat : Int)) := by
  have h1 := h 0 (by omega)
  rw [Nat.add_zero] at h1
  rw [h1]
  simp [List.getD, show 0 < t.length by omega]
theorem frTail_str (a : List UInt8) : ((⟨a.toArray⟩ : ByteArray).toList == [0, 0, 0, 69]) = decide (a = frTail) := by
  have e : (⟨#[0, 0, 0, 69]⟩ : ByteArray).toList = [0, 0, 0, 69] := by simp
  rw [← e, ← beq_toListBytes]
  by_cases h : a = frTail
  · rw [h]; decide
  · rw [show decide (a = frTail) = false by simpa using h]
    exact str_ne (b := frTail) h

set_option maxRecDepth 100000 in
set_option maxHeartbeats 3200000 in
theorem frRead_any : FrReadC := by
  intro kd p len cap t w h h5
  have hsame := h.same
  subst hsame
  by_cases hlen : t.length = 128
  case neg =>
    have HE := Lib.hid (show frR kd t = ⟨0, 0, [], 1⟩ from by
      have he : frRE kd t = 1 := by unfold frRE; rw [if_pos hlen]
      unfold frR; rw [if_neg (by omega), he])
    have hbm : t.length ≤ 9223372036854775807 := by omega
    have d1 : ¬ ((t.length : Int) = 128) := by omega
    clear h hlen h5
    generalize t.length = n at *
    go_enter Try.func68, Try.ntmps68
    go_wp2_with fail
    refine bodyPost_ret (results_tmp4 rfl _ _ _) rfl ?_
    exact ⟨none, 0, by rw [HE.out]; rfl, by rw [HE.out]; exact ⟨bsAt_nil _, fun _ h => by cases h⟩, Below.refl _ _⟩
  case pos =>
  obtain ⟨g, off, rfl, hg, hcs⟩ : ∃ g off, p = some ⟨g, off, none⟩ ∧ g < w.heap.size ∧ ∀ i, (h : i < t.length) → w.cell? ⟨g, off + i, none⟩ = some (.int .u8 (t[i].toNat : Int)) := by
    rcases h.place with ⟨-, h2⟩ | ⟨h2, -⟩ | ⟨g', off, rfl, h3, h4⟩
    · have := h.le; omega
    · rw [h2] at hlen; simp at hlen
    · exact ⟨g', off, rfl, h3, h4⟩
  have c0 := kd_ne hlen hcs
  have hle := h.le
  have HBs := Lib.hid h
  have h0 : 0 < w.heap.size := by omega
  clear hcs h5 h
  rw [hlen] at hle HBs
  rw [hlen]
  by_cases hk : t.getD 0 0 = kd
  case neg =>
    have HE := Lib.hid (show frR kd t = ⟨0, 0, [], 3⟩ from frR_form hlen (fun h1 => hk (UInt8.toNat_inj.1 h1.1)))
    have d1 : ¬ (((t.getD 0 0).toNat : Nat) : Int) = ((kd.toNat : Nat) : Int) := by
      intro e; exact hk (UInt8.toNat_inj.1 (by omega))
    clear hk
    generalize (t.getD 0 0).toNat = x at *
    generalize kd.toNat = y at *
    go_enter Try.func68, Try.ntmps68
    go_wp2_with fail
    refine bodyPost_ret (results_tmp4 rfl _ _ _) rfl ?_
    exact ⟨none, 0, by rw [HE.out]; rfl, by rw [HE.out]; exact ⟨bsAt_nil _, fun _ h => by cases h⟩, Below.refl _ _⟩
  case pos =>
  rw [hk] at c0
  have HP1 := Lib.hid (fun V => fpart_at g off 128 cap 124 128 124 128 (off + 124) 4 V rfl rfl (by decide) (by omega) rfl rfl)
  have HP2 := Lib.hid (fun V => fpart_at g off 128 cap 0 124 0 124 off 124 V rfl rfl (by decide) (by omega) rfl rfl)
  have hb1 : BsAt w (some ⟨g, off + 124, none⟩) 4 4 (t.drop 124) := by
    have h1 := part_bs (lo := 124) (hi := 128) HBs.out (by omega) (by omega)
    rw [List.take_of_length_le (by omega)] at h1
    have e : partP (some ⟨g, off, none⟩) 124 128 = some ⟨g, off + 124, none⟩ := by
      unfold partP Addr.add; simp
    rw [e] at h1; exact h1
  have hb2 : BsAt w (some ⟨g, off, none⟩) 124 124 (t.take 124) := by
    have h1 := part_bs (lo := 0) (hi := 124) HBs.out (by omega) (by omega)
    have e : partP (some ⟨g, off, none⟩) 0 124 = some ⟨g, off, none⟩ := by
      unfold partP Addr.add; simp
    rw [e] at h1; exact h1
  have HStr := Lib.hid (run_string_bs (P := Try.prog) w 31 5 9 Try.underlying31 Try.underlying5 Try.underlying9 hb1)
  have HSe := Lib.hid (frTail_str (t.drop 124))
  have HO := Lib.hid (cOpen_new _ _ _ _ w hb2 (by rw [List.length_take]; omega))
  clear hb1 hb2
  by_cases ht : t.drop 124 = frTail
  case neg =>
    have HE := Lib.hid (show frR kd t = ⟨0, 0, [], 3⟩ from frR_form hlen (fun h1 => ht ((tail_iff hlen).2 h1.2)))
    rw [show decide (t.drop 124 = frTail) = false by simpa using ht] at HSe
    have q := HStr.out
    have q2 := HSe.out
    generalize (⟨(t.drop 124).toArray⟩ : ByteArray) = S at *
    generalize kd.toNat = y at *
    clear ht HStr HSe
    go_enter Try.func68, Try.ntmps68
    go_wp2_with fail
    with_reducible refine (HP1.out _).mono ?_
    rintro e w1 ⟨rfl, rfl⟩
    go_wp2_with fail
    refine bodyPost_ret (results_tmp4 rfl _ _ _) rfl ?_
    exact ⟨none, 0, by rw [HE.out]; rfl, by rw [HE.out]; exact ⟨bsAt_nil _, fun _ h => by cases h⟩, Below.refl _ _⟩
  case pos =>
  rw [show decide (t.drop 124 = frTail) = true by simpa using ht] at HSe
  have q := HStr.out
  have q2 := HSe.out
  generalize (⟨(t.drop 124).toArray⟩ : ByteArray) = S at *
  have hl4 : (t.take 124).length = 124 := by rw [List.length_take]; omega
  have ht4 : (t.take 124).take 120 = t.take 120 := by rw [List.take_take, show min 120 124 = 120 from rfl]
  have hse : sealedB (t.take 124) = true ↔ sealL (t.take 120) = t.take 124 := by
    have := sealed_eq (t := t.take 124) (by omega)
    rw [hl4, show 124 - 4 = 120 from rfl, ht4] at this
    exact this
  cases hsd : sealedB (t.take 124) with
  | false =>
    have hne : ¬ sealL (t.take 120) = t.take 124 := fun h => by rw [hse.2 h] at hsd; cases hsd
    have HE := Lib.hid (show frR kd t = ⟨0, 0, [], 18⟩ from frR_sum hlen ⟨by unfold at8; rw [hk], (tail_iff hlen).1 ht⟩ hne)
    have he : openErr (t.take 124) = 18 := by unfold openErr; rw [if_neg (by omega), hsd]; rfl
    have HO2 := Lib.hid he
    generalize kd.toNat = y at *
    clear ht HStr HSe hse hne hsd he hl4 ht4
    go_enter Try.func68, Try.ntmps68
    go_wp2_with fail
    with_reducible refine (HP1.out _).mono ?_
    rintro e w1 ⟨rfl, rfl⟩
    go_wp2_with fail
    with_reducible refine (HP2.out _).mono ?_
    rintro e w1 ⟨rfl, rfl⟩
    go_wp2_with fail
    with_reducible refine HO.out.mono ?_
    rintro e w2 ⟨p2, n2, c2, rfl, hb2, hB2, hp2⟩
    rw [HO2.out]
    have HB2 := Lib.hid hB2
    clear hb2 hB2 hp2
    go_wp2_with fail
    refine bodyPost_ret (results_tmp4 rfl _ _ _) rfl ?_
    exact ⟨none, 0, by rw [HE.out]; rfl, by rw [HE.out]; exact ⟨bsAt_nil _, fun _ h => by cases h⟩, HB2.out⟩
  | true =>
    have HE := Lib.hid (frR_cont hlen hk ht (hse.1 hsd))
    have he : openErr (t.take 124) = 0 := by unfold openErr; rw [if_neg (by omega), hsd]; rfl
    have hol : openL (t.take 124) = t.take 120 := by unfold openL; rw [hsd, if_pos rfl, hl4, ht4]
    have hl0 : (t.take 120).length = 120 := by rw [List.length_take]; omega
    have HO2 := Lib.hid (And.intro he (And.intro hol hl0))
    generalize hkk : kd.toNat = y at *
    clear ht HStr HSe hse hsd he hl4 ht4 hol hl0
    go_enter Try.func68, Try.ntmps68
    go_wp2_with fail
    with_reducible refine (HP1.out _).mono ?_
    rintro e w1 ⟨rfl, rfl⟩
    go_wp2_with fail
    with_reducible refine (HP2.out _).mono ?_
    rintro e w1 ⟨rfl, rfl⟩
    go_wp2_with fail
    with_reducible refine HO.out.mono ?_
    rintro e w2 ⟨p2, n2, c2, rfl, hb2, hB2, hp2⟩
    rw [HO2.out.1]
    rw [HO2.out.2.1] at hb2
    have HB2 := Lib.hid hB2
    have HC := Lib.hid (fcontent_any w.heap.size p2 n2 c2 _ w2 hb2 HO2.out.2.2 (Nat.lt_of_lt_of_le h0 hB2.size) hp2)
    clear hb2 hB2 hp2
    go_wp2_with fail
    with_reducible refine HC.out.mono ?_
    rintro e w3 ⟨p3, n3, c3, rfl, hb3, hp3, hB3⟩
    have HB3 := Lib.hid (HB2.out.trans (hB3.mono HB2.out.size))
    have HS3 := Lib.hid hb3
    have HP3 := Lib.hid hp3
    clear hb3 hB3 hp3
    go_wp2_with fail
    refine bodyPost_ret (results_tmp4 rfl _ _ _) rfl ?_
    have hn := HS3.out.same
    have hs3 := HS3.out
    subst hn
    exact ⟨p3, c3, by rw [HE.out]; rfl, by rw [HE.out]; exact ⟨hs3, HP3.out⟩, HB3.out⟩
end Go.Proofs.Ytbmcajhknohhdaa

/-! VltP -/
namespace Go.Proofs.Ytbmcajhknohhdaa
open Go.RowKit

/-- The cells of a vault on the disk at db. -/
def vltV (db a : Nat) : Array Value := #[ptrV db, .int .i64 (a : Int)]
def theVlt : VltRel where
  At := fun w vb db a G => Blk w vb (vltV db a) 58 ∧ G = fun k => k = vb
  lt := by
    rintro w vb db a G ⟨h, rfl⟩ k rfl
    exact h.lt
  kept := by
    rintro w w' vb db a G T ⟨h, rfl⟩ hc hn
    exact ⟨hc.kept h (hn vb rfl), rfl⟩
theorem vlt_cells {w : World} {vb db a : Nat} {t : TypeId} (h : Blk w vb (vltV db a) t) :
    w.cell? ⟨vb, 0, none⟩ = some (.pointer (some ⟨db, 0, none⟩)) ∧ w.cell? ⟨vb, 1, none⟩ = some (.int .i64 (a : Int)) := ⟨h.cell 0, h.cell 1⟩
theorem vMade_any {w : World} {vb db : Nat} (k0 : w.cell? ⟨vb, 0, none⟩ = some (.pointer (some ⟨db, 0, none⟩))) :
    Calls Try.prog 28 #[ptrV vb] w fun e w' => e = .returned (.bool true) ∧ w = w' := by
  unfold ptrV
  go_enter Try.func28, Try.ntmps28
  go_wp2_with fail
  go_ret
  exact ⟨rfl, rfl⟩
theorem vMade_no {w : World} {v : Value} (h : NobVv w v) : Calls Try.prog 28 #[v] w fun e w' => e = .returned (.bool false) ∧ w = w' := by
  rcases h with rfl | ⟨b, rfl, hb⟩
  · go_enter Try.func28, Try.ntmps28
    go_wp2_with fail
    go_ret
    exact ⟨rfl, rfl⟩
  · have k0 : w.cell? ⟨b, 0, none⟩ = some (.pointer none) := hb.cell 0
    clear hb
    unfold ptrV
    go_enter Try.func28, Try.ntmps28
    go_wp2_with fail
    go_ret
    exact ⟨rfl, rfl⟩
theorem vStart_any {w : World} {vb a : Nat} (i : Nat) (k1 : w.cell? ⟨vb, 1, none⟩ = some (.int .i64 (a : Int))) (hs : a + 256 * i ≤ 1000000) :
    Calls Try.prog 43 #[ptrV vb, .int .i64 (i : Int)] w fun e w' => e = .returned (.int .i64 ((a + 256 * i : Nat) : Int)) ∧ w = w' := by
  unfold ptrV
  have h1 : IntKind.i64.wrap ((i : Int) * 256) = (i : Int) * 256 := IntWalk.i64_in _ (by omega)
  have h2 : IntKind.i64.wrap ((a : Int) + (i : Int) * 256) = (a : Int) + (i : Int) * 256 := IntWalk.i64_in _ (by omega)
  have HE := Lib.hid (show ((a + 256 * i : Nat) : Int) = (a : Int) + (i : Int) * 256 by omega)
  go_enter Try.func43, Try.ntmps43
  go_wp2_with fail
  go_ret
  exact ⟨by rw [HE.out]; rfl, rfl⟩
theorem vAreaOf_any (g : Nat) (w : World) :
    Calls Try.prog 44 #[.int .i64 (g : Int)] w fun e w' => e = .returned (.int .i64 ((g % 2 : Nat) : Int)) ∧ w = w' := by
  have HE := Lib.hid (show ((g % 2 : Nat) : Int) = (g : Int) % 2 by omega)
  go_enter Try.func44, Try.ntmps44
  go_wp2_with fail
  go_ret
  exact ⟨by rw [HE.out]; rfl, rfl⟩
theorem vBlocks_any : VBlocksC := by
  intro n w h2
  by_cases hn : n < 1
  · rw [if_pos hn]
    have d : decide (n < 1) = true := by simpa using hn
    clear hn
    go_enter Try.func25, Try.ntmps25
    go_wp2_with fail
    go_ret
    exact ⟨rfl, rfl⟩
  · rw [if_neg hn]
    obtain ⟨m, rfl⟩ : ∃ m : Nat, n = (m : Int) + 1 := ⟨(n - 1).toNat, by omega⟩
    have HE := Lib.hid (show ((blkN ((m : Int) + 1).toNat : Nat) : Int) = (m : Int) / 128 + 1 by unfold blkN; omega)
    have d : decide ((m : Int) + 1 < 1) = false := by simp; omega
    have E1 := Lib.hid (show wrap64 (m : Int) = m by unfold wrap64; omega)
    have E2 := Lib.hid (show (m : Int).tdiv 128 = (m : Int) / 128 from Int.tdiv_eq_ediv_of_nonneg (by omega))
    have E3 := Lib.hid (show wrap64 ((m : Int) / 128) = (m : Int) / 128 by unfold wrap64; omega)
    have E4 := Lib.hid (show wrap64 ((m : Int) / 128 + 1) = (m : Int) / 128 + 1 by unfold wrap64; omega)
    clear hn h2
    go_enter Try.func25, Try.ntmps25
    go_wp2_with fail
    go_ret
    exact ⟨by rw [HE.out, E1.out, E2.out, E3.out, E4.out]; rfl, rfl⟩
theorem vBlocks_nat (n : Nat) (w : World) (hn : n ≤ 9223372036854775807) :
    Calls Try.prog 25 #[.int .i64 (n : Int)] w fun e w' => e = .returned (.int .i64 ((blkN n : Nat) : Int)) ∧ w = w' :=
  (vBlocks_any n w (by omega)).mono fun e w' ⟨he, hw⟩ => ⟨by
    rw [he]
    by_cases h : (n : Int) < 1
    · rw [if_pos h, show n = 0 by omega]; rfl
    · rw [if_neg h, Int.toNat_natCast], hw⟩
theorem vNewNil_any : VNewNilC := by
  intro w
  go_enter Try.func8, Try.ntmps8
  go_wp2_with fail
  refine bodyPost_ret (results_tmp2 rfl _ _ _) rfl ?_
  exact ⟨rfl, Below.refl _ _⟩
set_option maxHeartbeats 800000 in
theorem vNew_any : VNewC theRel theVlt := by
  intro a w db S D hA hok hf
  have HL := Lib.hid (dLen_any hA)
  have HH := Lib.hid hA
  have HO := Lib.hid hok
  have HF := Lib.hid hf
  have n3 : decide ((a : Int) < 0) = false := by simp
  have hlen := hok.few
  have h3 : IntKind.i64.wrap ((S.len : Int) - 512) = (S.len : Int) - 512 := IntWalk.i64_in _ (by omega)
  have n4 : decide ((S.len : Int) - 512 < (a : Int)) = false := by simp; omega
  clear hA hok hf hlen
  unfold ptrV at *
  go_enter Try.func8, Try.ntmps8
  go_wp2_with fail
  with_reducible refine HL.out.mono ?_
  rintro e w1 ⟨rfl, hB⟩
  have HB := Lib.hid hB
  clear hB
  go_wp2_with fail
  refine bodyPost_ret (results_tmp2 rfl _ _ _) rfl ?_
  have hA1 : theRel.At w1 db S D := DiskRel.below HH.out HB.out
  have hB1 := belowNew w1 (.cells (vltV db a) 58)
  refine ⟨w1.heap.size, fun k => D k ∨ k = w1.heap.size, rfl, ⟨HO.out, HF.out, D, _, DiskRel.below hA1 hB1, ⟨Blk.new w1 _ _, rfl⟩, ?_, fun _ => Iff.rfl⟩, ?_, HB.out.trans (hB1.mono HB.out.size)⟩
  · intro k hk e
    have := (theRel.lt hA1).2 k hk
    omega
  · rintro k (hk | rfl)
    · exact .inl hk
    · exact .inr HB.out.size
set_option maxHeartbeats 800000 in
theorem vNewNo_any : VNewNoC theRel := by
  intro a w db S D hA hok hf h64 h65
  have HL := Lib.hid (dLen_any hA)
  have hlen := hok.few
  have h3 : IntKind.i64.wrap ((S.len : Int) - 512) = (S.len : Int) - 512 := IntWalk.i64_in _ (by omega)
  have hc : a < 0 ∨ (¬ a < 0 ∧ (S.len : Int) - 512 < a) := by omega
  clear hA hok hf hlen
  unfold ptrV at *
  rcases hc with n1 | ⟨n1, n2⟩
  · have d1 : decide (a < 0) = true := by simpa using n1
    clear n1 HL h3
    go_enter Try.func8, Try.ntmps8
    go_wp2_with fail
    refine bodyPost_ret (results_tmp2 rfl _ _ _) rfl ?_
    exact ⟨rfl, Below.refl _ _⟩
  · have d1 : decide (a < 0) = false := by simpa using n1
    have d2 : decide ((S.len : Int) - 512 < a) = true := by simpa using n2
    clear n1 n2
    go_enter Try.func8, Try.ntmps8
    go_wp2_with fail
    with_reducible refine HL.out.mono ?_
    rintro e w1 ⟨rfl, hB⟩
    have HB := Lib.hid hB
    clear hB
    go_wp2_with fail
    refine bodyPost_ret (results_tmp2 rfl _ _ _) rfl ?_
    exact ⟨rfl, HB.out⟩
theorem nobSave_any : NobSaveC := by
  intro w v gen p len cap h
  have HM := Lib.hid (vMade_no h)
  clear h
  go_enter Try.func12, Try.ntmps12
  go_wp2_with fail
  with_reducible refine HM.out.mono ?_
  rintro e w1 ⟨rfl, rfl⟩
  go_wp2_with fail
  go_ret
  exact ⟨rfl, Below.refl _ _⟩
theorem nobLoad_any : NobLoadC := by
  intro w v h
  have HM := Lib.hid (vMade_no h)
  clear h
  go_enter Try.func21, Try.ntmps21
  go_wp2_with fail
  with_reducible refine HM.out.mono ?_
  rintro e w1 ⟨rfl, rfl⟩
  go_wp2_with fail
  refine bodyPost_ret (results_tmp3 rfl _ _ _) rfl ?_
  exact ⟨none, 0, rfl, Below.refl _ _⟩
theorem vNilSave_any : VNilSaveC := fun p len cap w => nobSave_any w _ 0 p len cap (.inl rfl)
end Go.Proofs.Ytbmcajhknohhdaa

/-! VltQ -/
namespace Go.Proofs.Ytbmcajhknohhdaa
open Go.RowKit

/-- The first blocks of an area. -/
def imgL (g : Nat) (b : List UInt8) : List UInt8 := vheadL g b ++ fillL b
theorem imgL_length (g : Nat) (b : List UInt8) : (imgL g b).length = 128 * (1 + blkN b.length) := by unfold imgL; rw [List.length_append, vheadL_length, fillL_length]; omega
theorem imgL_head (g : Nat) (b : List UInt8) : ((imgL g b).drop (128 * 0)).take 128 = vheadL g b := by
  unfold imgL; rw [Nat.mul_zero, List.drop_zero, List.take_left' (vheadL_length g b)]
theorem imgL_chunk (g : Nat) (b : List UInt8) (k : Nat) : ((imgL g b).drop (128 * (1 + k))).take 128 = chunkL b k := by
  unfold imgL chunkL
  rw [show 128 * (1 + k) = 128 + 128 * k by omega, ← List.drop_drop, List.drop_left' (vheadL_length g b)]
theorem pay_num (b : List UInt8) (hn : b.length ≤ 32640) : wNum (wNum ([], 0) (b.length : Int) 4) ((crcSum b : Nat) : Int) 4 = (payL b, 0) := by
  have e1 : wNum ([], 0) (b.length : Int) 4 = _ := wNum_fit (l := []) (n := b.length) (k := 4) (by omega) (by omega) (by omega)
  have e2 : wNum ([] ++ be b.length 4, 0) ((crcSum b : Nat) : Int) 4 = _ := wNum_fit (l := [] ++ be b.length 4) (n := crcSum b) (k := 4) (by omega) (by omega) (by have := crcSum_lt b; simpa using this)
  rw [e1, e2]; rfl
theorem img_put1 (g : Nat) (b : List UInt8) : putL (zerosB (128 * (1 + blkN b.length))) 0 ((vheadL g b).take (128 * (1 + blkN b.length))) = vheadL g b ++ zerosB (128 * blkN b.length) := by
  have hl := vheadL_length g b
  rw [List.take_of_length_le (by omega)]
  unfold putL zerosB
  rw [hl]
  simp only [List.take_zero, List.nil_append, List.drop_replicate]
  rw [show 128 * (1 + blkN b.length) - (0 + 128) = 128 * blkN b.length by omega]
theorem img_put2 (g : Nat) (b : List UInt8) : putL (vheadL g b ++ zerosB (128 * blkN b.length)) 128 (b.take (128 * blkN b.length)) = imgL g b := by
  have hl := vheadL_length g b
  have hk := blkN_le b.length
  rw [List.take_of_length_le hk]
  unfold putL imgL fillL zerosB zeros
  rw [List.take_left' hl, ← List.drop_drop, List.drop_left' hl, List.drop_replicate]
theorem img_put0 (g : Nat) (b : List UInt8) (h0 : blkN b.length = 0) : putL (vheadL g b ++ zerosB (128 * blkN b.length)) 0 (b.take (128 * blkN b.length)) = imgL g b := by
  have hb : b = [] := List.eq_nil_of_length_eq_zero (by have := blkN_le b.length; omega)
  subst hb
  simp [putL, imgL, fillL, zerosB, zeros, blkN]

set_option maxRecDepth 100000 in
set_option maxHeartbeats 3200000 in
theorem vImage_any {w : World} {p : Option Addr} {cap : Nat} {b : List UInt8} (g : Nat) (hb : BsAt w p b.length cap b) (hg : g ≤ 2147483647) (hn : blkN b.length ≤ 255) :
    Calls Try.prog 29 #[.int .i64 (g : Int), .slice p b.length cap] w fun e w' => ∃ q c, e = .returned (.tuple #[.slice q (imgL g b).length c, .int .i64 0]) ∧ BsAt w' q (imgL g b).length c (imgL g b) ∧ (∀ x, q = some x → w.heap.size ≤ x.block) ∧ Below w.heap.size w w' := by
  have hk := blkN_le b.length
  have HN := Lib.hid (pay_num b (by omega))
  have H0 := Lib.hid (WAt.new w 85)
  have HBs := Lib.hid hb
  have HBk := Lib.hid (fun V => vBlocks_nat b.length V (by omega))
  have HL := Lib.hid (imgL_length g b)
  have HP := Lib.hid (And.intro (img_put1 g b) (And.intro (img_put2 g b) (img_put0 g b)))
  have HVl := Lib.hid (vheadL_length g b)
  have HFw := Lib.hid (show frWE (g : Int) ((blkN b.length : Nat) : Int) (payL b) = 0 ∧ frWL 86 (g : Int) ((blkN b.length : Nat) : Int) (payL b) = vheadL g b from by
    have e : frWE (g : Int) ((blkN b.length : Nat) : Int) (payL b) = 0 := by unfold frWE; rw [if_neg (by omega), if_neg (by rw [payL_length]; omega)]
    refine ⟨e, ?_⟩
    unfold frWL vheadL; rw [if_pos e, Int.toNat_natCast, Int.toNat_natCast])
  have HSum := Lib.hid (crcSum_lt b)
  have hb9 : b.length ≤ 9223372036854775807 := by omega
  have HBn := Lib.hid (show b.length ≤ 100000 by omega)
  have HPl := Lib.hid (payL_length b)
  have HSm := Lib.hid (fun (V : World) (hV : BsAt V p b.length cap b) => sumOne hV (show b.length ≤ 100000 by omega))
  have hsw : IntKind.i64.wrap ((crcSum b : Nat) : Int) = ((crcSum b : Nat) : Int) := IntWalk.i64_in _ (by have := crcSum_lt b; omega)
  have m1 : IntKind.i64.wrap (1 + ((blkN b.length : Nat) : Int)) = 1 + ((blkN b.length : Nat) : Int) := IntWalk.i64_in _ (by omega)
  have m2 : IntKind.i64.wrap (128 * (1 + ((blkN b.length : Nat) : Int))) = 128 * (1 + ((blkN b.length : Nat) : Int)) := IntWalk.i64_in _ (by omega)
  generalize hS : crcSum b = s at *
  generalize hNn : blkN b.length = n at *
  clear hS hb hk
  go_enter Try.func29, Try.ntmps29
  go_wp2_with fail
  refine (wnum_any w.heap.size w.heap.size _ _ _ _ _ _ H0.out (by simp) (by simp)).mono ?_
  rintro e w1 ⟨rfl, v1, hT1⟩
  have HT1 := Lib.hid hT1
  have HB1 := Lib.hid ((belowNew w _).trans (hT1.below H0.out (by simp) (Nat.le_refl _)))
  have hl1 := Lib.hid (wNum_le ([], 0) (b.length : Int) 4)
  have HS1 := Lib.hid (HBs.out.below HB1.out (Nat.le_refl _))
  clear hT1
  go_wp2_with fail
  refine (HSm.out _ HS1.out).mono ?_
  rintro e w2 ⟨rfl, hB2⟩
  have HB2 := Lib.hid (HB1.out.trans (hB2.mono HB1.out.size))
  have HT2 := Lib.hid (HT1.out.now.below hB2 (Nat.le_refl _))
  clear hB2 HS1
  go_wp2_with fail
  refine (wnum_any w.heap.size w.heap.size _ _ _ _ _ _ HT2.out HB2.out.size (by have := hl1.out; simp at this; omega)).mono ?_
  rintro e w3 ⟨rfl, v3, hT3⟩
  have HT3 := Lib.hid hT3
  have HB3 := Lib.hid (HB2.out.trans (hT3.below HT2.out HB2.out.size (Nat.le_refl _)))
  have hl3 := Lib.hid (wNum_le (wNum ([], 0) (b.length : Int) 4) (s : Int) 4)
  clear hT3
  go_wp2_with fail
  refine (done_any w.heap.size w.heap.size _ _ _ _ HT3.out.now (by have := hl1.out; have := hl3.out; simp at *; omega)).mono ?_
  rintro e w4 ⟨v4, rfl, hbs, hB4⟩
  have HB4 := Lib.hid (HB3.out.trans (hB4.mono HB3.out.size))
  rw [HN.out] at hbs
  rw [HN.out]
  obtain ⟨p4, n4, c4, rfl, hb4, hp4⟩ := hbs
  have HS4 := Lib.hid hb4
  clear hb4 hB4 hp4 HN HT3 HB3 HT2 HB2 HT1 HB1 H0 hl1 hl3
  go_wp2_with fail
  refine (HBk.out _).mono ?_
  rintro e w5 ⟨rfl, rfl⟩
  have HFr := Lib.hid (frWrite_any 86 (g : Int) (n : Int) p4 n4 c4 (payL b) w4 HS4.out (by rw [HPl.out]; decide))
  rw [HFw.out.1, HFw.out.2, HVl.out, show (((86 : UInt8).toNat : Nat) : Int) = 86 from rfl] at HFr
  go_wp2_with fail
  refine HFr.out.mono ?_
  rintro e w6 ⟨p6, c6, rfl, hr6, hB6⟩
  have hb6 : BsAt w6 p6 128 c6 (vheadL g b) := by
    have h1 := HVl.out
    obtain ⟨t6, hr6⟩ := hr6
    rw [← h1] at hr6
    obtain ⟨q6, d6, e6, h6⟩ := BsAt.ofRow hr6
    rw [Value.slice.injEq] at e6
    obtain ⟨rfl, -, rfl⟩ := e6
    rw [h1] at h6; exact h6
  have HB6 := Lib.hid (HB4.out.trans (hB6.mono HB4.out.size))
  have HS6 := Lib.hid hb6
  clear hb6 hr6 hB6 HFr HS4 HB4
  go_wp2_with fail
  refine (HBk.out _).mono ?_
  rintro e w7 ⟨rfl, rfl⟩
  have tok1 : True := trivial
  have HNc := Lib.hid (show 128 * (1 + (n : Int)) = ((128 * (1 + n) : Nat) : Int) by omega)
  have hsm7 : 128 * (1 + n) ≤ 140737488355328 := by omega
  go_upto_region 11 with (at_make; have _t := tok1; refine wpList_make_zeros rfl _ _ 31 rfl w6.heap.size 5 Try.underlying31 infoU8 (128 * (1 + n)) rfl rfl HNc.out HNc.out hsm7 (Nat.le_refl _) ?_; intro w8 hown hg8; have HO8 := Lib.hid hown; have HG8 := Lib.hid hg8; clear hown hg8 tok1)
  have HK8 := Lib.hid (blk_of_made HO8.out).1
  have HB8 := Lib.hid (HB6.out.grown HG8.out HB6.out.size (fun k hk => by cases hk))
  have HS8 := Lib.hid (HS6.out.below ((Below.refl w6.heap.size w6).grown HG8.out (Nat.le_refl _) (fun k hk => by cases hk)) (Nat.le_refl _))
  have hG : w.heap.size ≤ w6.heap.size := HB6.out.size
  clear HO8 HG8 HS6 HB6
  generalize w6.heap.size = q at *
  have hz8 : 0 + 128 * (1 + n) ≤ (zerosB (128 * (1 + n))).length := by rw [zerosB_length]; omega
  obtain ⟨off, hoff, u8⟩ : ∃ off, (off = 0 ∧ n = 0 ∨ off = 128) ∧ ∀ V : World, (Instr.slice 31 (.slice (some ⟨q, 0, none⟩) (128 * (1 + n)) (128 * (1 + n))) (some (.int .i64 128)) none none).run Try.prog V = .ok (.slice (some ⟨q, off, none⟩) (128 * n) (128 * n)) V := by
    by_cases h0 : n = 0
    · refine ⟨0, .inl ⟨rfl, h0⟩, fun V => ?_⟩
      have h1 := run_from V (some ⟨q, 0, none⟩) (128 * (1 + n)) (128 * (1 + n)) 128 (by omega)
      rw [if_pos (by omega), show 128 * (1 + n) - 128 = 128 * n by omega] at h1
      exact h1
    · refine ⟨128, .inr rfl, fun V => ?_⟩
      have h1 := run_from V (some ⟨q, 0, none⟩) (128 * (1 + n)) (128 * (1 + n)) 128 (by omega)
      rw [if_neg (by omega), show 128 * (1 + n) - 128 = 128 * n by omega] at h1
      simpa [Addr.add] using h1
  have HOf := Lib.hid hoff
  clear hoff
  have HZ9 := Lib.hid (show off + 128 * n ≤ (vheadL g b ++ zerosB (128 * n)).length by
    rw [List.length_append, HVl.out, zerosB_length]
    have := HOf.out
    omega)
  have tokA : True := trivial
  go_wp2_with (first
    | (have _t := tokA; refine wpList_copy_part rfl _ _ 31 31 rfl 5 Try.underlying31 infoSz1 rfl rfl HK8.out HS8.out hz8 ?_; intro w9 hw9; have HB9 := Lib.hid (HB8.out.trans (hw9.below HB8.out.size hG)); have HK9 := Lib.hid hw9.blk; rw [HP.out.1] at HK9; have HS9 := Lib.hid (HBs.out.below HB9.out (Nat.le_refl _)); clear hw9 tokA)
    | (refine wpList_copy_part rfl _ _ 31 31 rfl 5 Try.underlying31 infoSz1 rfl rfl HK9.out HS9.out HZ9.out ?_; intro w10 hw10; have HPX := Lib.hid hw10; clear hw10))
  refine bodyPost_ret (results_tmp2 rfl _ _ _) rfl ?_
  have HBX := Lib.hid (HB9.out.trans (HPX.out.below HB9.out.size hG))
  have hk : Blk w10 q (bvA (imgL g b)) 5 := by
    have h1 := HPX.out.blk
    rcases HOf.out with ⟨h2, h3⟩ | h2
    · rw [h2, HP.out.2.2 h3] at h1; exact h1
    · rw [h2, HP.out.2.1] at h1; exact h1
  have hbs := hk.bs (off := 0) (n := 128 * (1 + n)) (cap := 128 * (1 + n)) (by rw [HL.out]; omega) (Nat.le_refl _) (by unfold maxLen; omega)
  rw [List.drop_zero, List.take_of_length_le (by rw [HL.out]; exact Nat.le_refl _)] at hbs
  rw [HL.out]
  exact ⟨some ⟨q, 0, none⟩, 128 * (1 + n), rfl, hbs, fun x hx => by cases hx; exact hG, HBX.out⟩

theorem bsv_lt {w : World} {p : Option Addr} {len cap : Nat} {l : List UInt8} (h : BsAt w p len cap l) (hl : l ≠ []) : ∀ a, p = some a → a.block < w.heap.size := by
  rintro a rfl
  rcases h.place with ⟨h1, -⟩ | ⟨h1, -⟩ | ⟨g, off, h1, h2, -⟩
  · cases h1
  · exact absurd h1 hl
  · cases h1; exact h2
/-! A block of an image is written. -/
set_option maxRecDepth 100000 in
set_option maxHeartbeats 3200000 in
theorem vWrite_any {w : World} {vb db a : Nat} {S : DS} {D : Nat → Prop} {p : Option Addr} {cap : Nat} {l : List UInt8} (g i : Nat) (hb : Blk w vb (vltV db a) 58) (hA : theRel.At w db S D) (hok : DSOk S) (hwr : S.wr ≤ 1000000)
    (hl : BsAt w p l.length cap l) (hi : 128 * (i + 1) ≤ l.length) (hn : l.length ≤ 100000) (ha : a ≤ 100000) (hp : ∀ x, p = some x → ¬ D x.block) :
    Calls Try.prog 30 #[ptrV vb, .int .i64 (g : Int), .int .i64 (i : Int), .slice p l.length cap] w fun e w' => ∃ D', e = .returned (.int .i64 (writeE S ((vAt a g + i : Nat) : Int) ((l.drop (128 * i)).take 128))) ∧ theRel.At w' db (writeS S ((vAt a g + i : Nat) : Int) ((l.drop (128 * i)).take 128)) D' ∧ (∀ k, D' k → D k ∨ w.heap.size ≤ k) ∧ Chg D w w' := by
  obtain ⟨k0, k1⟩ := vlt_cells hb
  have hav : vAt a g = a + 256 * (g % 2) := rfl
  have hgm : g % 2 < 2 := Nat.mod_lt _ (by decide)
  have har : Calls Try.prog 44 #[.int .i64 (g : Int)] w.drew fun e w' => e = .returned (.int .i64 ((g % 2 : Nat) : Int)) ∧ w' = w.drew := (vAreaOf_any g w.drew).mono fun e w' ⟨h1, h2⟩ => ⟨h1, h2.symm⟩
  have hst : Calls Try.prog 43 #[ptrV vb, .int .i64 ((g % 2 : Nat) : Int)] w.drew fun e w' => e = .returned (.int .i64 ((a + 256 * (g % 2) : Nat) : Int)) ∧ w' = w.drew := (vStart_any (w := w.drew) (vb := vb) (a := a) (g % 2) k1 (by omega)).mono fun e w' ⟨h1, h2⟩ => ⟨h1, h2.symm⟩
  have HAr := Lib.hid har
  have HSt := Lib.hid hst
  clear har hst
  rw [← hav] at HSt
  have hsub := bs_range (lo := 128 * i) (hi := 128 * (i + 1)) hl (by omega) (by omega)
  have hsubP := dropP (cap := cap) (n := 128 * i) (P := fun k => ¬ D k) hp
  have u1 := fun (V : World) => run_range (w := V) (p := p) (len := l.length) (cap := cap) (lo := 128 * i) (hi := 128 * (i + 1)) (x := (i : Int) * 128) (y := ((i : Int) + 1) * 128) (by omega) (by omega) (by omega) (by have := hl.le; omega)
  rw [show 128 * (i + 1) - 128 * i = 128 by omega] at u1 hsub
  have HW := Lib.hid (dWrite_big (w := w.drew) ((vAt a g + i : Nat) : Int) (DiskRel.below hA (Below.refl w.heap.size w).drew) hok (by omega) (hsub.below (Below.refl w.heap.size w).drew (Nat.le_refl _)) hsubP)
  have m1 : IntKind.i64.wrap ((i : Int) * 128) = (i : Int) * 128 := IntWalk.i64_in _ (by omega)
  have m2 : IntKind.i64.wrap ((i : Int) + 1) = (i : Int) + 1 := IntWalk.i64_in _ (by omega)
  have m3 : IntKind.i64.wrap (((i : Int) + 1) * 128) = ((i : Int) + 1) * 128 := IntWalk.i64_in _ (by omega)
  have hva : vAt a g ≤ 200000 := by omega
  have m4 : IntKind.i64.wrap (((vAt a g : Nat) : Int) + (i : Int)) = ((vAt a g : Nat) : Int) + (i : Int) := IntWalk.i64_in _ (by omega)
  rw [show ((vAt a g + i : Nat) : Int) = ((vAt a g : Nat) : Int) + (i : Int) by omega] at HW ⊢
  clear hb hA hok hwr hsub hsubP hav hp k1 hl
  generalize (l.drop (128 * i)).take 128 = x at *
  generalize (if cap = 128 * i then p else p.map (·.add (128 * i))) = px at *
  generalize hM : vAt a g = m at *
  generalize l.length = ln at *
  generalize hR : g % 2 = r at *
  unfold ptrV at *
  go_enter Try.func30, Try.ntmps30
  go_wp2_with fail
  go_still_tail 17, (by kernel_rfl)
  still_call (HAr.out)
  repeat still_step
  still_call (HSt.out)
  repeat still_step
  refine wpStill_nil ?_
  change wpList _ _ _ _ _ w.drew
  go_wp2_with fail
  refine HW.out.mono ?_
  rintro e w1 ⟨D1, rfl, hA1, hs1, hc0⟩
  have HA1 := Lib.hid hA1
  have HS1 := Lib.hid hs1
  have HC1 := Lib.hid ((Chg.refl D w).drew.trans hc0)
  clear hA1 hs1 hc0 HW
  go_wp2_with fail
  go_ret
  exact ⟨D1, rfl, HA1.out, HS1.out, HC1.out⟩

set_option maxRecDepth 100000 in
set_option maxHeartbeats 1600000 in
theorem vSave_main {w : World} {vb db a g : Nat} {S : DS} {D : Nat → Prop} {p : Option Addr} {cap : Nat} {b : List UInt8} (hV : Blk w vb (vltV db a) 58) (hA : theRel.At w db S D) (hok : DSOk S) (hd : ¬ D vb) (hwr : S.wr ≤ 900000)
    (hb : BsAt w p b.length cap b) (hg : g ≤ 2147483647) (hn : blkN b.length ≤ 255) (ha : a + 512 ≤ S.len) :
    Calls Try.prog 12 #[ptrV vb, .int .i64 (g : Int), .slice p b.length cap] w fun e w' => ∃ D', e = .returned (.int .i64 (saveE S a (g : Int) b)) ∧ theRel.At w' db (saveD S a (g : Int) b) D' ∧ (∀ k, D' k → D k ∨ w.heap.size ≤ k) ∧ Chg D w w' := by
  obtain ⟨k0, k1⟩ := vlt_cells hV
  have hlen := hok.few
  have hsz := blk_size hn
  have eE : saveE S a (g : Int) b = (wrl S (planP (vAt a g) g b)).1 := by unfold saveE; rw [if_neg (by omega), if_neg (by omega), Int.toNat_natCast]
  have eD : saveD S a (g : Int) b = (wrl S (planP (vAt a g) g b)).2 := by unfold saveD; rw [if_neg (by omega), Int.toNat_natCast]
  have HE := Lib.hid (And.intro eE eD)
  have HMd := Lib.hid (vMade_any k0)
  have HIm := Lib.hid (vImage_any g hb hg hn)
  have HBk := Lib.hid (fun V => vBlocks_nat b.length V (by omega))
  have HV := Lib.hid hV
  have HA := Lib.hid hA
  have HO := Lib.hid hok
  have HD := Lib.hid hd
  have HDl := Lib.hid (theRel.lt hA).2
  have HIl := Lib.hid (imgL_length g b)
  have HIc := Lib.hid (And.intro (imgL_head g b) (imgL_chunk g b))
  have hl9 : b.length ≤ 9223372036854775807 := by omega
  have d1 : decide ((g : Int) < 0) = false := by simp
  have d2 : decide ((2147483647 : Int) < (g : Int)) = false := by simp; omega
  have d3 : decide ((32640 : Int) < (b.length : Int)) = false := by simp; omega
  have HAl := Lib.hid (show a ≤ 100000 by omega)
  have HGl := Lib.hid hg
  clear hV hA hok hd hb eE eD k0 k1 hlen ha hg
  generalize hN : blkN b.length = n at *
  have HNn := Lib.hid hN
  clear hN hsz
  unfold ptrV at *
  go_enter Try.func12, Try.ntmps12
  go_wp2_with fail
  with_reducible refine HMd.out.mono ?_
  rintro e w0 ⟨rfl, rfl⟩
  go_wp2_with fail
  refine HIm.out.mono ?_
  rintro e w1 ⟨q, c, rfl, hbi, hqi, hB1⟩
  have HI := Lib.hid hbi
  have HQ := Lib.hid (show ∀ x, q = some x → w.heap.size ≤ x.block ∧ x.block < w1.heap.size from fun x hx => ⟨hqi x hx, bsv_lt hbi (by intro e; have := HIl.out; rw [e] at this; simp at this; omega) x hx⟩)
  have HB1 := Lib.hid hB1
  have HV1 := Lib.hid (HV.out.below hB1 HV.out.lt)
  have HA1 := Lib.hid (DiskRel.below HA.out hB1)
  clear hbi hqi hB1 HIm HMd
  have hil := HIl.out
  generalize hil2 : (imgL g b).length = L at *
  have HL2 := Lib.hid hil2
  have HLn := Lib.hid hil
  clear hil2 hil
  go_wp2_with fail
  refine (HBk.out _).mono ?_
  rintro e w2 ⟨rfl, rfl⟩
  go_wp2_with fail
  go_loopw [35] (fun i wr => ∃ (k : Nat) (T : DS) (D' : Nat → Prop), k ≤ n ∧ i = .int .i64 k ∧ wrl S (bodyP (vAt a g) b k) = (0, T) ∧ DSOk T ∧ T.wr ≤ S.wr + k ∧ theRel.At wr db T D' ∧ (∀ k, D' k → D k ∨ w1.heap.size ≤ k) ∧ Chg D w1 wr) (fun i _ => n - (intOf i).toNat)
  case atStart => exact ⟨0, S, D, Nat.zero_le _, rfl, rfl, HO.out, by omega, HA1.out, fun k hk => .inl hk, Chg.refl _ _⟩
  case round =>
    obtain ⟨k, T, D1, hk, rfl, hP, hokT, hwT, hAT, hsT, hC⟩ := hrel
    have HP := Lib.hid hP
    have HOT := Lib.hid hokT
    have HAT := Lib.hid hAT
    have HST := Lib.hid hsT
    have HC := Lib.hid hC
    have HVr := Lib.hid (hC.kept HV1.out HD.out)
    have HIr := Lib.hid (HI.out.chg hC (fun x hx hd => by have := HDl.out _ hd; have := (HQ.out x hx).1; omega))
    have HQr := Lib.hid (show ∀ x, q = some x → ¬ D1 x.block from fun x hx hd => by
      rcases hsT _ hd with h | h
      · have := HDl.out _ h; have := (HQ.out x hx).1; omega
      · have := (HQ.out x hx).2; omega)
    have HNx := Lib.hid (show ∀ (D2 : Nat → Prop), (∀ k, D2 k → D1 k ∨ wr.heap.size ≤ k) → ∀ k, D2 k → D k ∨ w1.heap.size ≤ k from fun D2 h k hk => by
      rcases h k hk with h | h
      · exact hsT k h
      · exact .inr (Nat.le_trans hC.size h))
    have HNc := Lib.hid (show ∀ V, Chg D1 wr V → Chg D w1 V from fun V hV => hC.then hV fun i hi hd => by
      rcases hsT i hd with h | h
      · exact h
      · exact absurd hi (Nat.not_lt.2 h))
    clear hP hokT hAT hsT hC
    by_cases hlt : k < n
    · have hlt2 : k < blkN b.length := by rw [HNn.out]; exact hlt
      have HK2 := Lib.hid hlt2
      have hx := Lib.hid hlt
      have m3 : IntKind.i64.wrap (1 + (k : Int)) = 1 + (k : Int) := IntWalk.i64_in _ (by omega)
      have hwr2 := vWrite_any (w := wr) (vb := vb) (db := db) (a := a) g (1 + k) HVr.out HAT.out HOT.out (by omega) (by rw [HL2.out]; exact HIr.out) (by rw [HL2.out]; have := HLn.out; omega) (by rw [HL2.out]; have := HLn.out; omega) HAl.out HQr.out
      rw [HIc.out.2, HL2.out, show vAt a g + (1 + k) = vAt a g + 1 + k by omega, show ((1 + k : Nat) : Int) = 1 + (k : Int) by omega] at hwr2
      have HWr := Lib.hid hwr2
      have hw1 := wr_one T ((vAt a g + 1 + k : Nat) : Int) (chunkL b k)
      clear hwr2 hlt hlt2
      generalize hZ : ((vAt a g + 1 + k : Nat) : Int) = z at *
      have HZ := Lib.hid hZ
      clear hZ
      unfold ptrV at *
      go_wp2_with fail
      refine HWr.out.mono ?_
      rintro e w3 ⟨D2, rfl, hA3, hs3, hC3⟩
      have HA3 := Lib.hid hA3
      have HS3 := Lib.hid (HNx.out D2 hs3)
      have HC3 := Lib.hid (HNc.out _ hC3)
      clear hA3 hs3 hC3 HWr m3
      by_cases he : writeE T z (chunkL b k) = 0
      · have hmore := wrl_more HP.out (by rw [HZ.out]; exact he)
        rw [HZ.out] at hmore
        have HM := Lib.hid hmore
        rw [he]
        clear he hmore
        go_wp2_with fail
        go_roundw
        case rel => exact ⟨k + 1, _, D2, by have := hx.out; omega, by go_num, HM.out, HOT.out.write _ _, by omega, HA3.out, HS3.out, HC3.out⟩
        case measure => have := hx.out; simp [intOf]; omega
      · have hstop := wrl_stop (g := g) HK2.out HP.out (by rw [HZ.out]; exact he)
        rw [HZ.out] at hstop
        have HSt := Lib.hid hstop
        have d5 : (writeE T z (chunkL b k) == 0) = false := by simpa using he
        clear he hstop
        generalize hY : writeE T z (chunkL b k) = y at *
        have HY := Lib.hid hY
        clear hY
        go_wp2_with fail
        go_ret
        rw [HE.out.1, HE.out.2, HSt.out]
        exact ⟨D2, rfl, HA3.out, fun k hk => (HS3.out k hk).imp_right (Nat.le_trans HB1.out.size), (Chg.ofBelow HB1.out).trans HC3.out⟩
    · obtain rfl : k = n := by omega
      have hP := HP.out
      rw [← HNn.out] at hP
      have hend := wrl_end (g := g) hP
      have HEn := Lib.hid hend
      have hwr2 := vWrite_any (w := wr) (vb := vb) (db := db) (a := a) g 0 HVr.out HAT.out HOT.out (by omega) (by rw [HL2.out]; exact HIr.out) (by rw [HL2.out]; have := HLn.out; omega) (by rw [HL2.out]; have := HLn.out; omega) HAl.out HQr.out
      rw [HIc.out.1, HL2.out, Nat.add_zero, show ((0 : Nat) : Int) = 0 from rfl] at hwr2
      have HWr := Lib.hid hwr2
      clear hP hend hwr2
      unfold ptrV at *
      go_wp2_with fail
      refine HWr.out.mono ?_
      rintro e w4 ⟨D2, rfl, hA4, hs4, hC4⟩
      have HA4 := Lib.hid hA4
      have HS4 := Lib.hid (HNx.out D2 hs4)
      have HC4 := Lib.hid (HNc.out _ hC4)
      clear hA4 hs4 hC4 HWr
      go_wp2_with fail
      go_ret
      rw [HE.out.1, HE.out.2, HEn.out]
      exact ⟨D2, rfl, HA4.out, fun k hk => (HS4.out k hk).imp_right (Nat.le_trans HB1.out.size), (Chg.ofBelow HB1.out).trans HC4.out⟩
set_option maxRecDepth 100000 in
set_option maxHeartbeats 3200000 in
theorem vSave_any : VSaveC theRel theVlt := by
  intro w vb db S a F p len cap b gen h hwr hb hl hpf
  have hsame := hb.same
  subst hsame
  have hok := h.ok
  obtain ⟨D, G, hA, hR, hdg, hF⟩ := h.ex
  obtain ⟨hV, hG⟩ := hR
  have hd : ¬ D vb := fun hd => hdg vb hd (by rw [hG])
  have HX := Lib.hid (show ∃ G, theVlt.At w vb db a G ∧ (∀ k, D k → ¬ G k) ∧ ∀ k, F k ↔ (D k ∨ G k) from ⟨G, ⟨hV, hG⟩, hdg, hF⟩)
  have HH := Lib.hid h
  obtain ⟨k0, k1⟩ := vlt_cells hV
  have HMd := Lib.hid (vMade_any k0)
  by_cases hg : gen < 0 ∨ 2147483647 < gen
  · have HE := Lib.hid (show saveE S a gen b = 8 ∧ saveD S a gen b = S from ⟨by unfold saveE; rw [if_pos hg], by unfold saveD; rw [if_pos (.inl hg)]⟩)
    have hc : gen < 0 ∨ (¬ gen < 0 ∧ 2147483647 < gen) := by omega
    have HLe := Lib.hid hl
    clear h hok hwr hb hl hpf hg hA hdg hF hV hG hd k0 k1
    generalize b.length = n at *
    unfold ptrV at *
    rcases hc with h1 | ⟨h1, h2⟩
    · have d1 : decide (gen < 0) = true := by simpa using h1
      clear h1
      go_enter Try.func12, Try.ntmps12
      go_wp2_with fail
      with_reducible refine HMd.out.mono ?_
      rintro e w0 ⟨rfl, rfl⟩
      go_wp2_with fail
      go_ret
      exact ⟨F, by rw [HE.out.1]; rfl, by rw [HE.out.2]; exact HH.out, fun k hk => .inl hk, Chg.refl _ _⟩
    · have d1 : decide (gen < 0) = false := by simpa using h1
      have d2 : decide (2147483647 < gen) = true := by simpa using h2
      clear h1 h2
      go_enter Try.func12, Try.ntmps12
      go_wp2_with fail
      with_reducible refine HMd.out.mono ?_
      rintro e w0 ⟨rfl, rfl⟩
      go_wp2_with fail
      go_ret
      exact ⟨F, by rw [HE.out.1]; rfl, by rw [HE.out.2]; exact HH.out, fun k hk => .inl hk, Chg.refl _ _⟩
  · obtain ⟨g, rfl⟩ := Int.eq_ofNat_of_zero_le (show 0 ≤ gen by omega)
    by_cases hn : 255 < blkN b.length
    · have HE := Lib.hid (show saveE S a g b = 12 ∧ saveD S a g b = S from ⟨by unfold saveE; rw [if_neg hg, if_pos hn], by unfold saveD; rw [if_pos (.inr hn)]⟩)
      have d1 : decide ((g : Int) < 0) = false := by simp
      have d2 : decide ((2147483647 : Int) < (g : Int)) = false := by simp; omega
      have d3 : decide ((32640 : Int) < (b.length : Int)) = true := by simp; have := blkN_lt b.length; omega
      have hl9 : b.length ≤ 9223372036854775807 := by omega
      clear h hok hwr hb hl hpf hg hn hA hdg hF hV hG hd k0 k1
      generalize b.length = n at *
      unfold ptrV at *
      go_enter Try.func12, Try.ntmps12
      go_wp2_with fail
      with_reducible refine HMd.out.mono ?_
      rintro e w0 ⟨rfl, rfl⟩
      go_wp2_with fail
      go_ret
      exact ⟨F, by rw [HE.out.1]; rfl, by rw [HE.out.2]; exact HH.out, fun k hk => .inl hk, Chg.refl _ _⟩
    · have hplan : ∀ x ∈ planP (vAt a g) g b, x.1 < S.len ∧ x.2.length = 128 := plan_fit (by have := h.fits; unfold vAt; omega) (by omega)
      obtain ⟨q1, q2, -, -⟩ := wrl_keep (planP (vAt a g) g b) S hok hplan
      have eD : saveD S a (g : Int) b = (wrl S (planP (vAt a g) g b)).2 := by unfold saveD; rw [if_neg (by omega), Int.toNat_natCast]
      rw [← eD] at q1 q2
      refine (vSave_main hV hA hok hd hwr hb (by omega) (by omega) h.fits).mono fun e w' ⟨D', he, hA', hs, hc⟩ => ?_
      obtain ⟨F', h1, h2, h3⟩ := h.disk q1 q2 HX.out hA' hs hc
      exact ⟨F', he, h1, h2, h3⟩
end Go.Proofs.Ytbmcajhknohhdaa

/-! VltT -/
namespace Go.Proofs.Ytbmcajhknohhdaa
open Go.RowKit

theorem vread_on {S : DS} {m : Nat} (hm : m < S.len) (ho : S.off = false) : readE S (m : Int) = 0 ∧ readL S (m : Int) = blockL S m := by
  have h1 : readE S (m : Int) = 0 := by unfold readE; rw [hasD_iff.2 ⟨by omega, by omega⟩, ho]; rfl
  refine ⟨h1, ?_⟩
  unfold readL
  rw [if_pos h1, Int.toNat_natCast]
theorem vblock_128 {S : DS} (h : DSOk S) {m : Nat} (hm : m < S.len) : (blockL S m).length = 128 := by
  have := h.len
  unfold blockL
  rw [List.length_take, List.length_drop]; omega
/-- So many blocks in a row. -/
def runL (S : DS) (m n : Nat) : List UInt8 := (S.all.drop (128 * m)).take (128 * n)
theorem runL_length {S : DS} (h : DSOk S) {m n : Nat} (hm : m + n ≤ S.len) : (runL S m n).length = 128 * n := by
  have := h.len
  unfold runL
  rw [List.length_take, List.length_drop]; omega
theorem runL_zero (S : DS) (m : Nat) : runL S m 0 = [] := by unfold runL; simp
theorem runL_succ (S : DS) (m k : Nat) : runL S m (k + 1) = runL S m k ++ blockL S (m + k) := by
  unfold runL blockL
  rw [show 128 * (k + 1) = 128 * k + 128 by omega, List.take_add, List.drop_drop, show 128 * m + 128 * k = 128 * (m + k) by omega]
theorem runL_one (S : DS) (m : Nat) : runL S m 1 = blockL S m := by rw [runL_succ, runL_zero]; simp

set_option maxRecDepth 100000 in
set_option maxHeartbeats 1600000 in
theorem vRead_any {w : World} {vb db a : Nat} {S : DS} {D : Nat → Prop} (m n : Nat) (hb : Blk w vb (vltV db a) 58) (hA : theRel.At w db S D) (hok : DSOk S) (ho : S.off = false) (hm : m + n ≤ S.len) :
    Calls Try.prog 63 #[ptrV vb, .int .i64 (m : Int), .int .i64 (n : Int)] w fun e w' => ∃ q c, e = .returned (.tuple #[.slice q (128 * n) c, .bool true]) ∧ BsAt w' q (128 * n) c (runL S m n) ∧ (∀ x, q = some x → w.heap.size ≤ x.block) ∧ Below w.heap.size w w' := by
  have hfew := hok.few
  have HL := Lib.hid (fun k (hk : k < n) => vblock_128 hok (show m + k < S.len by omega))
  have HR := Lib.hid (fun V (hV : Below w.heap.size w V) k (hk : k < n) => dRead_any ((m + k : Nat) : Int) (DiskRel.below hA hV) hok)
  have HO := Lib.hid (fun k (hk : k < n) => vread_on (show m + k < S.len by omega) ho)
  have HK0 := Lib.hid (fun V (hV : Below w.heap.size w V) => (vlt_cells (hb.below hV hb.lt)).1)
  have HN := Lib.hid (runL_length hok hm)
  have HLk := Lib.hid (fun k (hk : k ≤ n) => runL_length hok (show m + k ≤ S.len by omega))
  have HZ := Lib.hid (And.intro (runL_zero S m) (runL_succ S m))
  have hmn : m + n ≤ 1024 := by omega
  clear hb hA hok ho hm hfew
  unfold ptrV at *
  go_enter Try.func63, Try.ntmps63
  go_wp2_with fail
  go_loopw [13, 8] (fun i v wr => ∃ (k : Nat), k ≤ n ∧ i = .int .i64 k ∧ wr.ownsRow w.heap.size 5 1 v (runL S m k).length (bvs (runL S m k)) ∧ Below w.heap.size w wr) (fun i _ _ => n - (intOf i).toNat)
  case atStart => exact ⟨0, Nat.zero_le _, rfl, by rw [HZ.out.1]; exact World.ownsRow_nil _ _ _ _, Below.refl _ _⟩
  case round =>
    obtain ⟨k, hk, rfl, hown, hB⟩ := hrel
    have HB := Lib.hid hB
    have HOw := Lib.hid hown
    by_cases hlt : k < n
    · have HKx := Lib.hid hlt
      have m1 : IntKind.i64.wrap ((m : Int) + (k : Int)) = (m : Int) + (k : Int) := IntWalk.i64_in _ (by omega)
      have k0 := HK0.out wr hB
      have hr := HR.out wr hB k hlt
      rw [(HO.out k hlt).1, (HO.out k hlt).2, HL.out k hlt, show ((m + k : Nat) : Int) = (m : Int) + (k : Int) by omega] at hr
      have HRd := Lib.hid hr
      clear hown hB hlt hr
      go_wp2_with fail
      refine HRd.out.mono ?_
      rintro e w2 ⟨q2, c2, rfl, ⟨t2, hr2⟩, hB2⟩
      have hb2 : BsAt w2 q2 128 c2 (blockL S (m + k)) := by
        have h1 := HL.out k HKx.out
        rw [← h1] at hr2
        obtain ⟨q6, d6, e6, h6⟩ := BsAt.ofRow hr2
        rw [Value.slice.injEq] at e6
        obtain ⟨rfl, -, rfl⟩ := e6
        rw [h1] at h6; exact h6
      have HS2 := Lib.hid hb2
      have HB2 := Lib.hid (HB.out.trans (hB2.mono HB.out.size))
      have hown2 := own_below HOw.out hB2 (Nat.le_refl _)
      have HQ := Lib.hid (show (runL S m k).length + (blockL S (m + k)).length ≤ 140737488355328 by rw [HLk.out k (by omega), HL.out k HKx.out]; omega)
      clear hr2 hb2 hB2 HRd HOw k0 m1
      go_wp2_with (at_builtin; refine wpList_append_bytes rfl _ _ 31 rfl w.heap.size 5 Try.underlying31 infoU8 rfl hown2 rfl HS2.out HQ.out HB2.out.size ?_; intro p3 n3 c3 w3 hrow hg3 hn3; have HR3 := Lib.hid hrow; have HB3 := Lib.hid (HB2.out.grown hg3 HB2.out.size (fun k hk => (hown2.lt k hk).1)); clear hrow hg3 hn3 hown2)
      go_roundw
      case rel => exact ⟨k + 1, by have := HKx.out; omega, by go_num, by rw [HZ.out.2]; exact HR3.out, HB3.out⟩
      case measure => have := HKx.out; simp [intOf]; omega
    · obtain rfl : k = n := by omega
      obtain ⟨p4, c4, hv⟩ := own_form hown
      rw [HN.out] at hv
      subst hv
      have HX := Lib.hid hown
      clear hown hB hlt HOw
      go_wp2_with fail
      refine bodyPost_ret (results_tmp2 rfl _ _ _) rfl ?_
      have hx := HX.out
      obtain ⟨q6, d6, e6, h6⟩ := BsAt.ofRow hx
      rw [HN.out, Value.slice.injEq] at e6
      obtain ⟨rfl, -, rfl⟩ := e6
      rw [HN.out] at h6
      exact ⟨p4, c4, rfl, h6, fun x hx2 => by subst hx2; exact (hx.lt x.block rfl).1, HB.out⟩

/-- What a head tells of. -/
def toldR (t : List UInt8) : Option (Nat × Nat) := if (frR 86 t).e = 0 ∧ 4 ≤ (frR 86 t).pay.length ∧ valB ((frR 86 t).pay.take 4) ≤ 32640 then some ((frR 86 t).gen.toNat, valB ((frR 86 t).pay.take 4)) else none
theorem frR_gen {kd : UInt8} {t : List UInt8} (h : (frR kd t).e = 0) : (frR kd t).gen = ((frR kd t).gen.toNat : Int) ∧ (frR kd t).gen.toNat ≤ 2147483647 := by
  have h1 := (frW_frR h).1
  unfold frWE at h1
  split at h1
  · cases h1
  · omega
theorem pay_le {kd : UInt8} {t : List UInt8} : (frR kd t).pay.length ≤ 255 := by
  by_cases h : (frR kd t).e = 0
  · have h1 := (frW_frR h).1
    unfold frWE at h1
    split at h1
    · cases h1
    · split at h1
      · cases h1
      · omega
  · unfold frR at *
    split at h
    · exact absurd rfl h
    · rename_i h2; rw [if_neg h2]; simp
theorem told_num (l : List UInt8) : (dNum (l, 0) 4 32640).2.2 = 0 ↔ (4 ≤ l.length ∧ valB (l.take 4) ≤ 32640) := by
  have e4 : (4 : Int).toNat = 4 := rfl
  unfold dNum
  rw [if_pos (by decide), e4]
  by_cases h : l.length < 4
  · have h1 : tookS (l, 0) 4 = [] := by unfold tookS; rw [if_pos h]
    have h2 : takeS (l, 0) 4 = ([], 4) := by unfold takeS; rw [if_pos h]; rfl
    rw [h1, h2, if_neg (by decide)]
    simp only [show ¬ 4 ≤ l.length by omega, false_and, iff_false]
    decide
  · have h1 : tookS (l, 0) 4 = l.take 4 := by unfold tookS; rw [if_neg h]
    have h2 : takeS (l, 0) 4 = (l.drop 4, 0) := by unfold takeS; rw [if_neg h]
    rw [h1, h2]
    by_cases h3 : (32640 : Int) < (valB (l.take 4) : Int)
    · rw [if_pos h3]
      have : failS (l.drop 4, 0) 8 = ([], 8) := by unfold failS; rw [if_pos ⟨rfl, by decide⟩]
      rw [this]
      simp only [show ¬ valB (l.take 4) ≤ 32640 by omega, and_false, iff_false]
      decide
    · rw [if_neg h3]
      simp only [show valB (l.take 4) ≤ 32640 by omega, show 4 ≤ l.length by omega, and_self]
theorem told_val {l : List UInt8} (h : 4 ≤ l.length ∧ valB (l.take 4) ≤ 32640) : (dNum (l, 0) 4 32640).1 = (valB (l.take 4) : Int) := by
  have e4 : (4 : Int).toNat = 4 := rfl
  have h1 : tookS (l, 0) 4 = l.take 4 := by unfold tookS; rw [if_neg (by simp only; omega)]
  unfold dNum
  rw [if_pos (by decide), e4, h1, if_neg (by omega)]
def toldV (o : Option (Nat × Nat)) : Value := match o with
  | some (g, n) => .tuple #[.int .i64 (g : Int), .int .i64 (n : Int), .bool true]
  | none => .tuple #[.int .i64 0, .int .i64 0, .bool false]

set_option maxRecDepth 100000 in
set_option maxHeartbeats 1600000 in
theorem vTold_any {w : World} {p : Option Addr} {cap : Nat} {t : List UInt8} (hb : BsAt w p 128 cap t) (hw : 0 < w.heap.size) :
    Calls Try.prog 64 #[.slice p 128 cap] w fun e w' => e = .returned (toldV (toldR t)) ∧ Below w.heap.size w w' := by
  have HFr := Lib.hid (frRead_any 86 p 128 cap t w hb (by have := hb.same; omega))
  rw [show (((86 : UInt8).toNat : Nat) : Int) = 86 from rfl] at HFr
  have HPl := Lib.hid (pay_le (kd := 86) (t := t))
  by_cases he : (frR 86 t).e = 0
  case neg =>
    have HE := Lib.hid (show toldR t = none by unfold toldR; rw [if_neg (fun h => he h.1)])
    have d0 : ((frR 86 t).e == 0) = false := by simpa using he
    clear he hb hw
    generalize frR 86 t = R at *
    obtain ⟨Rg, Rs, Rp, Re⟩ := R
    simp only at HFr d0 HPl
    go_enter Try.func64, Try.ntmps64
    go_wp2_with fail
    refine HFr.out.mono ?_
    rintro e w1 ⟨q1, c1, rfl, -, hB1⟩
    have HB1 := Lib.hid hB1
    clear hB1 HFr
    go_wp2_with fail
    refine bodyPost_ret (results_tmp3 rfl _ _ _) rfl ?_
    exact ⟨by rw [HE.out]; rfl, HB1.out⟩
  case pos =>
    have hgen := Lib.hid (frR_gen he)
    have HT := Lib.hid (show toldR t = if (4 ≤ (frR 86 t).pay.length ∧ valB ((frR 86 t).pay.take 4) ≤ 32640) then some ((frR 86 t).gen.toNat, valB ((frR 86 t).pay.take 4)) else none by
      unfold toldR
      by_cases h : 4 ≤ (frR 86 t).pay.length ∧ valB ((frR 86 t).pay.take 4) ≤ 32640
      · rw [if_pos h, if_pos ⟨he, h⟩]
      · rw [if_neg h, if_neg (fun k => h k.2)])
    have HNm := Lib.hid (And.intro (told_num (frR 86 t).pay) (fun h => told_val (l := (frR 86 t).pay) h))
    generalize frR 86 t = R at *
    obtain ⟨Rg, Rs, Rp, Re⟩ := R
    simp only at HFr he HPl hgen HT HNm
    subst he
    have HHw := Lib.hid hw
    clear hb hw
    go_enter Try.func64, Try.ntmps64
    go_wp2_with fail
    refine HFr.out.mono ?_
    rintro e w1 ⟨q1, c1, rfl, hb1, hB1⟩
    have HB1 := Lib.hid hB1
    have HRd := Lib.hid (newRd_any q1 Rp.length c1 Rp w1 hb1.1 (by have := HPl.out; omega) (Nat.lt_of_lt_of_le HHw.out hB1.size))
    clear hb1 hB1 HFr
    go_wp2_with fail
    refine HRd.out.mono ?_
    rintro e w2 ⟨b2, g2, rfl, hb2, hg2, -, hr2, hB2⟩
    have HB2 := Lib.hid (HB1.out.trans (hB2.mono HB1.out.size))
    have HNu := Lib.hid (rdnum_any b2 _ g2 _ 4 32640 _ hr2 hg2 (by have := HPl.out; simp only; omega))
    have HBb := Lib.hid (Nat.le_trans HB1.out.size hb2)
    clear hb2 hg2 hr2 hB2 HRd
    go_wp2_with fail
    refine HNu.out.mono ?_
    rintro e w3 ⟨rfl, hR3⟩
    have HB3 := Lib.hid (HB2.out.trans (hR3.2.below HB2.out.size (fun k hk => hk ▸ HBb.out)))
    have HEr := Lib.hid (rderr_any b2 _ g2 _ _ hR3.1)
    clear hR3 HNu
    by_cases hn : 4 ≤ Rp.length ∧ valB (Rp.take 4) ≤ 32640
    · have hv := HNm.out.2 hn
      have hz := HNm.out.1.2 hn
      rw [hz] at HEr
      rw [hv]
      have HT2 := Lib.hid (HT.out.trans (if_pos hn))
      clear hn hv hz HNm HT
      generalize valB (Rp.take 4) = n at *
      go_wp2_with fail
      refine HEr.out.mono ?_
      rintro e w4 ⟨rfl, rfl⟩
      go_wp2_with fail
      refine bodyPost_ret (results_tmp3 rfl _ _ _) rfl ?_
      exact ⟨by rw [HT2.out]; show _ = Ending.returned (.tuple #[.int .i64 ((Rg.toNat : Nat) : Int), .int .i64 (n : Int), .bool true]); rw [← hgen.out.1]; rfl, HB3.out⟩
    · have hz : ¬ (dNum (Rp, 0) 4 32640).2.2 = 0 := fun h => hn (HNm.out.1.1 h)
      have HT2 := Lib.hid (HT.out.trans (if_neg hn))
      have d2 : ((dNum (Rp, 0) 4 32640).2.2 == 0) = false := by simpa using hz
      clear hn hz HNm HT
      generalize dNum (Rp, 0) 4 32640 = d at *
      go_wp2_with fail
      refine HEr.out.mono ?_
      rintro e w4 ⟨rfl, rfl⟩
      go_wp2_with fail
      refine bodyPost_ret (results_tmp3 rfl _ _ _) rfl ?_
      exact ⟨by rw [HT2.out]; rfl, HB3.out⟩

set_option maxHeartbeats 800000 in
theorem bEqual_any {w : World} {p q : Option Addr} {n c m d : Nat} {l r : List UInt8} (hl : BsAt w p n c l) (hr : BsAt w q m d r) :
    Calls Try.prog 65 #[.slice p n c, .slice q m d] w fun e w' => e = .returned (.bool (decide (l = r))) ∧ w' = w := by
  have q1 := run_string_bs (P := Try.prog) w 31 5 9 Try.underlying31 Try.underlying5 Try.underlying9 hl
  have q2 := run_string_bs (P := Try.prog) w 31 5 9 Try.underlying31 Try.underlying5 Try.underlying9 hr
  clear hl hr
  go_enter Try.func65, Try.ntmps65
  go_wp2_with fail
  go_ret
  exact ⟨congrArg (fun b => Ending.returned (Value.bool b)) (by rw [Bool.eq_iff_iff]; simp), rfl⟩

/-- What an area holds, as the program tells it: whatever generation. -/
def heldR (S : DS) (m : Nat) : Option (Nat × List UInt8) := match toldR (blockL S m) with
  | some (g, n) => if runL S m (1 + blkN n) = imgL g (segL S m n) then some (g, segL S m n) else none
  | none => none
def savedV (g : Int) (v : Value) : Value := .agg #[.int .i64 g, v]

theorem vpart (V : World) (p : Option Addr) (len cap n : Nat) (h : 128 + n ≤ cap) : (Instr.slice 31 (.slice p len cap) (some (.int .i64 128)) (some (.int .i64 (128 + (n : Int)))) (some (.int .i64 (128 + (n : Int))))).run Try.prog V = .ok (.slice (partP p 128 (128 + n)) n n) V := by
  rw [show (128 + (n : Int)) = ((128 + n : Nat) : Int) by omega, run_slice_lhm V _ _ _ _ elemU8 .i64 .i64 .i64 _ _ _ (by decide) (by omega) (by omega) (by omega), sizeU8]
  simp [Result.andThen, sliced, partP]
  have e : (128 + (n : Int)).toNat = 128 + n := by omega
  rw [e]
  refine ⟨?_, by omega⟩
  by_cases h0 : n = 0
  · rw [if_pos (by omega), if_pos h0]
  · rw [if_neg (by omega), if_neg h0]
theorem vpart_bs {w : World} {p : Option Addr} {cap n N : Nat} {S : DS} {m : Nat} (h : BsAt w p (128 * N) cap (runL S m N)) (hn : n ≤ 128 * (N - 1)) (hN : 1 ≤ N) : BsAt w (partP p 128 (128 + n)) n n (segL S m n) := by
  have h1 := part_bs (lo := 128) (hi := 128 + n) h (by omega) (by omega)
  rw [show 128 + n - 128 = n by omega, List.drop_take, show 128 + n - 128 = n by omega] at h1
  unfold runL at h1
  rw [List.drop_take, List.drop_drop, List.take_take, show min n (128 * N - 128) = n by omega, show 128 * m + 128 = 128 * (m + 1) by omega] at h1
  exact h1
theorem partP_block {p : Option Addr} {lo hi : Nat} {P : Nat → Prop} (h : ∀ a, p = some a → P a.block) : ∀ a, partP p lo hi = some a → P a.block := by
  intro a ha
  unfold partP at ha
  split at ha
  · exact h a ha
  · cases p with
    | none => cases ha
    | some q =>
      simp only [Option.map_some, Option.some.injEq] at ha
      rw [← ha]
      have : (q.add lo).block = q.block := by unfold Addr.add; split <;> rfl
      rw [this]; exact h q rfl

set_option maxRecDepth 100000 in
set_option maxHeartbeats 1600000 in
theorem vHeld_any {w : World} {vb db a : Nat} {S : DS} {D : Nat → Prop} (m : Nat) (hb : Blk w vb (vltV db a) 58) (hA : theRel.At w db S D) (hok : DSOk S) (ho : S.off = false) (hm : m + 256 ≤ S.len) :
    Calls Try.prog 49 #[ptrV vb, .int .i64 (m : Int)] w fun e w' => ∃ v, e = .returned (.tuple #[v, .bool (heldR S m).isSome]) ∧
      (∃ g q n c l, v = savedV (g : Nat) (.slice q n c) ∧ BsAt w' q n c l ∧ (∀ x, q = some x → w.heap.size ≤ x.block) ∧ ∀ y, heldR S m = some y → y = (g, l)) ∧ Below w.heap.size w w' := by
  have hfew := hok.few
  have HK := Lib.hid hb
  have HA := Lib.hid hA
  have HOk := Lib.hid hok
  have HOf := Lib.hid ho
  have HR1 := Lib.hid (vRead_any (w := w.alloc (.cells #[.int .i64 0, .slice none 0 0] 76)) m 1 (hb.below (belowNew w _) hb.lt) (DiskRel.below hA (belowNew w _)) hok ho (by omega))
  rw [runL_one] at HR1
  have HRn := Lib.hid (fun V (hV : Below w.heap.size w V) n (hn : n ≤ 256) => vRead_any (w := V) m n (hb.below hV hb.lt) (DiskRel.below hA hV) hok ho (by omega))
  have hm9 : m ≤ 1024 := by omega
  have H4 := Lib.hid (Blk.new w #[.int .i64 0, .slice none 0 0] 76)
  have HB0 := Lib.hid (belowNew w (.cells #[.int .i64 0, .slice none 0 0] 76))
  have hdef : heldR S m = match toldR (blockL S m) with
    | some (g, n) => if runL S m (1 + blkN n) = imgL g (segL S m n) then some (g, segL S m n) else none
    | none => none := rfl
  have HTl := Lib.hid (show ∀ g n, toldR (blockL S m) = some (g, n) → n ≤ 32640 ∧ g ≤ 2147483647 from fun g n h => by
    unfold toldR at h
    split at h
    · rename_i h2
      cases h
      exact ⟨h2.2.2, (frR_gen h2.1).2⟩
    · cases h)
  have HSl := Lib.hid (show ∀ n, n ≤ 32640 → (segL S m n).length = n from fun n hn => by
    have := hok.len
    unfold segL; rw [List.length_take, List.length_drop]; omega)
  clear hb hA hok ho hm hfew
  unfold ptrV at *
  go_enter Try.func49, Try.ntmps49
  go_wp2_with fail
  refine HR1.out.mono ?_
  rintro e w1 ⟨q1, c1, rfl, hb1, -, hB1⟩
  have HB1 := Lib.hid (HB0.out.trans (hB1.mono HB0.out.size))
  have H41 := Lib.hid (H4.out.below hB1 H4.out.lt)
  have HTo := Lib.hid (vTold_any (cap := c1) (t := blockL S m) hb1 (Nat.lt_of_le_of_lt (Nat.zero_le _) (H4.out.below hB1 H4.out.lt).lt))
  clear hb1 hB1 HR1 H4 HB0
  cases ht : toldR (blockL S m) with
  | none =>
    rw [ht] at HTo hdef
    have HE := Lib.hid hdef
    clear hdef ht
    unfold toldV at HTo
    simp only at HTo
    go_wp2_with fail
    refine HTo.out.mono ?_
    rintro e w2 ⟨rfl, hB2⟩
    have HB2 := Lib.hid (HB1.out.trans (hB2.mono HB1.out.size))
    have H42 := Lib.hid (H41.out.below hB2 H41.out.lt)
    have k0 := H42.out.cell 0
    have k1 := H42.out.cell 1
    have f0 := H42.out.free 0
    have f1 := H42.out.free 1
    clear hB2
    go_wp2_with fail
    have r := (H42.out.set 0 (.int .i64 0)).set 1 (.slice none 0 0)
    have r0 := r.cell 0
    have r1 := r.cell 1
    simp at r0 r1
    refine bodyPost_ret (v := .tuple #[.agg #[.int .i64 0, .slice none 0 0], .bool false]) (by simp [results, Try.results49, go_sem, r0, r1]) rfl ?_
    refine ⟨_, by rw [HE.out]; rfl, ⟨0, none, 0, 0, [], rfl, bsAt_nil _, (fun x hx => by cases hx), fun y hy => by rw [HE.out] at hy; cases hy⟩, (HB2.out.setCell (Nat.le_refl _) _).setCell (Nat.le_refl _) _⟩
  | some y =>
    obtain ⟨g, n⟩ := y
    rw [ht] at HTo hdef
    simp only at hdef
    have HE := Lib.hid hdef
    obtain ⟨hn, hg⟩ := HTl.out g n ht
    have HG := Lib.hid hg
    have hblk : blkN n ≤ 255 := by unfold blkN; omega
    have hle := blkN_le n
    have HBk := Lib.hid (fun V => vBlocks_nat n V (by omega))
    have m1 : IntKind.i64.wrap (1 + ((blkN n : Nat) : Int)) = 1 + ((blkN n : Nat) : Int) := IntWalk.i64_in _ (by omega)
    have m2 : IntKind.i64.wrap (128 + (n : Int)) = 128 + (n : Int) := IntWalk.i64_in _ (by omega)
    have hsl := HSl.out n hn
    have HIm := Lib.hid (fun (V : World) (p : Option Addr) (hV : BsAt V p n n (segL S m n)) => vImage_any (w := V) (p := p) (cap := n) (b := segL S m n) g (by rw [hsl]; exact hV) hg (by rw [hsl]; exact hblk))
    have HIl := Lib.hid (imgL_length g (segL S m n))
    rw [hsl] at HIm HIl
    have HPb := Lib.hid (fun (V : World) (p : Option Addr) (c : Nat) (hV : BsAt V p (128 * (1 + blkN n)) c (runL S m (1 + blkN n))) => vpart_bs (n := n) hV (by omega) (by omega))
    clear hdef ht hn hg hsl HTl HSl
    unfold toldV at HTo
    simp only at HTo
    generalize hN : blkN n = N at *
    have hNb : 128 + n ≤ 128 * (1 + N) := by omega
    clear hN hle
    go_wp2_with fail
    refine HTo.out.mono ?_
    rintro e w2 ⟨rfl, hB2⟩
    have HB2 := Lib.hid (HB1.out.trans (hB2.mono HB1.out.size))
    have H42 := Lib.hid (H41.out.below hB2 H41.out.lt)
    have HRd := Lib.hid (HRn.out w2 HB2.out (1 + N) (by omega))
    rw [show ((1 + N : Nat) : Int) = 1 + (N : Int) by omega] at HRd
    clear hB2 HTo H41 HB1
    go_wp2_with fail
    refine (HBk.out _).mono ?_
    rintro e w3 ⟨rfl, rfl⟩
    go_wp2_with fail
    refine HRd.out.mono ?_
    rintro e w4 ⟨q4, c4, rfl, hb4, hq4, hB4⟩
    have hle4 := hb4.le
    have u4 := fun V => vpart V q4 (128 * (1 + N)) c4 n (by omega)
    have HB4 := Lib.hid (HB2.out.trans (hB4.mono HB2.out.size))
    have H44 := Lib.hid (H42.out.below hB4 H42.out.lt)
    have HS4 := Lib.hid hb4
    have HX4 := Lib.hid (HPb.out w4 q4 c4 hb4)
    have HQ4 := Lib.hid (partP_block (lo := 128) (hi := 128 + n) (P := fun k => w.heap.size < k) (fun x hx => Nat.lt_of_lt_of_le H42.out.lt (hq4 x hx)))
    clear hb4 hq4 hB4 H42 HB2 HRd
    generalize partP q4 128 (128 + n) = px at *
    go_wp2_with fail
    refine (HIm.out _ _ HX4.out).mono ?_
    rintro e w5 ⟨q5, c5, rfl, hb5, -, hB5⟩
    have HB5 := Lib.hid (HB4.out.trans (hB5.mono HB4.out.size))
    have H45 := Lib.hid (H44.out.below hB5 H44.out.lt)
    have HX5 := Lib.hid (HX4.out.below hB5 (Nat.le_refl _))
    have HEq := Lib.hid (bEqual_any (HS4.out.below hB5 (Nat.le_refl _)) hb5)
    clear hb5 hB5 H44 HB4 HIm HPb HX4 HS4
    rw [HIl.out] at HEq ⊢
    by_cases hq : runL S m (1 + N) = imgL g (segL S m n)
    · have HE2 := Lib.hid (HE.out.trans (if_pos hq))
      rw [show decide (runL S m (1 + N) = imgL g (segL S m n)) = true by simpa using hq] at HEq
      have k0 := H45.out.cell 0
      have k1 := H45.out.cell 1
      have f0 := H45.out.free 0
      have f1 := H45.out.free 1
      clear hq HE
      go_wp2_with fail
      refine HEq.out.mono ?_
      rintro e w6 ⟨rfl, rfl⟩
      go_wp2_with fail
      have r := (H45.out.set 0 (.int .i64 (g : Int))).set 1 (.slice px n n)
      have r0 := r.cell 0
      have r1 := r.cell 1
      simp at r0 r1
      have hB6 := (HB5.out.setCell (p := ⟨w.heap.size, 0, none⟩) (Nat.le_refl _) (.int .i64 (g : Int))).setCell (p := ⟨w.heap.size, 1, none⟩) (Nat.le_refl _) (.slice px n n)
      have hc := ((Chg.refl (fun k => k = w.heap.size) w6).setCell (p := ⟨w.heap.size, 0, none⟩) (fun _ => rfl) (.int .i64 (g : Int))).setCell (p := ⟨w.heap.size, 1, none⟩) (fun _ => rfl) (.slice px n n)
      have hbx := HX5.out.chg hc (fun x hx e => by have h1 := HQ4.out x hx; have h2 : x.block = w.heap.size := e; omega)
      refine bodyPost_ret (v := .tuple #[.agg #[.int .i64 (g : Int), .slice px n n], .bool true]) (by simp [results, Try.results49, go_sem, r0, r1]) rfl ?_
      exact ⟨_, by rw [HE2.out]; rfl, ⟨g, px, n, n, _, rfl, hbx, (fun x hx => Nat.le_of_lt (HQ4.out x hx)), fun y hy => by rw [HE2.out] at hy; cases hy; rfl⟩, hB6⟩
    · have HE2 := Lib.hid (HE.out.trans (if_neg hq))
      rw [show decide (runL S m (1 + N) = imgL g (segL S m n)) = false by simpa using hq] at HEq
      have k0 := H45.out.cell 0
      have k1 := H45.out.cell 1
      have f0 := H45.out.free 0
      have f1 := H45.out.free 1
      clear hq HE
      go_wp2_with fail
      refine HEq.out.mono ?_
      rintro e w6 ⟨rfl, rfl⟩
      go_wp2_with fail
      have r := (H45.out.set 0 (.int .i64 0)).set 1 (.slice none 0 0)
      have r0 := r.cell 0
      have r1 := r.cell 1
      simp at r0 r1
      refine bodyPost_ret (v := .tuple #[.agg #[.int .i64 0, .slice none 0 0], .bool false]) (by simp [results, Try.results49, go_sem, r0, r1]) rfl ?_
      refine ⟨_, by rw [HE2.out]; rfl, ⟨0, none, 0, 0, [], rfl, bsAt_nil _, (fun x hx => by cases hx), fun y hy => by rw [HE2.out] at hy; cases hy⟩, (HB5.out.setCell (Nat.le_refl _) _).setCell (Nat.le_refl _) _⟩
end Go.Proofs.Ytbmcajhknohhdaa
