/-
  Frames in plain terms: what a block holds, what is read of one.
-/
import Derived.Test.YtbmcajhknohhdaaCrcM
import Derived.Test.YtbmcajhknohhdaaDskM
namespace Go.Proofs.Ytbmcajhknohhdaa

def zeros (n : Nat) : List UInt8 := List.replicate n 0
def frHead (kd : UInt8) (gen seq n : Nat) : List UInt8 := [kd, UInt8.ofNat (gen / 16777216), UInt8.ofNat (gen / 65536), UInt8.ofNat (gen / 256), UInt8.ofNat gen, UInt8.ofNat (seq / 256), UInt8.ofNat seq, UInt8.ofNat n]
def frBody (kd : UInt8) (gen seq : Nat) (b : List UInt8) : List UInt8 := frHead kd gen seq b.length ++ b ++ zeros (112 - b.length)
def frTail : List UInt8 := [0, 0, 0, 69]
def frL (kd : UInt8) (gen seq : Nat) (b : List UInt8) : List UInt8 := sealL (frBody kd gen seq b) ++ frTail
def frWE (gen seq : Int) (b : List UInt8) : Int := if gen < 0 ∨ 2147483647 < gen ∨ seq < 0 ∨ 65535 < seq then 8 else if 112 < b.length then 5 else 0
def frWL (kd : UInt8) (gen seq : Int) (b : List UInt8) : List UInt8 := if frWE gen seq b = 0 then frL kd gen.toNat seq.toNat b else []
theorem frBody_length {kd : UInt8} {gen seq : Nat} {b : List UInt8} (h : b.length ≤ 112) : (frBody kd gen seq b).length = 120 := by
  simp only [frBody, frHead, zeros, List.length_append, List.length_cons, List.length_nil, List.length_replicate]; omega
theorem frL_length {kd : UInt8} {gen seq : Nat} {b : List UInt8} (h : b.length ≤ 112) : (frL kd gen seq b).length = 128 := by
  simp only [frL, sealL, frTail, le4, List.length_append, List.length_cons, List.length_nil, frBody_length h]
/-- The bytes at a place, or 0. -/
def at8 (t : List UInt8) (k : Nat) : Nat := (t.getD k 0).toNat
def frGen (t : List UInt8) : Nat := 16777216 * at8 t 1 + 65536 * at8 t 2 + 256 * at8 t 3 + at8 t 4
def frSeq (t : List UInt8) : Nat := 256 * at8 t 5 + at8 t 6
def frPay (t : List UInt8) : List UInt8 := (t.drop 8).take (at8 t 7)
/-- Why a block of 128 bytes is no frame, or 0. -/
def frRE (kd : UInt8) (t : List UInt8) : Int :=
  if t.length ≠ 128 then 1
  else if t.getD 0 0 ≠ kd ∨ t.drop 124 ≠ frTail then 3
  else if sealL (t.take 120) ≠ t.take 124 then 18
  else if 112 < at8 t 7 ∨ frWL kd (frGen t) (frSeq t) (frPay t) ≠ t then 3
  else 0
structure FrR where
  gen : Int
  seq : Int
  pay : List UInt8
  e : Int
def frR (kd : UInt8) (t : List UInt8) : FrR := if frRE kd t = 0 then ⟨frGen t, frSeq t, frPay t, 0⟩ else ⟨0, 0, [], frRE kd t⟩

theorem frL_get {kd : UInt8} {gen seq : Nat} {b : List UInt8} (hg : gen < 4294967296) (hs : seq < 65536) (h : b.length ≤ 112) :
    (frL kd gen seq b).getD 0 0 = kd ∧ frGen (frL kd gen seq b) = gen ∧ frSeq (frL kd gen seq b) = seq ∧ at8 (frL kd gen seq b) 7 = b.length := by
  have e : ∃ r, frL kd gen seq b = kd :: UInt8.ofNat (gen / 16777216) :: UInt8.ofNat (gen / 65536) :: UInt8.ofNat (gen / 256) :: UInt8.ofNat gen :: UInt8.ofNat (seq / 256) :: UInt8.ofNat seq :: UInt8.ofNat b.length :: r := by
    refine ⟨b ++ zeros (112 - b.length) ++ le4 (crcSum (frBody kd gen seq b)) ++ frTail, ?_⟩
    simp [frL, sealL, frBody, frHead]
  obtain ⟨r, e⟩ := e
  rw [e]
  refine ⟨rfl, ?_, ?_, ?_⟩
  · simp [frGen, at8]; omega
  · simp [frSeq, at8]; omega
  · simp [at8]; omega
theorem frL_pay {kd : UInt8} {gen seq : Nat} {b : List UInt8} (h7 : at8 (frL kd gen seq b) 7 = b.length) : frPay (frL kd gen seq b) = b := by
  unfold frPay
  rw [h7]
  have e : frL kd gen seq b = frHead kd gen seq b.length ++ (b ++ (zeros (112 - b.length) ++ (le4 (crcSum (frBody kd gen seq b)) ++ frTail))) := by
    simp [frL, sealL, frBody]
  rw [e, List.drop_left' (show (frHead kd gen seq b.length).length = 8 from rfl), List.take_left]
/-- What is written is read. -/
theorem frR_frW {kd : UInt8} {gen seq : Int} {b : List UInt8} (h : frWE gen seq b = 0) : frR kd (frWL kd gen seq b) = ⟨gen, seq, b, 0⟩ := by
  have hr : ¬ (gen < 0 ∨ 2147483647 < gen ∨ seq < 0 ∨ 65535 < seq) ∧ ¬ 112 < b.length := by
    unfold frWE at h
    split at h
    · cases h
    · split at h
      · cases h
      · exact ⟨‹_›, ‹_›⟩
  have hb : b.length ≤ 112 := by omega
  have hw : frWL kd gen seq b = frL kd gen.toNat seq.toNat b := by unfold frWL; rw [if_pos h]
  obtain ⟨h0, h1, h2, h3⟩ := frL_get (kd := kd) (gen := gen.toNat) (seq := seq.toNat) (b := b) (by omega) (by omega) hb
  have h4 := frL_pay h3
  have hlen := frL_length (kd := kd) (gen := gen.toNat) (seq := seq.toNat) hb
  have hbl := frBody_length (kd := kd) (gen := gen.toNat) (seq := seq.toNat) hb
  have hsl : (sealL (frBody kd gen.toNat seq.toNat b)).length = 124 := by simp [sealL, le4, hbl]
  have hd : (frL kd gen.toNat seq.toNat b).drop 124 = frTail := by
    unfold frL; rw [List.drop_left' hsl]
  have ht4 : (frL kd gen.toNat seq.toNat b).take 124 = sealL (frBody kd gen.toNat seq.toNat b) := by
    unfold frL; rw [List.take_left' hsl]
  have ht0 : (frL kd gen.toNat seq.toNat b).take 120 = frBody kd gen.toNat seq.toNat b := by
    unfold frL sealL; rw [List.append_assoc, List.take_left' hbl]
  have he : frRE kd (frL kd gen.toNat seq.toNat b) = 0 := by
    unfold frRE
    rw [if_neg (by rw [hlen]; decide), if_neg (by rw [h0, hd]; simp), if_neg (by rw [ht0, ht4]; simp), if_neg]
    rw [h1, h2, h3, h4]
    rintro (h5 | h5)
    · omega
    · refine h5 ?_
      have e1 : ((gen.toNat : Nat) : Int) = gen := Int.toNat_of_nonneg (by omega)
      have e2 : ((seq.toNat : Nat) : Int) = seq := Int.toNat_of_nonneg (by omega)
      rw [e1, e2, hw]
  unfold frR
  rw [hw, if_pos he, h1, h2, h4, Int.toNat_of_nonneg (by omega), Int.toNat_of_nonneg (by omega)]
/-- What is read is written as the same block. -/
theorem frW_frR {kd : UInt8} {t : List UInt8} (h : (frR kd t).e = 0) : frWE (frR kd t).gen (frR kd t).seq (frR kd t).pay = 0 ∧ frWL kd (frR kd t).gen (frR kd t).seq (frR kd t).pay = t := by
  have he : frRE kd t = 0 := by
    unfold frR at h
    split at h
    · assumption
    · exact h
  have hR : frR kd t = ⟨frGen t, frSeq t, frPay t, 0⟩ := by unfold frR; rw [if_pos he]
  rw [hR]
  have hw : frWL kd (frGen t) (frSeq t) (frPay t) = t ∧ t.length = 128 := by
    unfold frRE at he
    split at he
    · cases he
    · rename_i hl
      split at he
      · cases he
      · split at he
        · cases he
        · split at he
          · cases he
          · rename_i h5
            exact ⟨Classical.not_not.1 fun h6 => h5 (.inr h6), Classical.not_not.1 hl⟩
  refine ⟨?_, hw.1⟩
  have h1 := hw.1
  by_cases h2 : frWE (frGen t) (frSeq t) (frPay t) = 0
  · exact h2
  · unfold frWL at h1
    rw [if_neg h2] at h1
    have := hw.2
    rw [← h1] at this; simp at this
/-- A torn block is no frame. -/
theorem torn_none {kd : UInt8} {t : List UInt8} (h : t.length = 128) (h127 : t[127]? = some 255) : frRE kd t = 3 := by
  unfold frRE
  rw [if_neg (by omega), if_pos]
  right
  intro h1
  have h2 := congrArg (fun l => l[3]?) h1
  simp only [List.getElem?_drop] at h2
  rw [h127] at h2
  simp [frTail] at h2
end Go.Proofs.Ytbmcajhknohhdaa
