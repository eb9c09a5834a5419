/-
  The law DiskTears, from the kit: behind a torn write just that block may be another one than it was.
-/
import Derived.Test.YtmkaglaogkadcaaDskS
namespace Go.Proofs.Ytmkaglaogkadcaa
open Go.RowKit

theorem block_put {all l : List UInt8} {i n : Nat} (hl : l.length = 128) (h : 128 * i + 128 ≤ all.length) : ((putL all (128 * i) l).drop (128 * n)).take 128 = if n = i then l else (all.drop (128 * n)).take 128 := by
  apply List.ext_getElem?
  intro k
  by_cases hk : k < 128
  · rw [List.getElem?_take, if_pos hk, List.getElem?_drop, putL_get (by omega), hl]
    by_cases hn : n = i
    · subst hn
      rw [if_pos ⟨by omega, by omega⟩, if_pos rfl]
      congr 1; omega
    · rw [if_neg hn, List.getElem?_take, if_pos hk, List.getElem?_drop, if_neg (by
        rcases Nat.lt_or_ge n i with h1 | h1
        · omega
        · omega)]
  · rw [List.getElem?_take, if_neg hk]
    symm
    split
    · exact List.getElem?_eq_none (by omega)
    · rw [List.getElem?_take, if_neg hk]
theorem act_byte (b : Nat) : actL b 0 = risingL b 128 := rfl
theorem writeE_ok {S : DS} {i : Nat} {l : List UInt8} (hi : i < S.len) (hl : l.length = 128) (ho : S.off = false) (hf : S.fuse = -1) : writeE S i l = 0 := by
  have h1 : hasD S (i : Int) = true := hasD_iff.2 ⟨by omega, by omega⟩
  unfold writeE; simp [h1, hl, ho, hf]
theorem writeS_ok {S : DS} {i : Nat} {l : List UInt8} (hi : i < S.len) (hl : l.length = 128) (ho : S.off = false) (hf : S.fuse = -1) : writeS S i l = ⟨putL S.all (128 * i) l, false, -1, S.keep, S.wr + 1⟩ := by
  have h1 : hasD S (i : Int) = true := hasD_iff.2 ⟨by omega, by omega⟩
  unfold writeS
  rw [if_pos (by simp [writeOk, h1, hl, ho])]
  simp [writtenL, hf]
theorem write_n8 {S : DS} (h : DSOk S) (i : Int) (l : List UInt8) {n : Nat} (hn : S.len = n) : (writeS S i l).len = n := by
  unfold DS.len at *; rw [writeS_len S h]; exact hn
/-- Armed, and torn. -/
theorem torn_facts {S : DS} {i kk : Nat} {l : List UInt8} (hi : i < S.len) (hl : l.length = 128) (ho : S.off = false) (hk : kk ≤ 128) :
    armE 0 kk = 0 ∧ writeE (armS S 0 kk) i l = 19 ∧ (writeS (armS S 0 kk) i l).off = true ∧ (writeS (armS S 0 kk) i l).all = putL S.all (128 * i) (tornL kk l) := by
  have h0 : armE 0 kk = 0 := by unfold armE; rw [if_neg (by omega)]
  have hs : armS S 0 kk = ⟨S.all, false, 0, kk, S.wr⟩ := by unfold armS; rw [if_pos h0, ho]
  have h1 : hasD ⟨S.all, false, 0, kk, S.wr⟩ (i : Int) = true := hasD_iff.2 ⟨by omega, by show (i : Int) < (S.len : Int); omega⟩
  refine ⟨h0, ?_, ?_, ?_⟩
  · rw [hs]; unfold writeE; simp [h1, hl]
  · rw [hs]; unfold writeS; rw [if_pos (by simp [writeOk, h1, hl])]; rfl
  · rw [hs]; unfold writeS; rw [if_pos (by simp [writeOk, h1, hl])]; simp [writtenL]
theorem torn_down {S : DS} (hok : DSOk S) {i kk : Nat} {l : List UInt8} (hi : i < S.len) (hl : l.length = 128) (ho : S.off = false) (hk : kk ≤ 128) : readE (writeS (armS S 0 kk) i l) i = 19 := by
  obtain ⟨-, -, h1, ha⟩ := torn_facts (kk := kk) hi hl ho hk
  have hlen := hok.len
  have e : (writeS (armS S 0 kk) i l).len = S.len := by
    show (writeS (armS S 0 kk) i l).all.length / 128 = _
    rw [ha, putL_length (by rw [tornL_length (by omega), hl]; omega)]; rfl
  unfold readE
  rw [hasD_iff.2 ⟨by omega, by rw [e]; omega⟩, h1]; rfl
/-- What each block reads as behind it. -/
theorem torn_read {S : DS} (hok : DSOk S) {i kk n : Nat} {l : List UInt8} (hi : i < S.len) (hn : n < S.len) (hl : l.length = 128) (ho : S.off = false) (hk : kk ≤ 128) :
    readE (powerS (writeS (armS S 0 kk) i l)) n = 0 ∧ readL (powerS (writeS (armS S 0 kk) i l)) n = (if n = i then tornL kk l else blockL S n) ∧ readE S n = 0 ∧ readL S n = blockL S n ∧ (blockL S n).length = 128 := by
  obtain ⟨-, -, -, ha⟩ := torn_facts (kk := kk) hi hl ho hk
  have h2 : readE S n = 0 := by
    unfold readE; rw [hasD_iff.2 ⟨by omega, by omega⟩, ho]; rfl
  have h3 : readL S n = blockL S n := by unfold readL; rw [if_pos h2]; rfl
  have hlen := hok.len
  have e : (powerS (writeS (armS S 0 kk) i l)).len = S.len := by
    show (writeS (armS S 0 kk) i l).all.length / 128 = _
    rw [ha, putL_length (by rw [tornL_length (by omega), hl]; omega)]; rfl
  have h4 : readE (powerS (writeS (armS S 0 kk) i l)) n = 0 := by
    unfold readE; rw [hasD_iff.2 ⟨by omega, by rw [e]; omega⟩]; rfl
  refine ⟨h4, ?_, h2, h3, by rw [← h3]; exact readL_length hok h2⟩
  unfold readL
  rw [if_pos h4]
  show (((writeS (armS S 0 kk) i l).all).drop (128 * (n : Int).toNat)).take 128 = _
  rw [ha, Int.toNat_natCast, block_put (by rw [tornL_length (by omega), hl]) (by omega)]
  rfl
/-- A torn row, byte by byte. -/
theorem torn_byte {bb kk j : Nat} (hj : j < 128) : (tornL (kk : Int) (risingL bb 128))[j]? = some (if j < kk then UInt8.ofNat (bb + j) else 255) := by
  rw [tornL_get (by omega) (by rw [risingL_length]; exact hj)]
  by_cases h : j < kk
  · rw [if_neg (by omega), if_pos h, List.getElem?_eq_getElem (by rw [risingL_length]; exact hj), risingL_get _ _ _ hj]
  · rw [if_pos (by omega), if_neg h]

end Go.Proofs.Ytmkaglaogkadcaa
