/-
  Changes in plain terms: what is written is read.
-/
import Derived.Test.YthpangacpihclaaDoorWChS
import Derived.Test.YthpangacpihclaaDoorWChU
/-! ChX -/
namespace Go.Proofs.YthpangacpihclaaDoor
open Go.RowKit

theorem be_halves (n : Nat) : be n 2 = [UInt8.ofNat (n / 256), UInt8.ofNat (n % 256)] := by
  have e : UInt8.ofNat n = UInt8.ofNat (n % 256) := by
    apply UInt8.toNat_inj.1
    simp
  simp [be, e]
theorem rd_byte {n : Nat} (hn : n ≤ 255) (r : List UInt8) : rdB (UInt8.ofNat n :: r, 0) = n ∧ rdBs (UInt8.ofNat n :: r, 0) = (r, 0) := by
  have h := dNum_be (n := n) (z := 1) (most := 255) (by decide) (by decide) (by omega) hn r
  have e : be n 1 ++ r = UInt8.ofNat n :: r := by simp [be]
  rw [e] at h
  unfold rdB rdBs
  rw [show dNum (UInt8.ofNat n :: r, (0 : Int)) 1 255 = ((n : Int), (r, 0)) from h]
  exact ⟨rfl, rfl⟩
theorem rd_word {n : Nat} (hn : n < 65536) (r : List UInt8) : rdWd (UInt8.ofNat (n / 256) :: UInt8.ofNat (n % 256) :: r, 0) = n ∧ rdWs (UInt8.ofNat (n / 256) :: UInt8.ofNat (n % 256) :: r, 0) = (r, 0) := by
  have h := dNum_be2 hn r
  rw [be_halves] at h
  unfold rdWd rdWs
  rw [show dNum (UInt8.ofNat (n / 256) :: UInt8.ofNat (n % 256) :: r, (0 : Int)) 2 65535 = ((n : Int), (r, 0)) from h]
  exact ⟨rfl, rfl⟩
theorem rd_chg {c : Cg} (hc : CgOk c) (hg : cgB c = true) (r : List UInt8) : rdCg (chgL c ++ r, 0) = c ∧ rdCs (chgL c ++ r, 0) = (r, 0) := by
  obtain ⟨h1, h2, h3, h4, h5, -, h7⟩ := cgB_iff.1 hg
  have hb : c.b ≤ 16 := by unfold mostN at h7; split at h7 <;> (try split at h7) <;> omega
  have hs := hc.s
  have hi := hc.i
  obtain ⟨k, a, b, s, i⟩ := c
  simp only at h1 h2 h3 h4 h5 hb hs hi
  obtain ⟨k, rfl⟩ := Int.eq_ofNat_of_zero_le (show 0 ≤ k by omega)
  obtain ⟨a, rfl⟩ := Int.eq_ofNat_of_zero_le h3
  obtain ⟨b, rfl⟩ := Int.eq_ofNat_of_zero_le h5
  have e : chgL ⟨(k : Int), (a : Int), (b : Int), s, i⟩ ++ r = UInt8.ofNat k :: UInt8.ofNat a :: UInt8.ofNat b :: UInt8.ofNat (s / 256) :: UInt8.ofNat (s % 256) :: UInt8.ofNat (i / 256) :: UInt8.ofNat (i % 256) :: r := rfl
  rw [e, rdCg_is, rdCs_is]
  obtain ⟨r1, r2⟩ := rd_byte (n := k) (by omega) (UInt8.ofNat a :: UInt8.ofNat b :: UInt8.ofNat (s / 256) :: UInt8.ofNat (s % 256) :: UInt8.ofNat (i / 256) :: UInt8.ofNat (i % 256) :: r)
  obtain ⟨r3, r4⟩ := rd_byte (n := a) (by omega) (UInt8.ofNat b :: UInt8.ofNat (s / 256) :: UInt8.ofNat (s % 256) :: UInt8.ofNat (i / 256) :: UInt8.ofNat (i % 256) :: r)
  obtain ⟨r5, r6⟩ := rd_byte (n := b) (by omega) (UInt8.ofNat (s / 256) :: UInt8.ofNat (s % 256) :: UInt8.ofNat (i / 256) :: UInt8.ofNat (i % 256) :: r)
  obtain ⟨r7, r8⟩ := rd_word hs (UInt8.ofNat (i / 256) :: UInt8.ofNat (i % 256) :: r)
  obtain ⟨r9, r10⟩ := rd_word hi r
  rw [r1, r2, r3, r4, r5, r6, r7, r8, r9, r10]
  exact ⟨rfl, rfl⟩
theorem rdOne_ok {c : Cg} (hc : CgOk c) (hg : cgB c = true) (r : List UInt8) : rdOne (chgL c ++ r, 0) = (r, 0) := by
  obtain ⟨h1, h2⟩ := rd_chg hc hg r
  rw [rdOne_is, h1, h2, if_neg (fun h => by rw [hg] at h; cases h.2)]
theorem rdMany_bytes : ∀ (l acc : List Cg) (r : List UInt8), (∀ c ∈ l, CgOk c ∧ cgB c = true) → rdMany l.length acc (l.flatMap chgL ++ r, 0) = (acc ++ l, (r, 0))
  | [], acc, r, _ => by simp [rdMany]
  | c :: l, acc, r, h => by
    obtain ⟨h1, h2⟩ := h c (by simp)
    have e : (c :: l).flatMap chgL ++ r = chgL c ++ (l.flatMap chgL ++ r) := by simp
    rw [e, List.length_cons, rdMany_step rfl, (rd_chg h1 h2 _).1, rdOne_ok h1 h2, rdMany_bytes l _ r (fun d hd => h d (by simp [hd]))]
    simp
theorem rd_bytes {l : List Cg} (h1 : 1 ≤ l.length) (h6 : l.length ≤ 6) (hc : ∀ c ∈ l, CgOk c ∧ cgB c = true) (r : List UInt8) : rdQ (bytesQ l ++ r, 0) = l ∧ rdQs (bytesQ l ++ r, 0) = (r, 0) := by
  have e : bytesQ l ++ r = UInt8.ofNat l.length :: (l.flatMap chgL ++ r) := by unfold bytesQ bytesK; rw [List.take_length]; rfl
  obtain ⟨r1, r2⟩ := rd_byte (n := l.length) (by omega) (l.flatMap chgL ++ r)
  have h3 : rdAll (bytesQ l ++ r, 0) = (l, (r, 0)) := by
    rw [e]
    unfold rdAll rdHead
    rw [r1, r2, if_neg (by rintro ⟨-, h⟩; omega), rdMany_bytes l [] r hc]
    rfl
  unfold rdQ rdQs
  rw [h3]
  exact ⟨if_pos rfl, rfl⟩
end Go.Proofs.YthpangacpihclaaDoor
