/-
  Disks in plain terms: all bytes one behind the other, on or off, the fuse, the writes; what each call answers and leaves.
-/
namespace Go.Proofs.YtoieodlpoglmfaaDoor

structure DS where
  all : List UInt8
  off : Bool
  fuse : Int
  keep : Int
  wr : Int
/-- Of b, and one more each place. -/
def risingL (b n : Nat) : List UInt8 := (List.range n).map fun k => UInt8.ofNat (b + k)
theorem risingL_length (b n : Nat) : (risingL b n).length = n := by simp [risingL]
theorem risingL_succ (b n : Nat) : risingL b (n + 1) = risingL b n ++ [UInt8.ofNat (b + n)] := by simp [risingL, List.range_succ]
theorem risingL_get (b n k : Nat) (h : k < n) : (risingL b n)[k]'(by rw [risingL_length]; exact h) = UInt8.ofNat (b + k) := by simp [risingL]
/-- How many bytes an act writes. -/
def actN (size : Int) : Int := if size < -100 ∨ 100 < size then 128 + size else 128
def actL (b : Nat) (size : Int) : List UInt8 := risingL b (actN size).toNat
def DS.new (n : Nat) : DS := ⟨List.replicate (128 * n) 0, false, -1, 0, 0⟩
def DS.len (S : DS) : Nat := S.all.length / 128
/-- Is there such a block? -/
def hasD (S : DS) (i : Int) : Bool := decide (0 ≤ i) && decide (i < (S.len : Int))
/-- What is left of a write that the fuse tears. -/
def tornL (keep : Int) (l : List UInt8) : List UInt8 := l.take keep.toNat ++ List.replicate (l.length - keep.toNat) 255
theorem tornL_length {keep : Int} {l : List UInt8} (h : keep ≤ l.length) : (tornL keep l).length = l.length := by
  simp only [tornL, List.length_append, List.length_take, List.length_replicate]; omega
theorem tornL_get {keep : Int} {l : List UInt8} (h0 : 0 ≤ keep) {k : Nat} (hk : k < l.length) : (tornL keep l)[k]? = if keep ≤ k then some 255 else l[k]? := by
  unfold tornL
  by_cases hl : keep.toNat ≤ l.length
  · by_cases h : keep ≤ k
    · rw [if_pos h, List.getElem?_append_right (by rw [List.length_take]; omega), List.getElem?_replicate, if_pos (by rw [List.length_take]; omega)]
    · rw [if_neg h, List.getElem?_append_left (by simp; omega), List.getElem?_take, if_pos (by omega)]
  · rw [if_neg (by omega), List.getElem?_append_left (by simp; omega), List.getElem?_take, if_pos (by omega)]
/-- The bytes with 128 others at a place. -/
def putL (all : List UInt8) (at_ : Nat) (l : List UInt8) : List UInt8 := all.take at_ ++ (l ++ all.drop (at_ + l.length))
theorem putL_length {all l : List UInt8} {a : Nat} (h : a + l.length ≤ all.length) : (putL all a l).length = all.length := by
  simp only [putL, List.length_append, List.length_take, List.length_drop]; omega
theorem putL_get {all l : List UInt8} {a : Nat} (h : a + l.length ≤ all.length) (k : Nat) : (putL all a l)[k]? = if a ≤ k ∧ k < a + l.length then l[k - a]? else all[k]? := by
  unfold putL
  by_cases h1 : k < a
  · rw [if_neg (by omega), List.getElem?_append_left (by simp; omega), List.getElem?_take, if_pos h1]
  · rw [List.getElem?_append_right (by simp; omega)]
    have e : k - (List.take a all).length = k - a := by rw [List.length_take]; omega
    rw [e]
    by_cases h2 : k < a + l.length
    · rw [if_pos ⟨by omega, h2⟩, List.getElem?_append_left (by omega)]
    · rw [if_neg (by omega), List.getElem?_append_right (by omega), List.getElem?_drop]
      congr 1; omega
def writtenL (S : DS) (l : List UInt8) : List UInt8 := if S.fuse = 0 then tornL S.keep l else l
def writeE (S : DS) (i : Int) (l : List UInt8) : Int := if hasD S i = false then 8 else if l.length ≠ 128 then 1 else if S.off then 19 else if S.fuse = 0 then 19 else 0
def writeOk (S : DS) (i : Int) (l : List UInt8) : Bool := hasD S i && (decide (l.length = 128) && !S.off)
def writeS (S : DS) (i : Int) (l : List UInt8) : DS := if writeOk S i l then ⟨putL S.all (128 * i.toNat) (writtenL S l), decide (S.fuse = 0), if S.fuse = 0 then -1 else if 0 < S.fuse then S.fuse - 1 else S.fuse, S.keep, S.wr + 1⟩ else S
def readE (S : DS) (i : Int) : Int := if hasD S i = false then 8 else if S.off then 19 else 0
def blockL (S : DS) (i : Nat) : List UInt8 := (S.all.drop (128 * i)).take 128
def readL (S : DS) (i : Int) : List UInt8 := if readE S i = 0 then blockL S i.toNat else []
def armE (n keep : Int) : Int := if n < 0 ∨ keep < 0 ∨ 128 < keep then 8 else 0
def armS (S : DS) (n keep : Int) : DS := if armE n keep = 0 then { S with fuse := n, keep := keep } else S
def powerS (S : DS) : DS := { S with off := false, fuse := -1 }
/-- What every disk keeps. -/
structure DSOk (S : DS) : Prop where
  len : S.all.length = 128 * S.len
  few : S.len ≤ 1024
  fuse0 : -1 ≤ S.fuse
  fuse1 : S.fuse ≤ 9223372036854775807
  keep0 : 0 ≤ S.keep
  keep1 : S.keep ≤ 128
  wr0 : 0 ≤ S.wr
theorem DS.new_len (n : Nat) : (DS.new n).len = n := by simp [DS.new, DS.len]
theorem DSOk.new {n : Nat} (h : n ≤ 1024) : DSOk (DS.new n) :=
  ⟨by rw [DS.new_len]; simp [DS.new], by rw [DS.new_len]; exact h, by simp [DS.new], by simp [DS.new], by simp [DS.new], by simp [DS.new], by simp [DS.new]⟩
theorem writtenL_length {S : DS} (h : DSOk S) {l : List UInt8} (hl : l.length = 128) : (writtenL S l).length = 128 := by
  unfold writtenL
  split
  · rw [tornL_length (by have := h.keep1; omega), hl]
  · exact hl
theorem hasD_iff {S : DS} {i : Int} : hasD S i = true ↔ 0 ≤ i ∧ i < (S.len : Int) := by simp [hasD]
theorem put_len {S : DS} (h : DSOk S) {i : Int} (hi : hasD S i = true) {l : List UInt8} (hl : l.length = 128) : (putL S.all (128 * i.toNat) (writtenL S l)).length = S.all.length := by
  have h1 := h.len
  have h2 := hasD_iff.1 hi
  refine putL_length ?_
  rw [writtenL_length h hl]; omega
theorem writeS_len (S : DS) (h : DSOk S) (i : Int) (l : List UInt8) : (writeS S i l).all.length = S.all.length := by
  unfold writeS
  split
  · rename_i hw
    simp only [writeOk, Bool.and_eq_true, decide_eq_true_eq] at hw
    exact put_len h hw.1 hw.2.1
  · rfl
theorem DSOk.write {S : DS} (h : DSOk S) (i : Int) (l : List UInt8) : DSOk (writeS S i l) := by
  have hl := writeS_len S h i l
  have e : (writeS S i l).len = S.len := by unfold DS.len; rw [hl]
  refine ⟨by rw [hl, e]; exact h.len, by rw [e]; exact h.few, ?_, ?_, ?_, ?_, ?_⟩ <;> unfold writeS <;> split
  all_goals first
    | exact h.fuse0 | exact h.fuse1 | exact h.keep0 | exact h.keep1 | exact h.wr0
    | (have := h.fuse0; have := h.fuse1; have := h.wr0; simp only; (repeat' split) <;> omega)
theorem armS_all (S : DS) (n keep : Int) : (armS S n keep).all = S.all := by unfold armS; split <;> rfl
theorem DSOk.arm {S : DS} (h : DSOk S) (n keep : Int) (hn : n ≤ 9223372036854775807) : DSOk (armS S n keep) := by
  have e : (armS S n keep).len = S.len := by unfold DS.len; rw [armS_all]
  refine ⟨by rw [armS_all, e]; exact h.len, by rw [e]; exact h.few, ?_, ?_, ?_, ?_, ?_⟩ <;> unfold armS <;> split
  all_goals first
    | exact h.fuse0 | exact h.fuse1 | exact h.keep0 | exact h.keep1 | exact h.wr0
    | (rename_i ha; unfold armE at ha; split at ha <;> first | (exfalso; omega) | (simp only; omega))
theorem DSOk.power {S : DS} (h : DSOk S) : DSOk (powerS S) := ⟨h.len, h.few, by simp [powerS], by simp [powerS], h.keep0, h.keep1, h.wr0⟩
theorem readL_length {S : DS} (h : DSOk S) {i : Int} (hr : readE S i = 0) : (readL S i).length = 128 := by
  unfold readL
  rw [if_pos hr]
  unfold readE at hr
  split at hr
  · cases hr
  · rename_i h1
    have h2 := hasD_iff.1 (by simpa using h1)
    have h3 := h.len
    simp only [blockL, List.length_take, List.length_drop]; omega
/-- The first so many cells of one list, and the rest of another. -/
def mixL (a b : List UInt8) (m : Nat) : List UInt8 := a.take m ++ b.drop m
theorem mixL_length {a b : List UInt8} (h : a.length = b.length) (m : Nat) : (mixL a b m).length = b.length := by
  simp only [mixL, List.length_append, List.length_take, List.length_drop]; omega
theorem mixL_get {a b : List UInt8} (h : a.length = b.length) (m k : Nat) : (mixL a b m)[k]? = if k < m then a[k]? else b[k]? := by
  unfold mixL
  by_cases hk : k < m
  · rw [if_pos hk]
    by_cases hl : k < a.length
    · rw [List.getElem?_append_left (by simp; omega), List.getElem?_take, if_pos hk]
    · rw [List.getElem?_append_right (by simp; omega), List.getElem?_drop, List.getElem?_eq_none (by simp; omega), List.getElem?_eq_none (by omega)]
  · rw [if_neg hk]
    by_cases hl : m ≤ a.length
    · rw [List.getElem?_append_right (by simp; omega), List.getElem?_drop, List.length_take]
      congr 1; omega
    · rw [List.getElem?_append_right (by simp; omega), List.getElem?_drop, List.getElem?_eq_none (by simp; omega), List.getElem?_eq_none (by omega)]
theorem mixL_set {a b : List UInt8} (h : a.length = b.length) {m : Nat} (hm : m < a.length) : (mixL a b m).set m a[m] = mixL a b (m + 1) := by
  apply List.ext_getElem?
  intro k
  rw [List.getElem?_set, mixL_get h, mixL_get h, mixL_length h]
  by_cases e : m = k
  · subst e
    rw [if_pos rfl, if_pos (by omega), if_pos (by omega)]; simp [hm]
  · rw [if_neg e]
    by_cases h1 : k < m
    · rw [if_pos h1, if_pos (by omega)]
    · rw [if_neg h1, if_neg (by omega)]
/-- Of two lists with the same cells up to a place and from another on: mixed there, they are one. -/
theorem mixL_at {a b : List UInt8} (h : a.length = b.length) {m : Nat} (he : ∀ k, k < m → a[k]? = b[k]?) : mixL a b m = b := by
  apply List.ext_getElem?
  intro k
  rw [mixL_get h]
  split
  · exact he k ‹_›
  · rfl
theorem mixL_end {a b : List UInt8} (h : a.length = b.length) {m : Nat} (he : ∀ k, m ≤ k → a[k]? = b[k]?) : mixL a b m = a := by
  apply List.ext_getElem?
  intro k
  rw [mixL_get h]
  split
  · rfl
  · exact (he k (by omega)).symm
end Go.Proofs.YtoieodlpoglmfaaDoor
