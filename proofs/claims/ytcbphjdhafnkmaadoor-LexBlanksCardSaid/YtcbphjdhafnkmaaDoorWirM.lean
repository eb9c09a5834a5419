/-
  Numbers and strings as bytes: what is written, what is read, in plain terms.
-/
namespace Go.Proofs.YtcbphjdhafnkmaaDoor

/-- A number's digits to the base 256, the most significant first. -/
def be : Nat → Nat → List UInt8
  | _, 0 => []
  | n, k + 1 => be (n / 256) k ++ [UInt8.ofNat n]
def valB (l : List UInt8) : Nat := l.foldl (fun a c => 256 * a + c.toNat) 0
theorem be_length (n k : Nat) : (be n k).length = k := by
  induction k generalizing n with
  | zero => rfl
  | succ k ih => simp [be, ih]
theorem valB_snoc (l : List UInt8) (c : UInt8) : valB (l ++ [c]) = 256 * valB l + c.toNat := by simp [valB]
theorem valB_be (n k : Nat) (h : n < 256 ^ k) : valB (be n k) = n := by
  induction k generalizing n with
  | zero => simp at h; subst h; rfl
  | succ k ih =>
    rw [be, valB_snoc, ih (n / 256) (by rw [Nat.pow_succ] at h; omega)]
    simp; omega
theorem foldl_lt (l : List UInt8) (a : Nat) : l.foldl (fun a c => 256 * a + c.toNat) a < (a + 1) * 256 ^ l.length := by
  induction l generalizing a with
  | nil => simp
  | cons c l ih =>
    rw [List.foldl_cons, List.length_cons, Nat.pow_succ]
    refine Nat.lt_of_lt_of_le (ih _) ?_
    have := c.toNat_lt
    have h : 256 * a + c.toNat + 1 ≤ 256 * (a + 1) := by omega
    calc (256 * a + c.toNat + 1) * 256 ^ l.length ≤ 256 * (a + 1) * 256 ^ l.length := Nat.mul_le_mul_right _ h
      _ = (a + 1) * (256 ^ l.length * 256) := by rw [Nat.mul_comm 256 (a + 1), Nat.mul_assoc, Nat.mul_comm 256]
theorem valB_lt (l : List UInt8) : valB l < 256 ^ l.length := by have := foldl_lt l 0; simpa [valB] using this
theorem valB_small (l : List UInt8) (h : l.length ≤ 4) : valB l < 4294967296 := Nat.lt_of_lt_of_le (valB_lt l) (by
  have : 256 ^ l.length ≤ 256 ^ 4 := Nat.pow_le_pow_right (by decide) h
  simpa using this)
theorem valB_take_succ (l : List UInt8) (k : Nat) (h : k < l.length) : valB (l.take (k + 1)) = 256 * valB (l.take k) + l[k].toNat := by
  rw [List.take_succ_eq_append_getElem h, valB_snoc]

/-- What is known of a Writer or a Reader: bytes, and the first error. -/
abbrev WSt := List UInt8 × Int
def sizedB (size : Int) : Bool := decide (1 ≤ size) && decide (size ≤ 4)
def okN (n size : Int) : Bool := sizedB size && (decide (0 ≤ n) && decide (n < 256 ^ size.toNat))
def failS (s : WSt) (e : Int) : WSt := if s.2 = 0 ∧ e ≠ 0 then ([], e) else s
def addS (s : WSt) (l : List UInt8) : WSt := if s.2 = 0 then (s.1 ++ l, s.2) else s
def takeS (s : WSt) (n : Nat) : WSt := if s.1.length < n then failS s 4 else (s.1.drop n, s.2)
def tookS (s : WSt) (n : Nat) : List UInt8 := if s.1.length < n then [] else s.1.take n
def wNum (s : WSt) (n size : Int) : WSt := if okN n size then addS s (be n.toNat size.toNat) else failS s 8
def wText (s : WSt) (t : List UInt8) : WSt := if 255 < t.length then failS s 5 else addS s (UInt8.ofNat t.length :: t)
/-- The document's: behind an error it goes on writing. -/
def failR (s : WSt) (e : Int) : WSt := if s.2 = 0 then (s.1, e) else s
def rNum (s : WSt) (n size : Int) : WSt := if okN n size then (s.1 ++ be n.toNat size.toNat, s.2) else failR s 8
def rText (s : WSt) (t : List UInt8) : WSt := if 255 < t.length then failR s 5 else (s.1 ++ (UInt8.ofNat t.length :: t), s.2)
/-- Behind an error no bytes. -/
def Fit (s : WSt) : Prop := s.2 ≠ 0 → s.1 = []
/-- The two tell the same. -/
def Same (s r : WSt) : Prop := s.2 = r.2 ∧ (s.2 = 0 → s.1 = r.1) ∧ Fit s
theorem Same.refl : Same ([], 0) ([], 0) := ⟨rfl, fun _ => rfl, fun h => absurd rfl h⟩
theorem Same.add {s r : WSt} (h : Same s r) (l : List UInt8) : Same (addS s l) (r.1 ++ l, r.2) := by
  obtain ⟨h1, h2, h3⟩ := h
  by_cases e : s.2 = 0
  · have e' : addS s l = (s.1 ++ l, s.2) := by unfold addS; rw [if_pos e]
    rw [e']
    exact ⟨h1, fun _ => by show s.1 ++ l = r.1 ++ l; rw [h2 e], fun h => absurd e h⟩
  · have e' : addS s l = s := by unfold addS; rw [if_neg e]
    rw [e']
    exact ⟨h1, fun h => absurd h e, h3⟩
theorem Same.fail {s r : WSt} (h : Same s r) {e : Int} (he : e ≠ 0) : Same (failS s e) (failR r e) := by
  obtain ⟨h1, h2, h3⟩ := h
  by_cases e0 : s.2 = 0
  · have e1 : failS s e = ([], e) := by unfold failS; rw [if_pos ⟨e0, he⟩]
    have e2 : failR r e = (r.1, e) := by unfold failR; rw [if_pos (h1 ▸ e0)]
    rw [e1, e2]
    exact ⟨rfl, fun h => absurd h he, fun _ => rfl⟩
  · have e1 : failS s e = s := by unfold failS; rw [if_neg (fun h => e0 h.1)]
    have e2 : failR r e = r := by unfold failR; rw [if_neg (h1 ▸ e0)]
    rw [e1, e2]
    exact ⟨h1, h2, h3⟩
theorem Same.num {s r : WSt} (h : Same s r) (n size : Int) : Same (wNum s n size) (rNum r n size) := by
  unfold wNum rNum
  split
  · exact h.add _
  · exact h.fail (by decide)
theorem Same.text {s r : WSt} (h : Same s r) (t : List UInt8) : Same (wText s t) (rText r t) := by
  unfold wText rText
  split
  · exact h.fail (by decide)
  · exact h.add _
theorem fit_fail {s : WSt} (h : Fit s) (e : Int) : Fit (failS s e) := by
  unfold failS; split
  · intro _; rfl
  · exact h
theorem fit_add {s : WSt} (h : Fit s) (l : List UInt8) : Fit (addS s l) := by
  unfold addS; split
  · rename_i e; intro h'; exact absurd e h'
  · exact h
theorem fit_take {s : WSt} (h : Fit s) (n : Nat) : Fit (takeS s n) := by
  unfold takeS; split
  · exact fit_fail h _
  · intro h'; have := h h'; simp [this]
theorem add_le (s : WSt) (l : List UInt8) : (addS s l).1.length ≤ s.1.length + l.length := by
  unfold addS; split <;> simp
theorem fail_le (s : WSt) (e : Int) : (failS s e).1.length ≤ s.1.length := by
  unfold failS; split <;> simp
theorem failR_le (s : WSt) (e : Int) : (failR s e).1.length ≤ s.1.length := by
  unfold failR; split <;> simp
theorem okN_iff {n size : Int} : okN n size = true ↔ 1 ≤ size ∧ size ≤ 4 ∧ 0 ≤ n ∧ n < 256 ^ size.toNat := by simp [okN, sizedB, and_assoc]
theorem wNum_le (s : WSt) (n size : Int) : (wNum s n size).1.length ≤ s.1.length + 256 := by
  unfold wNum; split
  · rename_i h; have := (okN_iff.1 h); have := add_le s (be n.toNat size.toNat); rw [be_length] at this; omega
  · have := fail_le s 8; omega
theorem rNum_le (s : WSt) (n size : Int) : (rNum s n size).1.length ≤ s.1.length + 256 := by
  unfold rNum; split
  · rename_i h; have := (okN_iff.1 h); simp [be_length]; omega
  · have := failR_le s 8; omega
theorem wText_le (s : WSt) (t : List UInt8) : (wText s t).1.length ≤ s.1.length + 256 := by
  unfold wText; split
  · have := fail_le s 5; omega
  · have := add_le s (UInt8.ofNat t.length :: t); simp at this; omega
theorem rText_le (s : WSt) (t : List UInt8) : (rText s t).1.length ≤ s.1.length + 256 := by
  unfold rText; split
  · have := failR_le s 5; omega
  · simp; omega

/-- Reading. -/
def dNum (s : WSt) (size most : Int) : Int × WSt :=
  if sizedB size then
    if (most < (valB (tookS s size.toNat) : Int)) then (0, failS (takeS s size.toNat) 8) else (valB (tookS s size.toNat), takeS s size.toNat)
  else (0, failS s 8)
def dText (s : WSt) (most : Int) : List UInt8 × WSt :=
  if most < (dNum s 1 255).1 then ([], failS (dNum s 1 255).2 5) else (tookS (dNum s 1 255).2 (dNum s 1 255).1.toNat, takeS (dNum s 1 255).2 (dNum s 1 255).1.toNat)
theorem fit_dNum {s : WSt} (h : Fit s) (size most : Int) : Fit (dNum s size most).2 := by
  unfold dNum; split
  · split
    · exact fit_fail (fit_take h _) _
    · exact fit_take h _
  · exact fit_fail h _
theorem fit_dText {s : WSt} (h : Fit s) (most : Int) : Fit (dText s most).2 := by
  unfold dText; split
  · exact fit_fail (fit_dNum h _ _) _
  · exact fit_take (fit_dNum h _ _) _
theorem tookS_length (s : WSt) (n : Nat) : (tookS s n).length = if s.1.length < n then 0 else n := by
  unfold tookS; split
  · rfl
  · rw [List.length_take]; omega
theorem tookS_le (s : WSt) (n : Nat) : (tookS s n).length ≤ n := by rw [tookS_length]; split <;> omega
theorem be_cons (n k : Nat) : be n (k + 1) = UInt8.ofNat (n / 256 ^ k) :: be n k := by
  induction k generalizing n with
  | zero => simp [be]
  | succ k ih =>
    rw [be, ih (n / 256), be, List.cons_append, Nat.div_div_eq_div_mul, Nat.pow_succ, Nat.mul_comm 256]
theorem okN_div {n : Nat} {k : Nat} (h1 : 1 ≤ k) (h4 : k ≤ 4) : okN n k = (n / 256 ^ k == 0) := by
  have h2 : sizedB (k : Int) = true := by unfold sizedB; simp; omega
  have h3 : ((256 ^ k : Nat) : Int) = (256 : Int) ^ k := by simp
  have h5 : 0 < 256 ^ k := Nat.pow_pos (by decide)
  unfold okN
  rw [h2, Bool.eq_iff_iff]
  simp only [Int.toNat_natCast, Bool.true_and, Bool.and_eq_true, decide_eq_true_eq, beq_iff_eq, ← h3]
  rw [Nat.div_eq_zero_iff]
  omega
end Go.Proofs.YtcbphjdhafnkmaaDoor
