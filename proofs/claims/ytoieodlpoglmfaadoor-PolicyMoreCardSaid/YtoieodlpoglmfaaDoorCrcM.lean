/-
  Checksums in plain terms: one step of the register, bytes, messages as one number; what was turned is found.
-/
namespace Go.Proofs.YtoieodlpoglmfaaDoor

def crcPoly : Nat := 3988292384
def crcAll : Nat := 4294967295
/-- The register, shifted once. -/
def stp (x : Nat) : Nat := if x % 2 = 1 then x / 2 ^^^ crcPoly else x / 2
def stpN : Nat → Nat → Nat
  | 0, x => x
  | n + 1, x => stpN n (stp x)
theorem xor_mod2 (a b : Nat) : (a ^^^ b) % 2 = (a % 2 + b % 2) % 2 := by
  have h := Nat.testBit_xor a b 0
  rw [Nat.testBit_zero, Nat.testBit_zero, Nat.testBit_zero] at h
  rcases Nat.mod_two_eq_zero_or_one a with ha | ha <;> rcases Nat.mod_two_eq_zero_or_one b with hb | hb <;> rcases Nat.mod_two_eq_zero_or_one (a ^^^ b) with hc | hc <;> rw [ha, hb, hc] at h ⊢ <;> first | rfl | (revert h; decide)
theorem stp_xor (a b : Nat) : stp (a ^^^ b) = stp a ^^^ stp b := by
  have hm := xor_mod2 a b
  unfold stp
  rw [Nat.xor_div_two]
  rcases Nat.mod_two_eq_zero_or_one a with ha | ha <;> rcases Nat.mod_two_eq_zero_or_one b with hb | hb
  · rw [if_neg (by omega), if_neg (by omega), if_neg (by omega)]
  · rw [if_pos (by omega), if_neg (by omega), if_pos hb, Nat.xor_assoc]
  · rw [if_pos (by omega), if_pos ha, if_neg (by omega), Nat.xor_assoc, Nat.xor_assoc, Nat.xor_comm crcPoly]
  · rw [if_neg (by omega), if_pos ha, if_pos hb, Nat.xor_assoc, Nat.xor_comm (b / 2), ← Nat.xor_assoc crcPoly, Nat.xor_self, Nat.zero_xor]
theorem stpN_xor (n a b : Nat) : stpN n (a ^^^ b) = stpN n a ^^^ stpN n b := by
  induction n generalizing a b with
  | zero => rfl
  | succ n ih => rw [stpN, stp_xor, ih]; rfl
theorem stp_double (x : Nat) : stp (2 * x) = x := by unfold stp; rw [if_neg (by omega)]; omega
theorem stpN_shift (n x : Nat) : stpN n (2 ^ n * x) = x := by
  induction n generalizing x with
  | zero => simp [stpN]
  | succ n ih => rw [stpN, Nat.pow_succ, Nat.mul_comm (2 ^ n) 2, Nat.mul_assoc, stp_double, ih]
theorem stpN_add (m n x : Nat) : stpN (m + n) x = stpN n (stpN m x) := by
  induction m generalizing x with
  | zero => rw [Nat.zero_add]; rfl
  | succ m ih => rw [show m + 1 + n = (m + n) + 1 by omega, stpN, ih]; rfl
theorem stpN_zero (n : Nat) : stpN n 0 = 0 := by
  induction n with
  | zero => rfl
  | succ n ih => rw [stpN]; exact ih
theorem stp_lt {x : Nat} (h : x < 4294967296) : stp x < 4294967296 := by
  unfold stp
  split
  · exact Nat.xor_lt_two_pow (n := 32) (by omega) (by decide)
  · omega
theorem stpN_lt (n : Nat) {x : Nat} (h : x < 4294967296) : stpN n x < 4294967296 := by
  induction n generalizing x with
  | zero => exact h
  | succ n ih => exact ih (stp_lt h)
theorem stp_ne {x : Nat} (h : x < 4294967296) (h0 : x ≠ 0) : stp x ≠ 0 := by
  unfold stp
  split
  · intro he
    have h1 : (x / 2 ^^^ crcPoly).testBit 31 = true := by
      rw [Nat.testBit_xor, Nat.testBit_lt_two_pow (show x / 2 < 2 ^ 31 by omega)]
      decide
    rw [he] at h1
    simp at h1
  · omega
theorem stpN_ne (n : Nat) {x : Nat} (h : x < 4294967296) (h0 : x ≠ 0) : stpN n x ≠ 0 := by
  induction n generalizing x with
  | zero => exact h0
  | succ n ih => exact ih (stp_lt h) (stp_ne h h0)
theorem stpN_inj (n : Nat) {a b : Nat} (ha : a < 4294967296) (hb : b < 4294967296) (h : stpN n a = stpN n b) : a = b := by
  have hx : stpN n (a ^^^ b) = 0 := by rw [stpN_xor, h, Nat.xor_self]
  have hl : a ^^^ b < 4294967296 := Nat.xor_lt_two_pow (n := 32) (by omega) (by omega)
  have h0 : a ^^^ b = 0 := by
    rcases Nat.eq_zero_or_pos (a ^^^ b) with h | h
    · exact h
    · exact absurd hx (stpN_ne n hl (by omega))
  have h2 : a ^^^ b ^^^ b = b := by rw [h0, Nat.zero_xor]
  rw [Nat.xor_assoc, Nat.xor_self, Nat.xor_zero] at h2
  exact h2

/-- A byte more: eight bits, the least significant first. -/
theorem low_xor (c k : Nat) : c % 2 ^ (k + 1) = c % 2 ^ k ^^^ 2 ^ k * (c / 2 ^ k % 2) := by
  have h1 : c % 2 ^ (k + 1) = 2 ^ k * (c / 2 ^ k % 2) + c % 2 ^ k := by rw [Nat.pow_succ, Nat.mod_mul]; omega
  rw [h1, Nat.two_pow_add_eq_or_of_lt (Nat.mod_lt _ (Nat.two_pow_pos k)), Nat.xor_comm]
  apply Nat.eq_of_testBit_eq
  intro i
  rw [Nat.testBit_or, Nat.testBit_xor]
  by_cases hi : i < k
  · have : (2 ^ k * (c / 2 ^ k % 2)).testBit i = false := by rw [Nat.testBit_two_pow_mul]; simp; omega
    rw [this]; simp
  · have : (c % 2 ^ k).testBit i = false := Nat.testBit_lt_two_pow (Nat.lt_of_lt_of_le (Nat.mod_lt _ (Nat.two_pow_pos k)) (Nat.pow_le_pow_right (by decide) (by omega)))
    rw [this]; simp
theorem bit_step (r c k : Nat) : stpN (k + 1) (r ^^^ c % 2 ^ (k + 1)) = stp (stpN k (r ^^^ c % 2 ^ k) ^^^ c / 2 ^ k % 2) := by
  have h : stpN (k + 1) (r ^^^ c % 2 ^ (k + 1)) = stp (stpN k (r ^^^ c % 2 ^ (k + 1))) := by rw [stpN_add]; rfl
  rw [h, low_xor, ← Nat.xor_assoc, stpN_xor k (r ^^^ c % 2 ^ k), stpN_shift]
/-- As the document steps: is one of the two lowest bits set, but not both? -/
theorem step_odd (r c : Nat) : (if ((r % 2 == 1) != (c % 2 == 1)) = true then r / 2 ^^^ crcPoly else r / 2) = stp (r ^^^ c % 2) := by
  have hm : (r ^^^ c % 2) % 2 = (r % 2 + c % 2) % 2 := by
    have h := xor_mod2 r (c % 2)
    omega
  have hd : (r ^^^ c % 2) / 2 = r / 2 := by rw [Nat.xor_div_two, show c % 2 / 2 = 0 by omega, Nat.xor_zero]
  unfold stp
  rw [hd, hm]
  rcases Nat.mod_two_eq_zero_or_one r with ha | ha <;> rcases Nat.mod_two_eq_zero_or_one c with hb | hb <;> simp [ha, hb]

def crcByte (r c : Nat) : Nat := stpN 8 (r ^^^ c)
def crcReg (r : Nat) (l : List UInt8) : Nat := l.foldl (fun r c => crcByte r c.toNat) r
theorem crcReg_append (r : Nat) (l m : List UInt8) : crcReg r (l ++ m) = crcReg (crcReg r l) m := by simp [crcReg]
theorem crcByte_lt {r c : Nat} (h : r < 4294967296) (hc : c < 256) : crcByte r c < 4294967296 := stpN_lt 8 (Nat.xor_lt_two_pow (n := 32) (by omega) (by omega))
theorem crcReg_lt {r : Nat} (h : r < 4294967296) (l : List UInt8) : crcReg r l < 4294967296 := by
  induction l generalizing r with
  | nil => exact h
  | cons c l ih => exact ih (crcByte_lt h c.toNat_lt)
/-- By a table of the 256 bytes. -/
theorem crc_table (x : Nat) : stpN 8 x = stpN 8 (x % 256) ^^^ x / 256 := by
  have h : x = x % 2 ^ 8 ^^^ 2 ^ 8 * (x / 2 ^ 8) := by
    have h1 : x = 2 ^ 8 * (x / 2 ^ 8) + x % 2 ^ 8 := by omega
    apply Nat.eq_of_testBit_eq
    intro i
    conv => lhs; rw [h1, Nat.two_pow_add_eq_or_of_lt (Nat.mod_lt _ (by decide))]
    rw [Nat.testBit_or, Nat.testBit_xor]
    by_cases hi : i < 8
    · have : (2 ^ 8 * (x / 2 ^ 8)).testBit i = false := by rw [Nat.testBit_two_pow_mul]; simp; omega
      rw [this]; simp
    · have : (x % 2 ^ 8).testBit i = false := Nat.testBit_lt_two_pow (Nat.lt_of_lt_of_le (Nat.mod_lt _ (by decide)) (Nat.pow_le_pow_right (by decide) (by omega)))
      rw [this]; simp
  conv => lhs; rw [h, stpN_xor, stpN_shift]

/-- A message as one number, its first byte the least significant. -/
def leN : List UInt8 → Nat
  | [] => 0
  | c :: l => c.toNat + 256 * leN l
theorem leN_lt (l : List UInt8) : leN l < 2 ^ (8 * l.length) := by
  induction l with
  | nil => decide
  | cons c l ih =>
    have h := c.toNat_lt
    have e : 2 ^ (8 * (c :: l).length) = 256 * 2 ^ (8 * l.length) := by rw [List.length_cons, Nat.mul_add, Nat.pow_add, Nat.mul_comm]
    rw [e, leN]
    omega
theorem leN_inj : ∀ {l m : List UInt8}, l.length = m.length → leN l = leN m → l = m
  | [], [], _, _ => rfl
  | [], _ :: _, h, _ => by simp at h
  | _ :: _, [], h, _ => by simp at h
  | c :: l, d :: m, h, e => by
    have hc := c.toNat_lt
    have hd := d.toNat_lt
    simp only [leN] at e
    have h1 : c.toNat = d.toNat := by omega
    have h2 : leN l = leN m := by omega
    rw [UInt8.toNat_inj.1 h1, leN_inj (by simpa using h) h2]
theorem leN_append (l m : List UInt8) : leN (l ++ m) = leN l + 2 ^ (8 * l.length) * leN m := by
  induction l with
  | nil => simp [leN]
  | cons c l ih =>
    have e : 2 ^ (8 * (c :: l).length) = 256 * 2 ^ (8 * l.length) := by rw [List.length_cons, Nat.mul_add, Nat.pow_add, Nat.mul_comm]
    rw [List.cons_append, leN, leN, ih, e, Nat.mul_assoc, Nat.mul_add]
    omega
theorem crcReg_eq (r : Nat) (l : List UInt8) : crcReg r l = stpN (8 * l.length) (r ^^^ leN l) := by
  induction l generalizing r with
  | nil => simp [crcReg, leN, stpN]
  | cons c l ih =>
    show crcReg (crcByte r c.toNat) l = _
    have h : leN (c :: l) = c.toNat ^^^ 2 ^ 8 * leN l := by
      rw [leN]
      have h1 : c.toNat + 256 * leN l = 2 ^ 8 * leN l + c.toNat := by omega
      apply Nat.eq_of_testBit_eq
      intro i
      rw [h1, Nat.two_pow_add_eq_or_of_lt (by have := c.toNat_lt; omega), Nat.testBit_or, Nat.testBit_xor]
      by_cases hi : i < 8
      · have : (2 ^ 8 * leN l).testBit i = false := by rw [Nat.testBit_two_pow_mul]; simp; omega
        rw [this]; simp
      · have : c.toNat.testBit i = false := Nat.testBit_lt_two_pow (Nat.lt_of_lt_of_le c.toNat_lt (Nat.pow_le_pow_right (by decide) (by omega)))
        rw [this]; simp
    rw [ih, List.length_cons, Nat.mul_add, Nat.add_comm, stpN_add, h, ← Nat.xor_assoc, stpN_xor 8 (r ^^^ c.toNat), stpN_shift]
    rfl

/-- The checksum, and a number's four bytes. -/
def crcSum (l : List UInt8) : Nat := crcReg crcAll l ^^^ crcAll
def le4 (n : Nat) : List UInt8 := [UInt8.ofNat n, UInt8.ofNat (n / 256), UInt8.ofNat (n / 65536), UInt8.ofNat (n / 16777216)]
theorem leN_le4 {n : Nat} (h : n < 4294967296) : leN (le4 n) = n := by simp [leN, le4]; omega
theorem crcSum_lt (l : List UInt8) : crcSum l < 4294967296 := Nat.xor_lt_two_pow (n := 32) (crcReg_lt (by decide) l) (by decide)
theorem flip_all {r : Nat} (h : r < 4294967296) : 4294967295 - r = r ^^^ crcAll := by
  have h1 := Nat.testBit_two_pow_sub_succ (n := 32) (x := r) h
  apply Nat.eq_of_testBit_eq
  intro i
  have e : 4294967295 - r = 2 ^ 32 - (r + 1) := by omega
  rw [e, h1, Nat.testBit_xor]
  have e2 : crcAll.testBit i = decide (i < 32) := by
    have := Nat.testBit_two_pow_sub_one 32 i
    exact this
  rw [e2]
  by_cases hi : i < 32
  · simp [hi]
  · have : r.testBit i = false := Nat.testBit_lt_two_pow (Nat.lt_of_lt_of_le h (by
      have := Nat.pow_le_pow_right (n := 2) (by decide) (show 32 ≤ i by omega)
      simpa using this))
    simp [hi, this]
def sealL (l : List UInt8) : List UInt8 := l ++ le4 (crcSum l)
/-- Are they sealed bytes? -/
def sealedB (t : List UInt8) : Bool := decide (4 ≤ t.length) && (t.drop (t.length - 4) == le4 (crcSum (t.take (t.length - 4))))
theorem sealed_iff {t : List UInt8} (h : 4 ≤ t.length) : sealedB t = true ↔ crcReg crcAll t = stpN 32 crcAll := by
  have ht : t = t.take (t.length - 4) ++ t.drop (t.length - 4) := (List.take_append_drop _ _).symm
  have hl : (t.drop (t.length - 4)).length = 4 := by rw [List.length_drop]; omega
  have hR : crcReg crcAll (t.take (t.length - 4)) < 4294967296 := crcReg_lt (by decide) _
  have hX : leN (t.drop (t.length - 4)) < 4294967296 := by have := leN_lt (t.drop (t.length - 4)); rw [hl] at this; simpa using this
  have h1 : crcReg crcAll t = stpN 32 (crcReg crcAll (t.take (t.length - 4)) ^^^ leN (t.drop (t.length - 4))) := by
    conv => lhs; rw [ht]
    rw [crcReg_append, crcReg_eq _ (t.drop _), hl]
  rw [h1]
  unfold sealedB
  rw [Bool.and_eq_true, decide_eq_true_eq, beq_iff_eq]
  generalize t.drop (t.length - 4) = X at *
  generalize hb : t.take (t.length - 4) = b at *
  constructor
  · rintro ⟨-, hx⟩
    have hx2 : leN X = crcSum b := by rw [hx, leN_le4 (crcSum_lt b)]
    rw [hx2]
    unfold crcSum
    rw [← Nat.xor_assoc, Nat.xor_self, Nat.zero_xor]
  · intro hx
    refine ⟨h, leN_inj (by rw [hl]; rfl) ?_⟩
    have h2 := stpN_inj 32 (Nat.xor_lt_two_pow (n := 32) hR hX) (by decide) hx
    rw [leN_le4 (crcSum_lt b)]
    show leN X = crcReg crcAll b ^^^ crcAll
    generalize crcReg crcAll b = R at *
    rw [← h2, ← Nat.xor_assoc, Nat.xor_self, Nat.zero_xor]
theorem sealed_seal (l : List UInt8) : sealedB (sealL l) = true := by
  have h4 : (le4 (crcSum l)).length = 4 := rfl
  unfold sealedB sealL
  rw [List.length_append, h4, Nat.add_sub_cancel, List.take_left, List.drop_left]
  simp

/-- Bits turned, all of them within 32 positions: found. -/
theorem turned_found {s t : List UInt8} (hl : t.length = s.length) (h4 : 4 ≤ s.length) (hs : sealedB s = true) {a M : Nat} (hM : M < 4294967296) (he : leN t = leN s ^^^ 2 ^ a * M) (ha : 2 ^ a * M < 2 ^ (8 * s.length)) : sealedB t = true ↔ t = s := by
  constructor
  · intro ht
    have h1 := (sealed_iff h4).1 hs
    have h2 := (sealed_iff (by rw [hl]; exact h4)).1 ht
    rw [crcReg_eq] at h1 h2
    rw [hl, he, ← Nat.xor_assoc, stpN_xor, h1] at h2
    have h3 : stpN (8 * s.length) (2 ^ a * M) = 0 := by
      have h5 : stpN 32 crcAll ^^^ (stpN 32 crcAll ^^^ stpN (8 * s.length) (2 ^ a * M)) = stpN 32 crcAll ^^^ stpN 32 crcAll := by rw [h2]
      rw [← Nat.xor_assoc, Nat.xor_self, Nat.zero_xor] at h5
      exact h5
    have hM0 : M = 0 := by
      rcases Nat.eq_zero_or_pos M with h | h
      · exact h
      · have hlt : a < 8 * s.length := by
          rcases Nat.lt_or_ge a (8 * s.length) with h6 | h6
          · exact h6
          · have := Nat.pow_le_pow_right (n := 2) (by decide) h6
            have h7 : 2 ^ a * 1 ≤ 2 ^ a * M := Nat.mul_le_mul_left _ h
            omega
        rw [show 8 * s.length = a + (8 * s.length - a) by omega, stpN_add, stpN_shift] at h3
        exact absurd h3 (stpN_ne _ hM (by omega))
    subst hM0
    exact leN_inj hl (by rw [he]; simp)
  · intro h
    rw [h]; exact hs

/-! Bits turned in a list of bytes. -/
theorem low_high (c R : Nat) (h : c < 256) : c + 256 * R = c ^^^ 256 * R := by
  have h1 : c + 256 * R = 2 ^ 8 * R + c := by omega
  rw [h1, Nat.two_pow_add_eq_or_of_lt (by omega)]
  apply Nat.eq_of_testBit_eq
  intro i
  rw [Nat.testBit_or, Nat.testBit_xor]
  by_cases hi : i < 8
  · have e : (256 * R).testBit i = false := by rw [show 256 * R = 2 ^ 8 * R from rfl, Nat.testBit_two_pow_mul]; simp; omega
    rw [show 2 ^ 8 * R = 256 * R from rfl, e]; simp
  · have e : c.testBit i = false := Nat.testBit_lt_two_pow (Nat.lt_of_lt_of_le h (show 2 ^ 8 ≤ 2 ^ i from Nat.pow_le_pow_right (by decide) (by omega)))
    rw [show 2 ^ 8 * R = 256 * R from rfl, e]; simp
theorem mul_xor8 (x y : Nat) : 256 * (x ^^^ y) = 256 * x ^^^ 256 * y := by
  apply Nat.eq_of_testBit_eq
  intro i
  rw [Nat.testBit_xor, show 256 * (x ^^^ y) = 2 ^ 8 * (x ^^^ y) from rfl, show 256 * x = 2 ^ 8 * x from rfl, show 256 * y = 2 ^ 8 * y from rfl, Nat.testBit_two_pow_mul, Nat.testBit_two_pow_mul, Nat.testBit_two_pow_mul, Nat.testBit_xor]
  by_cases h : 8 ≤ i <;> simp [h]
theorem leN_set : ∀ (l : List UInt8) (q p : Nat) (hq : q < l.length), p < 8 → leN (l.set q (UInt8.ofNat (l[q].toNat ^^^ 2 ^ p))) = leN l ^^^ 2 ^ (8 * q + p)
  | [], q, _, hq, _ => by simp at hq
  | c :: l, 0, p, _, hp => by
    have hc := c.toNat_lt
    have h2 : (2 : Nat) ^ p < 256 := Nat.pow_lt_pow_right (by decide) hp
    have h3 : c.toNat ^^^ 2 ^ p < 256 := Nat.xor_lt_two_pow (n := 8) hc h2
    show (UInt8.ofNat (c.toNat ^^^ 2 ^ p)).toNat + 256 * leN l = (c.toNat + 256 * leN l) ^^^ 2 ^ (8 * 0 + p)
    have h4 : (UInt8.ofNat (c.toNat ^^^ 2 ^ p)).toNat = c.toNat ^^^ 2 ^ p := by rw [UInt8.toNat_ofNat']; exact Nat.mod_eq_of_lt h3
    rw [h4, low_high _ _ h3, low_high _ _ hc, Nat.mul_zero, Nat.zero_add, Nat.xor_assoc, Nat.xor_assoc, Nat.xor_comm (2 ^ p)]
  | c :: l, q + 1, p, hq, hp => by
    have hc := c.toNat_lt
    have hq' : q < l.length := by simpa using hq
    have ih := leN_set l q p hq' hp
    show c.toNat + 256 * leN (l.set q (UInt8.ofNat (l[q].toNat ^^^ 2 ^ p))) = (c.toNat + 256 * leN l) ^^^ 2 ^ (8 * (q + 1) + p)
    have e : 2 ^ (8 * (q + 1) + p) = 256 * 2 ^ (8 * q + p) := by rw [show 8 * (q + 1) + p = 8 + (8 * q + p) by omega, Nat.pow_add]
    rw [ih, low_high _ _ hc, low_high _ _ hc, mul_xor8, e, Nat.xor_assoc]
/-- Is bit j of a mask turned, from a bit on, in so many bits? -/
def turnB (n : Nat) (a : Int) (mask j : Nat) : Bool := decide (0 ≤ a + j) && (decide (a + j < n) && (mask / 2 ^ j % 2 == 1))
/-- What j rounds turn, as a number. -/
def turnE (n : Nat) (a : Int) (mask : Nat) : Nat → Nat
  | 0 => 0
  | j + 1 => turnE n a mask j ^^^ (if turnB n a mask j then 2 ^ (a + j).toNat else 0)
theorem turnE_lt (n : Nat) (a : Int) (mask j : Nat) : turnE n a mask j < 2 ^ n := by
  induction j with
  | zero => exact Nat.two_pow_pos n
  | succ j ih =>
    rw [turnE]
    refine Nat.xor_lt_two_pow ih ?_
    split
    · rename_i h
      simp only [turnB, Bool.and_eq_true, decide_eq_true_eq] at h
      exact Nat.pow_lt_pow_right (by decide) (by omega)
    · exact Nat.two_pow_pos n
theorem turnE_form (n : Nat) (a : Int) (mask j : Nat) : ∃ M, M < 2 ^ j ∧ turnE n a mask j = 2 ^ a.toNat * M := by
  induction j with
  | zero => exact ⟨0, by simp, by simp [turnE]⟩
  | succ j ih =>
    obtain ⟨M, h1, h2⟩ := ih
    have h3 : M < 2 ^ (j + 1) := Nat.lt_of_lt_of_le h1 (Nat.pow_le_pow_right (by decide) (by omega))
    rw [turnE, h2]
    by_cases hB : turnB n a mask j = true
    · rw [if_pos hB]
      simp only [turnB, Bool.and_eq_true, decide_eq_true_eq] at hB
      by_cases ha : 0 ≤ a
      · refine ⟨M ^^^ 2 ^ j, Nat.xor_lt_two_pow h3 (Nat.pow_lt_pow_right (by decide) (by omega)), ?_⟩
        have e : (a + j).toNat = a.toNat + j := by omega
        rw [e, Nat.pow_add]
        apply Nat.eq_of_testBit_eq
        intro i
        rw [Nat.testBit_xor, Nat.testBit_two_pow_mul, Nat.testBit_two_pow_mul, Nat.testBit_two_pow_mul, Nat.testBit_xor]
        by_cases h : a.toNat ≤ i <;> simp [h]
      · have e : a.toNat = 0 := by omega
        rw [e]
        refine ⟨M ^^^ 2 ^ (a + j).toNat, Nat.xor_lt_two_pow h3 (Nat.pow_lt_pow_right (by decide) (by omega)), by simp⟩
    · rw [if_neg hB]
      exact ⟨M, h3, by simp⟩
/-- Bytes whose number is another's with these bits turned are sealed only if they are the same. -/
theorem crc_turned {s t : List UInt8} (hl : t.length = s.length) (h4 : 4 ≤ s.length) (hs : sealedB s = true) (a : Int) (mask : Nat) (he : leN t = leN s ^^^ turnE (8 * s.length) a mask 32) : sealedB t = true ↔ t = s := by
  obtain ⟨M, h1, h2⟩ := turnE_form (8 * s.length) a mask 32
  have h3 := turnE_lt (8 * s.length) a mask 32
  rw [h2] at he h3
  exact turned_found hl h4 hs (by simpa using h1) he h3
end Go.Proofs.YtoieodlpoglmfaaDoor
