/-
  Differences between policies in plain terms: lines, their texts, what a line does, the differences; by them the first policy becomes the second one.
-/
import Derived.Test.YtmaachmidgfhdaaGreatDoorW2
import Derived.Test.YtmaachmidgfhdaaGreatDoorW3
import Derived.Test.YtmaachmidgfhdaaGreatDoorW1
/-! DifM -/
namespace Go.Proofs.YtmaachmidgfhdaaGreatDoor

/-- A line: its kind, its numbers, its label. -/
structure Ln where
  k : Nat
  n : Nat
  m : Nat
  s : Nat
  i : Nat
structure LnOk (x : Ln) : Prop where
  k : x.k < 8
  n : x.n < 16
  m : x.m < 16
  s : x.s < 65536
  i : x.i < 65536
  one : x.k < 4 ∨ x.k = 7 → x.m = 0
  lab : x.k ≠ 3 → x.s = 0 ∧ x.i = 0
def wordD (k : Nat) : List UInt8 :=
  if k = 0 then [100, 101, 97, 100, 32] else if k = 1 then [117, 115, 101, 100, 32] else if k = 2 then [103, 111, 110, 101, 32] else if k = 3 then [114, 111, 108, 101, 32]
  else if k = 4 then [117, 110, 108, 105, 110, 107, 32] else if k = 5 then [108, 105, 110, 107, 32] else if k = 6 then [111, 119, 110, 32] else [102, 114, 101, 101, 32]
def restD (x : Ln) : List UInt8 := if x.k = 3 then 32 :: textL x.s x.i else if x.k < 4 ∨ x.k = 7 then [] else 32 :: dig x.m
def lineT (x : Ln) : List UInt8 := wordD x.k ++ (dig x.n ++ restD x)
theorem word_two : ∀ k k' : Fin 8, (wordD k.val).take 2 = (wordD k'.val).take 2 → k = k' := by decide
theorem word_len : ∀ k : Fin 8, 2 ≤ (wordD k.val).length ∧ (wordD k.val).length ≤ 7 := by decide
theorem dig_blank : ∀ t : Fin 16, (32 : UInt8) ∉ dig t.val := by decide +kernel
theorem word_eq {k k' : Nat} (hk : k < 8) (hk' : k' < 8) {a b : List UInt8} (h : wordD k ++ a = wordD k' ++ b) : k = k' := by
  have h1 := congrArg (List.take 2) h
  rw [List.take_append_of_le_length (word_len ⟨k, hk⟩).1, List.take_append_of_le_length (word_len ⟨k', hk'⟩).1] at h1
  exact congrArg Fin.val (word_two ⟨k, hk⟩ ⟨k', hk'⟩ h1)
theorem lineT_inj {x y : Ln} (hx : LnOk x) (hy : LnOk y) (h : lineT x = lineT y) : x = y := by
  have hk := word_eq hx.k hy.k h
  unfold lineT at h
  rw [hk] at h
  have h1 := List.append_cancel_left h
  have e1 := dig_blank ⟨x.n, hx.n⟩
  have e2 := dig_blank ⟨y.n, hy.n⟩
  obtain ⟨xk, xn, xm, xs, xi⟩ := x
  obtain ⟨yk, yn, ym, ys, yi⟩ := y
  simp only at hk h1 e1 e2
  subst hk
  unfold restD at h1
  simp only at h1
  by_cases h3 : xk = 3
  · rw [if_pos h3, if_pos h3] at h1
    obtain ⟨d1, d2⟩ := cut_unique 32 e1 e2 h1
    obtain rfl := dig_inj hx.n hy.n d1
    obtain ⟨rfl, rfl⟩ := textL_inj hx.s hx.i hy.s hy.i d2
    have q1 : xm = 0 := hx.one (.inl (by show xk < 4; omega))
    have q2 : ym = 0 := hy.one (.inl (by show xk < 4; omega))
    rw [q1, q2]
  · rw [if_neg h3, if_neg h3] at h1
    obtain ⟨a1, a2⟩ := hx.lab h3
    obtain ⟨b1, b2⟩ := hy.lab h3
    simp only at a1 a2 b1 b2
    subst a1; subst a2; subst b1; subst b2
    by_cases h4 : xk < 4 ∨ xk = 7
    · rw [if_pos h4, if_pos h4, List.append_nil, List.append_nil] at h1
      obtain rfl := dig_inj hx.n hy.n h1
      have q1 : xm = 0 := hx.one h4
      have q2 : ym = 0 := hy.one h4
      rw [q1, q2]
    · rw [if_neg h4, if_neg h4] at h1
      obtain ⟨d1, d2⟩ := cut_unique 32 e1 e2 h1
      obtain rfl := dig_inj hx.n hy.n d1
      obtain rfl := dig_inj hx.m hy.m d2
      rfl
theorem lineT_len {x : Ln} (h : LnOk x) : 5 ≤ (lineT x).length ∧ (lineT x).length ≤ 107 := by
  have h1 := word_len ⟨x.k, h.k⟩
  have h2 := dig_len ⟨x.n, h.n⟩
  have h3 := dig_len ⟨x.m, h.m⟩
  have h4 := textN_len x.s
  have h5 := textN_len x.i
  have h6 : 4 ≤ (wordD x.k).length := by
    have : ∀ k : Fin 8, 4 ≤ (wordD k.val).length := by decide
    exact this ⟨x.k, h.k⟩
  simp only at h1 h2 h3
  have h7 : (restD x).length ≤ 98 := by
    unfold restD textL
    split
    · simp; omega
    · split
      · simp
      · simp; omega
  unfold lineT
  rw [List.length_append, List.length_append]
  omega
/-- What a line says, if it is one. -/
noncomputable def lineOf (l : List UInt8) : Option Ln := @dite _ (∃ x, LnOk x ∧ lineT x = l) (Classical.propDecidable _) (fun h => some (Classical.choose h)) (fun _ => none)
theorem lineOf_is {x : Ln} (h : LnOk x) : lineOf (lineT x) = some x := by
  have hx : ∃ y, LnOk y ∧ lineT y = lineT x := ⟨x, h, rfl⟩
  unfold lineOf
  rw [dif_pos hx]
  have h2 := Classical.choose_spec hx
  rw [lineT_inj h2.1 h h2.2]
theorem lineOf_some {l : List UInt8} {x : Ln} (h : lineOf l = some x) : LnOk x ∧ lineT x = l := by
  unfold lineOf at h
  split at h
  · rename_i hx
    rw [← Option.some.inj h]
    exact Classical.choose_spec hx
  · cases h
theorem lineOf_none {l : List UInt8} (h : ∀ x, LnOk x → lineT x ≠ l) : lineOf l = none := by
  cases e : lineOf l with
  | none => rfl
  | some x => obtain ⟨h1, h2⟩ := lineOf_some e; exact absurd h2 (h x h1)
/-- What a line does. -/
def doD (p : Pol) (x : Ln) : Pol :=
  if x.k = 0 then { p with active := lessN p.active (withN 0 x.n) }
  else if x.k = 1 then { p with active := withN p.active x.n }
  else if x.k = 2 then ({ p with live := lessN p.live (withN 0 x.n) }.putS x.n 0).putI x.n 0
  else if x.k = 3 then ({ p with live := withN p.live x.n }.putS x.n x.s).putI x.n x.i
  else if x.k = 4 then p.putA x.n (lessN (p.acts x.n) (withN 0 x.m))
  else if x.k = 5 then p.putA x.n (withN (p.acts x.n) x.m)
  else if x.k = 6 then p.putO x.n x.m
  else p.putO x.n 16
theorem doD_ok {p : Pol} {x : Ln} (hp : PolOk p) (hx : LnOk x) : PolOk (doD p x) := by
  obtain ⟨h1, h2, h3, h4, h5, h6⟩ := hp
  unfold doD
  split
  · exact ⟨h1, lessN_lt _ h2, h3, h4, h5, h6⟩
  split
  · exact ⟨h1, withN_lt h2 hx.n, h3, h4, h5, h6⟩
  split
  · exact ⟨lessN_lt _ h1, h2, upd_lt h3 (by decide), upd_lt h4 (by decide), h5, h6⟩
  split
  · exact ⟨withN_lt h1 hx.n, h2, upd_lt h3 hx.s, upd_lt h4 hx.i, h5, h6⟩
  split
  · exact ⟨h1, h2, h3, h4, upd_lt h5 (lessN_lt _ (h5 _ hx.n)), h6⟩
  split
  · exact ⟨h1, h2, h3, h4, upd_lt h5 (withN_lt (h5 _ hx.n) hx.m), h6⟩
  split
  · exact ⟨h1, h2, h3, h4, h5, upd_lt h6 (by have := hx.m; omega)⟩
  · exact ⟨h1, h2, h3, h4, h5, upd_lt h6 (by decide)⟩
/-! The properties of a policy: which one a line states, and what it states of it. -/
abbrev Key := Nat × Nat × Nat
def bitV (s t : Nat) : Nat := if s.testBit t = true then 1 else 0
def InK (c : Key) : Prop := c.1 < 4 ∧ c.2.1 < 16 ∧ c.2.2 < 16 ∧ (c.1 ≠ 2 → c.2.2 = 0)
def valK (p : Pol) (c : Key) : Nat × Nat × Nat :=
  if c.1 = 0 then (bitV p.active c.2.1, 0, 0) else if c.1 = 1 then (bitV p.live c.2.1, p.s c.2.1, p.i c.2.1) else if c.1 = 2 then (bitV (p.acts c.2.1) c.2.2, 0, 0) else (p.owner c.2.1, 0, 0)
def keyD (x : Ln) : Key := if x.k < 2 then (0, x.n, 0) else if x.k < 4 then (1, x.n, 0) else if x.k < 6 then (2, x.n, x.m) else (3, x.n, 0)
def kvD (x : Ln) : Nat × Nat × Nat :=
  if x.k = 0 ∨ x.k = 2 ∨ x.k = 4 then (0, 0, 0) else if x.k = 1 ∨ x.k = 5 then (1, 0, 0) else if x.k = 3 then (1, x.s, x.i) else if x.k = 6 then (x.m, 0, 0) else (16, 0, 0)
theorem keyD_in {x : Ln} (h : LnOk x) : InK (keyD x) := by
  have h1 := h.n
  have h2 := h.m
  unfold keyD InK
  split
  · exact ⟨by simp, h1, by simp, fun _ => rfl⟩
  split
  · exact ⟨by simp, h1, by simp, fun _ => rfl⟩
  split
  · exact ⟨by simp, h1, h2, fun h => absurd rfl h⟩
  · exact ⟨by simp, h1, by simp, fun _ => rfl⟩
theorem bitV_less {s t u : Nat} (hs : s < 65536) (ht : t < 16) : bitV (lessN s (withN 0 t)) u = if u = t then 0 else bitV s u := by
  unfold bitV
  rw [lessN_bit hs (withN_lt (by decide) ht), withN_bit, Nat.zero_testBit, Bool.false_or]
  by_cases e : u = t
  · subst e; simp
  · rw [if_neg e, show decide (t = u) = false by simp; omega]; simp
theorem bitV_with {s t u : Nat} : bitV (withN s t) u = if u = t then 1 else bitV s u := by
  unfold bitV
  rw [withN_bit]
  by_cases e : u = t
  · subst e; simp
  · rw [if_neg e, show decide (t = u) = false by simp; omega]; simp
theorem valK_do {p : Pol} {x : Ln} {c : Key} (hp : PolOk p) (hx : LnOk x) (hc : InK c) : valK (doD p x) c = if c = keyD x then kvD x else valK p c := by
  obtain ⟨c1, c2, c3⟩ := c
  obtain ⟨i1, i2, i3, i4⟩ := hc
  simp only at i1 i2 i3 i4
  obtain ⟨k, n, m, s, i⟩ := x
  have hk := hx.k
  have hn := hx.n
  have hm := hx.m
  simp only at hk hn hm
  have ha := hp.acts n hn
  have e1 := fun u => bitV_less (u := u) hp.active hn
  have e2 := fun u => bitV_less (u := u) hp.live hn
  have e3 := fun u => bitV_less (u := u) ha hm
  have e4 := fun s t u => bitV_with (s := s) (t := t) (u := u)
  have hk8 : k = 0 ∨ k = 1 ∨ k = 2 ∨ k = 3 ∨ k = 4 ∨ k = 5 ∨ k = 6 ∨ k = 7 := by omega
  clear hp hx hk hn hm ha
  rcases show c1 = 0 ∨ c1 = 1 ∨ c1 = 2 ∨ c1 = 3 by omega with rfl | rfl | rfl | rfl
  · obtain rfl := i4 (by decide)
    clear i1 i2 i3 i4 e2 e3
    by_cases e : c2 = n <;> rcases hk8 with rfl | rfl | rfl | rfl | rfl | rfl | rfl | rfl <;> simp [doD, valK, keyD, kvD, e1, e4, Pol.putS, Pol.putI, Pol.putA, Pol.putO, e]
  · obtain rfl := i4 (by decide)
    clear i1 i2 i3 i4 e1 e3
    by_cases e : c2 = n <;> rcases hk8 with rfl | rfl | rfl | rfl | rfl | rfl | rfl | rfl <;> simp [doD, valK, keyD, kvD, e2, e4, Pol.putS, Pol.putI, Pol.putA, Pol.putO, upd, e]
  · clear i1 i2 i3 i4 e1 e2
    by_cases e : c2 = n <;> by_cases e5 : c3 = m <;> rcases hk8 with rfl | rfl | rfl | rfl | rfl | rfl | rfl | rfl <;> simp [doD, valK, keyD, kvD, e3, e4, Pol.putS, Pol.putI, Pol.putA, Pol.putO, upd, e, e5]
  · obtain rfl := i4 (by decide)
    clear i1 i2 i3 i4 e1 e2 e3 e4
    by_cases e : c2 = n <;> rcases hk8 with rfl | rfl | rfl | rfl | rfl | rfl | rfl | rfl <;> simp [doD, valK, keyD, kvD, Pol.putS, Pol.putI, Pol.putA, Pol.putO, upd, e]
end Go.Proofs.YtmaachmidgfhdaaGreatDoor
