/-
  The differences between two policies, in plain terms: each line states what did not hold; by them the first policy becomes the second one, and not without any of them.
-/
import Derived.Test.YtmaachmidgfhdaaGreatDoorWDifM
/-! DifN -/
namespace Go.Proofs.YtmaachmidgfhdaaGreatDoor

def someD (p q : Pol) (k n : Nat) : List Ln :=
  if k = 0 then (if p.active.testBit n = true ∧ q.active.testBit n = false then [⟨0, n, 0, 0, 0⟩] else [])
  else if k = 1 then (if p.active.testBit n = false ∧ q.active.testBit n = true then [⟨1, n, 0, 0, 0⟩] else [])
  else if k = 2 then (if p.live.testBit n = true ∧ q.live.testBit n = false then [⟨2, n, 0, 0, 0⟩] else [])
  else if k = 3 then (if q.live.testBit n = true ∧ (p.live.testBit n = false ∨ ¬ (p.s n = q.s n ∧ p.i n = q.i n)) then [⟨3, n, 0, q.s n, q.i n⟩] else [])
  else if k = 4 then (tagsN (lessN (p.acts n) (q.acts n))).map (fun m => ⟨4, n, m, 0, 0⟩)
  else if k = 5 then (tagsN (lessN (q.acts n) (p.acts n))).map (fun m => ⟨5, n, m, 0, 0⟩)
  else if k = 6 then (if q.owner n ≤ 15 ∧ p.owner n ≠ q.owner n then [⟨6, n, q.owner n, 0, 0⟩] else [])
  else (if 15 < q.owner n ∧ p.owner n ≠ q.owner n then [⟨7, n, 0, 0, 0⟩] else [])
def rowDf (p q : Pol) (k : Nat) : List Ln := (List.range 16).flatMap (someD p q k)
def diffL (p q : Pol) : List Ln := (List.range 8).flatMap (rowDf p q)
theorem bitV_one {s t : Nat} (h : s.testBit t = true) : bitV s t = 1 := if_pos h
theorem bitV_zero {s t : Nat} (h : s.testBit t = false) : bitV s t = 0 := if_neg (by rw [h]; decide)
theorem in_one {c : Prop} [Decidable c] {a x : Ln} (h : x ∈ (if c then [a] else [])) : c ∧ x = a := by
  split at h
  · rename_i hc
    exact ⟨hc, List.mem_singleton.1 h⟩
  · cases h
theorem mem_less {a b m : Nat} (ha : a < 65536) (hb : b < 65536) (h : m ∈ tagsN (lessN a b)) : m < 16 ∧ a.testBit m = true ∧ b.testBit m = false := by
  obtain ⟨h1, h2⟩ := (mem_tagsTo _ 16 m).1 h
  rw [lessN_bit ha hb, Bool.and_eq_true] at h2
  exact ⟨h1, h2.1, by simpa using h2.2⟩
theorem less_mem {a b m : Nat} (ha : a < 65536) (hb : b < 65536) (hm : m < 16) (h1 : a.testBit m = true) (h2 : b.testBit m = false) : m ∈ tagsN (lessN a b) :=
  (mem_tagsTo _ 16 m).2 ⟨hm, by rw [lessN_bit ha hb, h1, h2]; rfl⟩
/-- What is known of a line of the differences. -/
structure IsD (p q : Pol) (k n : Nat) (x : Ln) : Prop where
  k : x.k = k
  n : x.n = n
  ok : LnOk x
  is : kvD x = valK q (keyD x)
  was : valK p (keyD x) ≠ valK q (keyD x)
theorem someD_is {p q : Pol} (hp : PolOk p) (hq : PolOk q) (hf : fineP q = true) {k n : Nat} (hk : k < 8) (hn : n < 16) {x : Ln} (h : x ∈ someD p q k n) : IsD p q k n x := by
  obtain ⟨hr, ho⟩ := fine_iff.1 hf
  have hr := hr n hn
  have ho := ho n hn
  have h16 : q.owner n ≤ 16 := by
    unfold ownerB at ho
    rw [Bool.and_eq_true] at ho
    simpa using ho.1
  unfold someD at h
  rcases show k = 0 ∨ k = 1 ∨ k = 2 ∨ k = 3 ∨ k = 4 ∨ k = 5 ∨ k = 6 ∨ k = 7 by omega with rfl | rfl | rfl | rfl | rfl | rfl | rfl | rfl
  · obtain ⟨⟨h1, h2⟩, rfl⟩ := in_one h
    refine ⟨rfl, rfl, ⟨by simp, hn, by simp, by simp, by simp, fun _ => rfl, fun _ => ⟨rfl, rfl⟩⟩, ?_, ?_⟩
    · simp [kvD, valK, keyD, bitV_zero h2]
    · simp [valK, keyD, bitV_zero h2, bitV_one h1]
  · obtain ⟨⟨h1, h2⟩, rfl⟩ := in_one h
    refine ⟨rfl, rfl, ⟨by simp, hn, by simp, by simp, by simp, fun _ => rfl, fun _ => ⟨rfl, rfl⟩⟩, ?_, ?_⟩
    · simp [kvD, valK, keyD, bitV_one h2]
    · simp [valK, keyD, bitV_zero h1, bitV_one h2]
  · obtain ⟨⟨h1, h2⟩, rfl⟩ := in_one h
    obtain ⟨n1, n2, -⟩ := role_nil hr h2
    refine ⟨rfl, rfl, ⟨by simp, hn, by simp, by simp, by simp, fun _ => rfl, fun _ => ⟨rfl, rfl⟩⟩, ?_, ?_⟩
    · simp [kvD, valK, keyD, bitV_zero h2, n1, n2]
    · simp [valK, keyD, bitV_zero h2, bitV_one h1]
  · obtain ⟨⟨h1, h2⟩, rfl⟩ := in_one h
    refine ⟨rfl, rfl, ⟨by simp, hn, by simp, hq.s n hn, hq.i n hn, fun _ => rfl, fun h => absurd rfl h⟩, ?_, ?_⟩
    · simp [kvD, valK, keyD, bitV_one h1]
    · rcases h2 with h2 | h2
      · simp [valK, keyD, bitV_one h1, bitV_zero h2]
      · intro e
        refine h2 ?_
        simp [valK, keyD] at e
        exact e.2
  · obtain ⟨m, hm, rfl⟩ := List.mem_map.1 h
    obtain ⟨h1, h2, h3⟩ := mem_less (hp.acts n hn) (hq.acts n hn) hm
    refine ⟨rfl, rfl, ⟨by simp, hn, h1, by simp, by simp, fun h => by simp at h, fun _ => ⟨rfl, rfl⟩⟩, ?_, ?_⟩
    · simp [kvD, valK, keyD, bitV_zero h3]
    · simp [valK, keyD, bitV_zero h3, bitV_one h2]
  · obtain ⟨m, hm, rfl⟩ := List.mem_map.1 h
    obtain ⟨h1, h2, h3⟩ := mem_less (hq.acts n hn) (hp.acts n hn) hm
    refine ⟨rfl, rfl, ⟨by simp, hn, h1, by simp, by simp, fun h => by simp at h, fun _ => ⟨rfl, rfl⟩⟩, ?_, ?_⟩
    · simp [kvD, valK, keyD, bitV_one h2]
    · simp [valK, keyD, bitV_zero h3, bitV_one h2]
  · obtain ⟨⟨h1, h2⟩, rfl⟩ := in_one h
    refine ⟨rfl, rfl, ⟨by simp, hn, by show q.owner n < 16; omega, by simp, by simp, fun h => by simp at h, fun _ => ⟨rfl, rfl⟩⟩, ?_, ?_⟩
    · simp [kvD, valK, keyD]
    · simp [valK, keyD, h2]
  · obtain ⟨⟨h1, h2⟩, rfl⟩ := in_one h
    refine ⟨rfl, rfl, ⟨by simp, hn, by simp, by simp, by simp, fun _ => rfl, fun _ => ⟨rfl, rfl⟩⟩, ?_, ?_⟩
    · simp [kvD, valK, keyD]; omega
    · simp [valK, keyD, h2]
theorem mem_diff {p q : Pol} {x : Ln} (h : x ∈ diffL p q) : ∃ k n, k < 8 ∧ n < 16 ∧ x ∈ someD p q k n := by
  obtain ⟨k, hk, h⟩ := List.mem_flatMap.1 h
  obtain ⟨n, hn, h⟩ := List.mem_flatMap.1 h
  exact ⟨k, n, List.mem_range.1 hk, List.mem_range.1 hn, h⟩
theorem diff_mem {p q : Pol} {x : Ln} {k n : Nat} (hk : k < 8) (hn : n < 16) (h : x ∈ someD p q k n) : x ∈ diffL p q :=
  List.mem_flatMap.2 ⟨k, List.mem_range.2 hk, List.mem_flatMap.2 ⟨n, List.mem_range.2 hn, h⟩⟩
theorem diff_is {p q : Pol} (hp : PolOk p) (hq : PolOk q) (hf : fineP q = true) {x : Ln} (h : x ∈ diffL p q) : LnOk x ∧ kvD x = valK q (keyD x) ∧ valK p (keyD x) ≠ valK q (keyD x) := by
  obtain ⟨k, n, hk, hn, hx⟩ := mem_diff h
  have h1 := someD_is hp hq hf hk hn hx
  exact ⟨h1.ok, h1.is, h1.was⟩
theorem bitV_ne {a b t : Nat} (h : bitV a t ≠ bitV b t) : (a.testBit t = true ∧ b.testBit t = false) ∨ (a.testBit t = false ∧ b.testBit t = true) := by
  unfold bitV at h
  cases h1 : a.testBit t <;> cases h2 : b.testBit t <;> rw [h1, h2] at h <;> simp at h ⊢
theorem diff_all {p q : Pol} (hp : PolOk p) (hq : PolOk q) (hpf : fineP p = true) (hf : fineP q = true) {c : Key} (hc : InK c) (h : valK p c ≠ valK q c) : ∃ x ∈ diffL p q, keyD x = c := by
  obtain ⟨c1, n, m⟩ := c
  obtain ⟨i1, hn, hm, i4⟩ := hc
  simp only at i1 hn hm i4
  rcases show c1 = 0 ∨ c1 = 1 ∨ c1 = 2 ∨ c1 = 3 by omega with rfl | rfl | rfl | rfl
  · obtain rfl := i4 (by decide)
    rcases bitV_ne (a := p.active) (b := q.active) (t := n) (fun e => h (by simp [valK, e])) with ⟨h1, h2⟩ | ⟨h1, h2⟩
    · exact ⟨⟨0, n, 0, 0, 0⟩, diff_mem (k := 0) (by decide) hn (by simp [someD, h1, h2]), by simp [keyD]⟩
    · exact ⟨⟨1, n, 0, 0, 0⟩, diff_mem (k := 1) (by decide) hn (by simp [someD, h1, h2]), by simp [keyD]⟩
  · obtain rfl := i4 (by decide)
    cases h2 : q.live.testBit n with
    | false =>
      obtain ⟨n1, n2, -⟩ := role_nil ((fine_iff.1 hf).1 n hn) h2
      cases h1 : p.live.testBit n with
      | false =>
        obtain ⟨m1, m2, -⟩ := role_nil ((fine_iff.1 hpf).1 n hn) h1
        exact absurd (by simp [valK, bitV_zero h1, bitV_zero h2, n1, n2, m1, m2]) h
      | true => exact ⟨⟨2, n, 0, 0, 0⟩, diff_mem (k := 2) (by decide) hn (by simp [someD, h1, h2]), by simp [keyD]⟩
    | true =>
      have hx : p.live.testBit n = false ∨ ¬ (p.s n = q.s n ∧ p.i n = q.i n) := by
        cases h1 : p.live.testBit n with
        | false => exact .inl rfl
        | true => exact .inr fun e => h (by simp [valK, bitV_one h1, bitV_one h2, e.1, e.2])
      refine ⟨⟨3, n, 0, q.s n, q.i n⟩, diff_mem (k := 3) (by decide) hn ?_, by simp [keyD]⟩
      show _ ∈ (if q.live.testBit n = true ∧ (p.live.testBit n = false ∨ ¬ (p.s n = q.s n ∧ p.i n = q.i n)) then [(⟨3, n, 0, q.s n, q.i n⟩ : Ln)] else [])
      rw [if_pos ⟨h2, hx⟩]
      exact List.mem_singleton.2 rfl
  · rcases bitV_ne (a := p.acts n) (b := q.acts n) (t := m) (fun e => h (by simp [valK, e])) with ⟨h1, h2⟩ | ⟨h1, h2⟩
    · exact ⟨⟨4, n, m, 0, 0⟩, diff_mem (k := 4) (by decide) hn (List.mem_map.2 ⟨m, less_mem (hp.acts n hn) (hq.acts n hn) hm h1 h2, rfl⟩), by simp [keyD]⟩
    · exact ⟨⟨5, n, m, 0, 0⟩, diff_mem (k := 5) (by decide) hn (List.mem_map.2 ⟨m, less_mem (hq.acts n hn) (hp.acts n hn) hm h2 h1, rfl⟩), by simp [keyD]⟩
  · obtain rfl := i4 (by decide)
    have hne : p.owner n ≠ q.owner n := fun e => h (by simp [valK, e])
    by_cases h15 : q.owner n ≤ 15
    · exact ⟨⟨6, n, q.owner n, 0, 0⟩, diff_mem (k := 6) (by decide) hn (by simp [someD, h15, hne]), by simp [keyD]⟩
    · exact ⟨⟨7, n, 0, 0, 0⟩, diff_mem (k := 7) (by decide) hn (by simp [someD, hne]; omega), by simp [keyD]⟩
theorem key_inj {x y : Ln} (hx : LnOk x) (hy : LnOk y) (h : keyD x = keyD y) (h2 : kvD x = kvD y) : x = y := by
  obtain ⟨xk, xn, xm, xs, xi⟩ := x
  obtain ⟨yk, yn, ym, ys, yi⟩ := y
  have a1 := hx.k
  have a2 := hx.m
  have a3 := hx.one
  have a4 := hx.lab
  have b1 := hy.k
  have b2 := hy.m
  have b3 := hy.one
  have b4 := hy.lab
  simp only at a1 a2 a3 a4 b1 b2 b3 b4
  rcases show xk = 0 ∨ xk = 1 ∨ xk = 2 ∨ xk = 3 ∨ xk = 4 ∨ xk = 5 ∨ xk = 6 ∨ xk = 7 by omega with rfl | rfl | rfl | rfl | rfl | rfl | rfl | rfl <;>
  rcases show yk = 0 ∨ yk = 1 ∨ yk = 2 ∨ yk = 3 ∨ yk = 4 ∨ yk = 5 ∨ yk = 6 ∨ yk = 7 by omega with rfl | rfl | rfl | rfl | rfl | rfl | rfl | rfl <;>
  simp [keyD, kvD] at h h2 a3 a4 b3 b4 <;> simp_all <;> omega
theorem someD_nodup (p q : Pol) (k n : Nat) : (someD p q k n).Pairwise (· ≠ ·) := by
  have one : ∀ (c : Prop) [Decidable c] (a : Ln), (if c then [a] else []).Pairwise (· ≠ ·) := fun c _ a => by split <;> simp
  have many : ∀ (s k n : Nat), ((tagsN s).map (fun m => (⟨k, n, m, 0, 0⟩ : Ln))).Pairwise (· ≠ ·) := fun s k n => by
    rw [List.pairwise_map]
    exact (sorted_tagsN s).imp fun h e => by have := congrArg Ln.m e; simp only at this; omega
  unfold someD
  split
  · exact one _ _
  split
  · exact one _ _
  split
  · exact one _ _
  split
  · exact one _ _
  split
  · exact many _ _ _
  split
  · exact many _ _ _
  split
  · exact one _ _
  · exact one _ _
theorem someD_kn {p q : Pol} {k n : Nat} (hk : k < 8) {x : Ln} (h : x ∈ someD p q k n) : x.k = k ∧ x.n = n := by
  unfold someD at h
  rcases show k = 0 ∨ k = 1 ∨ k = 2 ∨ k = 3 ∨ k = 4 ∨ k = 5 ∨ k = 6 ∨ k = 7 by omega with rfl | rfl | rfl | rfl | rfl | rfl | rfl | rfl
  · obtain ⟨-, rfl⟩ := in_one h; exact ⟨rfl, rfl⟩
  · obtain ⟨-, rfl⟩ := in_one h; exact ⟨rfl, rfl⟩
  · obtain ⟨-, rfl⟩ := in_one h; exact ⟨rfl, rfl⟩
  · obtain ⟨-, rfl⟩ := in_one h; exact ⟨rfl, rfl⟩
  · obtain ⟨m, -, rfl⟩ := List.mem_map.1 h; exact ⟨rfl, rfl⟩
  · obtain ⟨m, -, rfl⟩ := List.mem_map.1 h; exact ⟨rfl, rfl⟩
  · obtain ⟨-, rfl⟩ := in_one h; exact ⟨rfl, rfl⟩
  · obtain ⟨-, rfl⟩ := in_one h; exact ⟨rfl, rfl⟩
theorem diff_nodup (p q : Pol) : (diffL p q).Pairwise (· ≠ ·) := by
  unfold diffL
  rw [List.pairwise_flatMap]
  refine ⟨fun k hk => ?_, List.pairwise_lt_range.imp_of_mem fun {a b} ha hb hab x hx y hy e => ?_⟩
  · unfold rowDf
    rw [List.pairwise_flatMap]
    refine ⟨fun n _ => someD_nodup p q k n, List.pairwise_lt_range.imp_of_mem fun {a b} _ _ hab x hx y hy e => ?_⟩
    have h1 := (someD_kn (List.mem_range.1 hk) hx).2
    have h2 := (someD_kn (List.mem_range.1 hk) hy).2
    rw [e, h2] at h1
    omega
  · obtain ⟨n, -, hx⟩ := List.mem_flatMap.1 hx
    obtain ⟨m, -, hy⟩ := List.mem_flatMap.1 hy
    have h1 := (someD_kn (List.mem_range.1 ha) hx).1
    have h2 := (someD_kn (List.mem_range.1 hb) hy).1
    rw [e, h2] at h1
    omega
theorem diff_keys {p q : Pol} (hp : PolOk p) (hq : PolOk q) (hf : fineP q = true) : (diffL p q).Pairwise (fun x y => keyD x ≠ keyD y) :=
  (diff_nodup p q).imp_of_mem fun {x y} hx hy hne e => by
    obtain ⟨a1, a2, -⟩ := diff_is hp hq hf hx
    obtain ⟨b1, b2, -⟩ := diff_is hp hq hf hy
    exact hne (key_inj a1 b1 e (by rw [a2, b2, e]))
/-! Lines in turn. -/
def doAll (p : Pol) (L : List Ln) : Pol := L.foldl doD p
theorem doAll_ok : ∀ {L : List Ln} {p : Pol}, PolOk p → (∀ x ∈ L, LnOk x) → PolOk (doAll p L)
  | [], _, h, _ => h
  | x :: L, p, h, hL => by
    show PolOk (doAll (doD p x) L)
    exact doAll_ok (doD_ok h (hL x (by simp))) fun y hy => hL y (by simp [hy])
theorem doAll_off {c : Key} (hc : InK c) : ∀ {L : List Ln} {p : Pol}, PolOk p → (∀ x ∈ L, LnOk x) → (∀ x ∈ L, keyD x ≠ c) → valK (doAll p L) c = valK p c
  | [], _, _, _, _ => rfl
  | x :: L, p, h, hL, hk => by
    have h1 := doAll_off hc (L := L) (doD_ok h (hL x (by simp))) (fun y hy => hL y (by simp [hy])) (fun y hy => hk y (by simp [hy]))
    show valK (doAll (doD p x) L) c = _
    rw [h1, valK_do h (hL x (by simp)) hc, if_neg (fun e => hk x (by simp) e.symm)]
theorem doAll_on {q : Pol} {c : Key} (hc : InK c) : ∀ {L : List Ln} {p : Pol}, PolOk p → (∀ x ∈ L, LnOk x ∧ kvD x = valK q (keyD x)) → (∃ x ∈ L, keyD x = c) → valK (doAll p L) c = valK q c
  | [], _, _, _, h => by obtain ⟨x, hx, -⟩ := h; cases hx
  | x :: L, p, h, hL, hk => by
    have hx := hL x (by simp)
    have hp2 := doD_ok h hx.1
    show valK (doAll (doD p x) L) c = _
    by_cases e : ∃ y ∈ L, keyD y = c
    · exact doAll_on hc hp2 (fun y hy => hL y (by simp [hy])) e
    · have h1 := doAll_off hc hp2 (fun y hy => (hL y (by simp [hy])).1) (fun y hy hk => e ⟨y, hy, hk⟩)
      have hxc : keyD x = c := by
        obtain ⟨y, hy, hyc⟩ := hk
        rcases List.mem_cons.1 hy with rfl | hy
        · exact hyc
        · exact absurd ⟨y, hy, hyc⟩ e
      rw [h1, valK_do h hx.1 hc, if_pos hxc.symm, hx.2, hxc]
theorem bitV_inj {a b t : Nat} (h : bitV a t = bitV b t) : a.testBit t = b.testBit t := by
  cases h1 : a.testBit t <;> cases h2 : b.testBit t
  · rfl
  · rw [bitV_zero h1, bitV_one h2] at h; cases h
  · rw [bitV_one h1, bitV_zero h2] at h; cases h
  · rfl
theorem bits_same {a b : Nat} (ha : a < 65536) (hb : b < 65536) (h : ∀ t, t < 16 → bitV a t = bitV b t) : a = b := by
  apply Nat.eq_of_testBit_eq
  intro t
  rcases Nat.lt_or_ge t 16 with h1 | h1
  · exact bitV_inj (h t h1)
  · have e : ∀ {n : Nat}, n < 65536 → n.testBit t = false := fun hn => by
      cases h2 : Nat.testBit _ t with
      | false => rfl
      | true => have := bit_lt hn h2; omega
    rw [e ha, e hb]
theorem val_cells {p q : Pol} (hp : PolOk p) (hq : PolOk q) (h : ∀ c, InK c → valK p c = valK q c) : polC p = polC q := by
  have key : ∀ a n m, a < 4 → n < 16 → m < 16 → (a ≠ 2 → m = 0) → valK p (a, n, m) = valK q (a, n, m) := fun a n m h1 h2 h3 h4 => h _ ⟨h1, h2, h3, h4⟩
  refine polC_congr (bits_same hp.live hq.live fun t ht => ?_) (fun r hr => ⟨?_, ?_, bits_same (hp.acts r hr) (hq.acts r hr) fun t ht => ?_⟩) (fun t ht => ?_) (bits_same hp.active hq.active fun t ht => ?_)
  · have := key 1 t 0 (by decide) ht (by decide) (fun _ => rfl)
    simp [valK] at this; exact this.1
  · have := key 1 r 0 (by decide) hr (by decide) (fun _ => rfl)
    simp [valK] at this; exact this.2.1
  · have := key 1 r 0 (by decide) hr (by decide) (fun _ => rfl)
    simp [valK] at this; exact this.2.2
  · have := key 2 r t (by decide) hr ht (fun h => absurd rfl h)
    simp [valK] at this; exact this
  · have := key 3 t 0 (by decide) ht (by decide) (fun _ => rfl)
    simp [valK] at this; exact this
  · have := key 0 t 0 (by decide) ht (by decide) (fun _ => rfl)
    simp [valK] at this; exact this
theorem cells_val {p q : Pol} (h : polC p = polC q) {c : Key} (hc : InK c) : valK p c = valK q c := by
  obtain ⟨c1, n, m⟩ := c
  obtain ⟨-, hn, -, -⟩ := hc
  unfold valK
  rw [same_active h, same_live h, same_s h hn, same_i h hn, same_acts h hn, same_owner h hn]
/-- By the differences the first policy becomes the second one. -/
theorem diff_back {p q : Pol} (hp : PolOk p) (hq : PolOk q) (hpf : fineP p = true) (hf : fineP q = true) : polC (doAll p (diffL p q)) = polC q := by
  have h := fun x (hx : x ∈ diffL p q) => diff_is hp hq hf hx
  refine val_cells (doAll_ok hp fun x hx => (h x hx).1) hq fun c hc => ?_
  by_cases e : ∃ x ∈ diffL p q, keyD x = c
  · exact doAll_on hc hp (fun x hx => ⟨(h x hx).1, (h x hx).2.1⟩) e
  · rw [doAll_off hc hp (fun x hx => (h x hx).1) (fun x hx hk => e ⟨x, hx, hk⟩)]
    exact Classical.byContradiction fun hne => e (diff_all hp hq hpf hf hc hne)
/-- Not without one of them. -/
theorem diff_less {p q : Pol} (hp : PolOk p) (hq : PolOk q) (hf : fineP q = true) {a b : List Ln} {x : Ln} (h : diffL p q = a ++ x :: b) : polC (doAll p (a ++ b)) ≠ polC q := by
  have hi := fun y (hy : y ∈ diffL p q) => diff_is hp hq hf hy
  have hx := hi x (by rw [h]; simp)
  have hkeys := diff_keys hp hq hf (p := p)
  rw [h, List.pairwise_append] at hkeys
  obtain ⟨-, h2, h3⟩ := hkeys
  rw [List.pairwise_cons] at h2
  have hc := keyD_in hx.1
  have hoff : valK (doAll p (a ++ b)) (keyD x) = valK p (keyD x) := doAll_off hc hp (fun y hy => by
    refine (hi y ?_).1
    rw [h]
    rcases List.mem_append.1 hy with hy | hy <;> simp [hy]) (fun y hy e => by
    rcases List.mem_append.1 hy with hy | hy
    · exact h3 y hy x (by simp) e
    · exact h2.1 y hy e.symm)
  intro e
  exact hx.2.2 (by rw [← hoff]; exact cells_val e hc)
/-- There are none between a policy and itself, and only then. -/
theorem diff_none {p q : Pol} (hp : PolOk p) (hq : PolOk q) (hpf : fineP p = true) (hf : fineP q = true) : diffL p q = [] ↔ polC p = polC q := by
  constructor
  · intro h
    refine val_cells hp hq fun c hc => Classical.byContradiction fun hne => ?_
    obtain ⟨x, hx, -⟩ := diff_all hp hq hpf hf hc hne
    rw [h] at hx; cases hx
  · intro h
    cases e : diffL p q with
    | nil => rfl
    | cons x l =>
      have hx : x ∈ diffL p q := by rw [e]; simp
      obtain ⟨h1, -, h3⟩ := diff_is hp hq hf hx
      exact absurd (cells_val h (keyD_in h1)) h3
/-- What becomes of a policy by some strings. -/
noncomputable def patL : Pol → List (List UInt8) → Option Pol
  | p, [] => some p
  | p, l :: r => match lineOf l with
    | some x => patL (doD p x) r
    | none => none
noncomputable def patR (p : Pol) (ls : List (List UInt8)) : Option Pol := match patL p ls with
  | some q => if fineP q = true then some q else none
  | none => none
noncomputable def patP (p : Pol) (ls : List (List UInt8)) : Pol := (patR p ls).getD zeroP
noncomputable def patB (p : Pol) (ls : List (List UInt8)) : Bool := (patR p ls).isSome
noncomputable def patE (p : Pol) (ls : List (List UInt8)) : Int := if patB p ls = true then 0 else 3
theorem patL_ok : ∀ {ls : List (List UInt8)} {p q : Pol}, PolOk p → patL p ls = some q → PolOk q
  | [], _, _, h, e => by cases e; exact h
  | l :: r, p, q, h, e => by
    unfold patL at e
    split at e
    · rename_i x hx
      exact patL_ok (doD_ok h (lineOf_some hx).1) e
    · cases e
theorem patP_ok {p : Pol} (hp : PolOk p) (ls : List (List UInt8)) : PolOk (patP p ls) := by
  unfold patP patR
  split
  · rename_i q hq
    split
    · exact patL_ok hp hq
    · exact zeroP_ok
  · exact zeroP_ok
theorem patL_lines : ∀ {L : List Ln} {p : Pol}, (∀ x ∈ L, LnOk x) → patL p (L.map lineT) = some (doAll p L)
  | [], _, _ => rfl
  | x :: L, p, h => by
    show (match lineOf (lineT x) with | some x => patL (doD p x) (L.map lineT) | none => none) = _
    rw [lineOf_is (h x (by simp))]
    exact patL_lines fun y hy => h y (by simp [hy])
theorem pat_lines {L : List Ln} {p : Pol} (h : ∀ x ∈ L, LnOk x) : patR p (L.map lineT) = if fineP (doAll p L) = true then some (doAll p L) else none := by
  unfold patR
  rw [patL_lines h]
def linesL (p q : Pol) : List (List UInt8) := (diffL p q).map lineT
theorem pat_back {p q : Pol} (hp : PolOk p) (hq : PolOk q) (hpf : fineP p = true) (hf : fineP q = true) : polC (patP p (linesL p q)) = polC q ∧ patE p (linesL p q) = 0 := by
  have h1 := diff_back hp hq hpf hf
  have h2 := pat_lines (p := p) (fun x hx => (diff_is hp hq hf hx).1 : ∀ x ∈ diffL p q, LnOk x)
  rw [if_pos (by rw [fine_cells h1]; exact hf)] at h2
  unfold patE patB patP linesL
  rw [h2]
  exact ⟨h1, rfl⟩
theorem pat_less {p q : Pol} (hp : PolOk p) (hq : PolOk q) (hf : fineP q = true) {k : Nat} (hk : k < (linesL p q).length) : patE p ((linesL p q).take k ++ (linesL p q).drop (k + 1)) ≠ 0 ∨ polC (patP p ((linesL p q).take k ++ (linesL p q).drop (k + 1))) ≠ polC q := by
  have hk2 : k < (diffL p q).length := by simpa [linesL] using hk
  have e : diffL p q = (diffL p q).take k ++ (diffL p q)[k] :: (diffL p q).drop (k + 1) := by
    rw [← List.drop_eq_getElem_cons hk2, List.take_append_drop]
  have h1 := diff_less hp hq hf e
  have em : (linesL p q).take k ++ (linesL p q).drop (k + 1) = ((diffL p q).take k ++ (diffL p q).drop (k + 1)).map lineT := by
    unfold linesL
    rw [List.map_append, List.map_take, List.map_drop]
  have h2 := pat_lines (p := p) (L := (diffL p q).take k ++ (diffL p q).drop (k + 1)) (fun x hx => (diff_is hp hq hf (by
    rcases List.mem_append.1 hx with hx | hx
    · exact List.mem_of_mem_take hx
    · exact List.mem_of_mem_drop hx)).1)
  rw [em]
  unfold patE patB patP
  rw [h2]
  split
  · exact .inr h1
  · exact .inl (by decide)
end Go.Proofs.YtmaachmidgfhdaaGreatDoor
