/-
  The program's differences in plain terms: kind by kind over the tags of a set; a line cut at its blanks.
-/
import Derived.Lib.Split
import Derived.Test.YtmaachmidgfhdaaGreatDoorWDifO
import Derived.Test.YtmaachmidgfhdaaGreatDoorW1
/-! DpM -/
namespace Go.Proofs.YtmaachmidgfhdaaGreatDoor

section
variable {α : Type}
theorem flat_tagsTo (s : Nat) (f : Nat → List α) : ∀ n, (tagsTo s n).flatMap f = (List.range n).flatMap fun k => if s.testBit k = true then f k else []
  | 0 => rfl
  | n + 1 => by
    rw [List.range_succ, List.flatMap_append, ← flat_tagsTo s f n, tagsTo, List.flatMap_append]
    congr 1
    split
    · rename_i h; simp [h]
    · rename_i h; simp [h]
theorem flat_congr16 {f g : Nat → List α} (h : ∀ k, k < 16 → f k = g k) : (List.range 16).flatMap f = (List.range 16).flatMap g := by
  have e : ∀ l : List Nat, (∀ k ∈ l, k < 16) → l.flatMap f = l.flatMap g := fun l => by
    induction l with
    | nil => exact fun _ => rfl
    | cons a r ih =>
      intro hl
      rw [List.flatMap_cons, List.flatMap_cons, h a (hl a (by simp)), ih fun k hk => hl k (by simp [hk])]
  exact e _ fun k hk => List.mem_range.1 hk
end
/-- The lines of one word, for each of a set. -/
def eachT (k s : Nat) : List (List UInt8) := (tagsN s).flatMap fun n => [lineT ⟨k, n, 0, 0, 0⟩]
def roleF (p q : Pol) (n : Nat) : List (List UInt8) := if (!p.live.testBit n || !(decide (p.s n = q.s n ∧ p.i n = q.i n))) = true then [lineT ⟨3, n, 0, q.s n, q.i n⟩] else []
def rolesT (p q : Pol) : List (List UInt8) := (tagsN q.live).flatMap (roleF p q)
def linkF (k : Nat) (p q : Pol) (n : Nat) : List (List UInt8) := (tagsN (lessN (q.acts n) (p.acts n))).flatMap fun m => [lineT ⟨k, n, m, 0, 0⟩]
def linksT (k : Nat) (p q : Pol) : List (List UInt8) := (List.range 16).flatMap (linkF k p q)
def dpOwnF (p q : Pol) (n : Nat) : List (List UInt8) := if (!decide (p.owner n = q.owner n)) = true then [lineT ⟨6, n, q.owner n, 0, 0⟩] else []
def ownersT (p q : Pol) : List (List UInt8) := (tagsN (ownedN q 65535)).flatMap (dpOwnF p q)
def ownedT (p q : Pol) : Nat := lessN (ownedN p 65535) (ownedN q 65535)
def partsT (p q : Pol) : List (List (List UInt8)) := [eachT 0 (lessN p.active q.active), eachT 1 (lessN q.active p.active), eachT 2 (lessN p.live q.live), rolesT p q, linksT 4 q p, linksT 5 p q, ownersT p q, eachT 7 (ownedT p q)]
theorem flat_map {β γ : Type} (l : List Nat) (f : Nat → List β) (g : β → γ) : (l.flatMap f).map g = l.flatMap fun n => (f n).map g := by rw [List.map_flatMap]
theorem ownedN_lt (p : Pol) (R : Nat) : ownedN p R < 65536 := setG_lt _ (Nat.le_refl _)
theorem ownedN_bit (p : Pol) {t : Nat} (ht : t < 16) : (ownedN p 65535).testBit t = decide (p.owner t < 16) := by
  unfold ownedN
  rw [setG_bit]
  rw [show (65535 : Nat) = 2 ^ 16 - 1 by decide, Nat.testBit_two_pow_sub_one]
  simp [ht]
theorem row_map (p q : Pol) (k : Nat) : (rowDf p q k).map lineT = (List.range 16).flatMap fun n => (someD p q k n).map lineT := flat_map _ _ _
theorem row_each (p q : Pol) {k s : Nat} (h : ∀ n, n < 16 → someD p q k n = if s.testBit n = true then [⟨k, n, 0, 0, 0⟩] else []) : (rowDf p q k).map lineT = eachT k s := by
  rw [row_map]
  unfold eachT tagsN
  rw [flat_tagsTo]
  refine flat_congr16 fun n hn => ?_
  rw [h n hn]
  split <;> rfl
theorem row_0 {p q : Pol} (hp : PolOk p) (hq : PolOk q) : (rowDf p q 0).map lineT = eachT 0 (lessN p.active q.active) := row_each p q fun n _ => by
  rw [lessN_bit hp.active hq.active]
  unfold someD
  cases p.active.testBit n <;> cases q.active.testBit n <;> rfl
theorem row_1 {p q : Pol} (hp : PolOk p) (hq : PolOk q) : (rowDf p q 1).map lineT = eachT 1 (lessN q.active p.active) := row_each p q fun n _ => by
  rw [lessN_bit hq.active hp.active]
  unfold someD
  cases p.active.testBit n <;> cases q.active.testBit n <;> rfl
theorem row_2 {p q : Pol} (hp : PolOk p) (hq : PolOk q) : (rowDf p q 2).map lineT = eachT 2 (lessN p.live q.live) := row_each p q fun n _ => by
  rw [lessN_bit hp.live hq.live]
  unfold someD
  cases p.live.testBit n <;> cases q.live.testBit n <;> rfl
theorem row_3 (p q : Pol) : (rowDf p q 3).map lineT = rolesT p q := by
  rw [row_map]
  unfold rolesT tagsN
  rw [flat_tagsTo]
  refine flat_congr16 fun n hn => ?_
  unfold roleF
  rw [show someD p q 3 n = if q.live.testBit n = true ∧ (p.live.testBit n = false ∨ ¬ (p.s n = q.s n ∧ p.i n = q.i n)) then [⟨3, n, 0, q.s n, q.i n⟩] else [] from rfl]
  by_cases h : p.s n = q.s n ∧ p.i n = q.i n
  · cases p.live.testBit n <;> cases q.live.testBit n <;> simp [h]
  · cases p.live.testBit n <;> cases q.live.testBit n <;> simp [h]
theorem map_flat1 {β γ : Type} (l : List Nat) (f : Nat → β) (g : β → γ) : (l.map f).map g = l.flatMap fun m => [g (f m)] := by
  induction l with
  | nil => rfl
  | cons a r ih => rw [List.map_cons, List.map_cons, List.flatMap_cons, ih]; rfl
theorem row_4 (p q : Pol) : (rowDf p q 4).map lineT = linksT 4 q p := by
  rw [row_map]
  unfold linksT linkF
  exact flat_congr16 fun n _ => map_flat1 _ _ _
theorem row_5 (p q : Pol) : (rowDf p q 5).map lineT = linksT 5 p q := by
  rw [row_map]
  unfold linksT linkF
  exact flat_congr16 fun n _ => map_flat1 _ _ _
theorem row_6 (p q : Pol) : (rowDf p q 6).map lineT = ownersT p q := by
  rw [row_map]
  unfold ownersT tagsN
  rw [flat_tagsTo]
  refine flat_congr16 fun n hn => ?_
  rw [ownedN_bit q hn]
  unfold dpOwnF
  rw [show someD p q 6 n = if q.owner n ≤ 15 ∧ p.owner n ≠ q.owner n then [⟨6, n, q.owner n, 0, 0⟩] else [] from rfl]
  by_cases h1 : q.owner n ≤ 15
  · have h2 : q.owner n < 16 := by omega
    by_cases h3 : p.owner n = q.owner n <;> simp [h1, h2, h3]
  · have h2 : ¬ q.owner n < 16 := by omega
    simp [h1, h2]
theorem row_7 {p q : Pol} (hpf : fineP p = true) (hqf : fineP q = true) : (rowDf p q 7).map lineT = eachT 7 (ownedT p q) := row_each p q fun n hn => by
  have h1 := (fine_iff.1 hpf).2 n hn
  have h2 := (fine_iff.1 hqf).2 n hn
  unfold ownedT
  rw [lessN_bit (ownedN_lt p _) (ownedN_lt q _), ownedN_bit p hn, ownedN_bit q hn]
  rw [show someD p q 7 n = if 15 < q.owner n ∧ p.owner n ≠ q.owner n then [⟨7, n, 0, 0, 0⟩] else [] from rfl]
  unfold ownerB at h1 h2
  rw [Bool.and_eq_true, decide_eq_true_eq] at h1 h2
  obtain ⟨h1, -⟩ := h1
  obtain ⟨h2, -⟩ := h2
  by_cases h3 : p.owner n < 16
  · by_cases h4 : q.owner n < 16
    · have h5 : ¬ 15 < q.owner n := by omega
      simp [h3, h4, h5]
    · have h5 : 15 < q.owner n := by omega
      have h6 : p.owner n ≠ q.owner n := by omega
      simp [h3, h4, h5, h6]
  · have h6 : ¬ (15 < q.owner n ∧ p.owner n ≠ q.owner n) := by omega
    simp [h3, h6]
theorem lines_parts {p q : Pol} (hp : PolOk p) (hq : PolOk q) (hpf : fineP p = true) (hqf : fineP q = true) : linesL p q = (partsT p q).flatten := by
  have h : diffL p q = [rowDf p q 0, rowDf p q 1, rowDf p q 2, rowDf p q 3, rowDf p q 4, rowDf p q 5, rowDf p q 6, rowDf p q 7].flatten := by
    unfold diffL
    rw [show List.range 8 = [0, 1, 2, 3, 4, 5, 6, 7] by decide, List.flatMap_def]
    rfl
  unfold linesL partsT
  rw [h, List.map_flatten]
  simp only [List.map_cons, List.map_nil]
  rw [row_0 hp hq, row_1 hp hq, row_2 hp hq, row_3, row_4, row_5, row_6, row_7 hpf hqf]

/-! A line cut at its blanks. -/
def wdD (k : Nat) : List UInt8 :=
  if k = 0 then [100, 101, 97, 100] else if k = 1 then [117, 115, 101, 100] else if k = 2 then [103, 111, 110, 101] else if k = 3 then [114, 111, 108, 101]
  else if k = 4 then [117, 110, 108, 105, 110, 107] else if k = 5 then [108, 105, 110, 107] else if k = 6 then [111, 119, 110] else [102, 114, 101, 101]
theorem wdD_word (k : Nat) : wordD k = wdD k ++ [32] := by
  unfold wordD wdD
  repeat' split
  all_goals rfl
theorem wdD_blank (k : Nat) : (32 : UInt8) ∉ wdD k := by
  unfold wdD
  repeat' split
  all_goals decide
theorem wdD_inj {k j : Nat} (hk : k < 8) (hj : j < 8) (h : wdD k = wdD j) : k = j := by
  have : ∀ a b : Fin 8, wdD a.val = wdD b.val → a = b := by decide
  exact congrArg Fin.val (this ⟨k, hk⟩ ⟨j, hj⟩ h)
theorem lineT_cut (x : Ln) : lineT x = wdD x.k ++ 32 :: (dig x.n ++ restD x) := by unfold lineT; rw [wdD_word]; simp
theorem lineOf_zero {l : List UInt8} (h : (32 : UInt8) ∉ l) : lineOf l = none := lineOf_none fun x _ e => h (by rw [← e, lineT_cut]; simp)
theorem restD_blank (x : Ln) : restD x = [] ∨ ∃ r, restD x = 32 :: r := by
  unfold restD
  split
  · exact .inr ⟨_, rfl⟩
  · split
    · exact .inl rfl
    · exact .inr ⟨_, rfl⟩
/-- A line of one number. -/
theorem lineOf_one {k n : Nat} (hk : k < 3 ∨ k = 7) (hn : n < 16) : lineOf (wdD k ++ 32 :: dig n) = some ⟨k, n, 0, 0, 0⟩ := by
  have h := lineOf_is (oneD_ok hk hn)
  rw [lineT_cut] at h
  rw [show restD ⟨k, n, 0, 0, 0⟩ = [] by unfold restD; rw [if_neg (by show ¬ k = 3; omega), if_pos (by show k < 4 ∨ k = 7; omega)], List.append_nil] at h
  exact h
theorem lineOf_two {k n m : Nat} (hk : k = 4 ∨ k = 5 ∨ k = 6) (hn : n < 16) (hm : m < 16) : lineOf (wdD k ++ 32 :: (dig n ++ 32 :: dig m)) = some ⟨k, n, m, 0, 0⟩ := by
  have h := lineOf_is (two_ok hk hn hm)
  rw [lineT_cut] at h
  rw [show restD ⟨k, n, m, 0, 0⟩ = 32 :: dig m by unfold restD; rw [if_neg (by show ¬ k = 3; omega), if_neg (by show ¬ (k < 4 ∨ k = 7); omega)]] at h
  exact h
theorem lineOf_role {n s i : Nat} (hn : n < 16) (hs : s < 65536) (hi : i < 65536) : lineOf (wdD 3 ++ 32 :: (dig n ++ 32 :: textL s i)) = some ⟨3, n, 0, s, i⟩ := by
  have h := lineOf_is (role_ok hn hs hi)
  rw [lineT_cut] at h
  exact h
/-- What else has one blank is no line. -/
theorem lineOf_one_not {a b : List UInt8} (ha : (32 : UInt8) ∉ a) (hb : (32 : UInt8) ∉ b) (h : ∀ k n, k < 3 ∨ k = 7 → n < 16 → ¬ (a = wdD k ∧ b = dig n)) : lineOf (a ++ 32 :: b) = none := by
  refine lineOf_none fun x hx e => ?_
  rw [lineT_cut] at e
  obtain ⟨e1, e2⟩ := cut_unique 32 (wdD_blank x.k) ha e
  rcases restD_blank x with h0 | ⟨r, h0⟩
  · rw [h0, List.append_nil] at e2
    have hk : x.k < 3 ∨ x.k = 7 := by
      have := hx.k
      unfold restD at h0
      split at h0
      · cases h0
      · split at h0
        · omega
        · cases h0
    exact h x.k x.n hk hx.n ⟨e1.symm, e2.symm⟩
  · rw [h0] at e2
    exact hb (by rw [← e2]; simp)
/-- What else has two is none. -/
theorem lineOf_two_not {a b c : List UInt8} (ha : (32 : UInt8) ∉ a) (hb : (32 : UInt8) ∉ b) (h1 : ∀ k n m, k = 4 ∨ k = 5 ∨ k = 6 → n < 16 → m < 16 → ¬ (a = wdD k ∧ b = dig n ∧ c = dig m)) (h2 : ∀ n, n < 16 → ¬ (a = wdD 3 ∧ b = dig n ∧ TextD c)) : lineOf (a ++ 32 :: (b ++ 32 :: c)) = none := by
  refine lineOf_none fun x hx e => ?_
  rw [lineT_cut] at e
  obtain ⟨e1, e2⟩ := cut_unique 32 (wdD_blank x.k) ha e
  have hdb : (32 : UInt8) ∉ dig x.n := dig_blank ⟨x.n, hx.n⟩
  rcases restD_blank x with h0 | ⟨r, h0⟩
  · rw [h0, List.append_nil] at e2
    exact hdb (by rw [e2]; simp)
  · rw [h0] at e2
    obtain ⟨e3, e4⟩ := cut_unique 32 hdb hb e2
    unfold restD at h0
    split at h0
    · rename_i h3
      obtain rfl := (List.cons.inj h0).2
      exact h2 x.n hx.n ⟨by rw [← e1, h3], e3.symm, ⟨x.s, x.i, hx.s, hx.i, e4⟩⟩
    · split at h0
      · cases h0
      · obtain rfl := (List.cons.inj h0).2
        have := hx.k
        exact h1 x.k x.n x.m (by omega) hx.n hx.m ⟨e1.symm, e3.symm, e4.symm⟩
/-- The pieces that a line is cut into. -/
theorem split_none {l : List UInt8} (k : Nat) (h : (32 : UInt8) ∉ l) : Lib.splitK [32] 0 k l = [l] := by
  cases k with
  | zero => rfl
  | succ k => rw [Lib.splitK, Lib.index_one, if_pos (by rw [indexByte_none h]; rfl)]
theorem split_some {a b : List UInt8} (k : Nat) (h : (32 : UInt8) ∉ a) : Lib.splitK [32] 0 (k + 1) (a ++ 32 :: b) = a :: Lib.splitK [32] 0 k b := by
  rw [Lib.splitK, Lib.index_one, indexByte_some b h, if_neg (by simp)]
  simp only [Int.toNat_natCast, Nat.add_zero, List.length_cons, List.length_nil, List.take_left]
  rw [List.drop_append, List.drop_of_length_le (by omega)]
  simp
theorem blank_cut : ∀ l : List UInt8, (32 : UInt8) ∉ l ∨ ∃ a b, l = a ++ 32 :: b ∧ (32 : UInt8) ∉ a
  | [] => .inl (by simp)
  | c :: r => by
    by_cases hc : c = 32
    · exact .inr ⟨[], r, by rw [hc]; rfl, by simp⟩
    · rcases blank_cut r with h | ⟨a, b, e, h⟩
      · exact .inl (by simp [h, Ne.symm hc])
      · exact .inr ⟨c :: a, b, by rw [e]; rfl, by simp [h, Ne.symm hc]⟩
/-- In three at most. -/
def cutW (l : List UInt8) : List (List UInt8) := Lib.splitK [32] 0 (min 3 (l.length + 1) - 1) l
theorem cutW_one {l : List UInt8} (h : (32 : UInt8) ∉ l) : cutW l = [l] := split_none _ h
theorem cutW_two {a b : List UInt8} (ha : (32 : UInt8) ∉ a) (hb : (32 : UInt8) ∉ b) : cutW (a ++ 32 :: b) = [a, b] := by
  unfold cutW
  obtain ⟨k, hk⟩ : ∃ k, min 3 ((a ++ 32 :: b).length + 1) - 1 = k + 1 := ⟨min 3 ((a ++ 32 :: b).length + 1) - 2, by simp only [List.length_append, List.length_cons]; omega⟩
  rw [hk, split_some k ha, split_none k hb]
theorem cutW_three {a b c : List UInt8} (ha : (32 : UInt8) ∉ a) (hb : (32 : UInt8) ∉ b) : cutW (a ++ 32 :: (b ++ 32 :: c)) = [a, b, c] := by
  unfold cutW
  rw [show min 3 ((a ++ 32 :: (b ++ 32 :: c)).length + 1) - 1 = 0 + 1 + 1 by simp only [List.length_append, List.length_cons]; omega, split_some _ ha, split_some _ hb]
  rfl
end Go.Proofs.YtmaachmidgfhdaaGreatDoor
