/-
  The texts of sets of tags: plain facts on lists of bytes, of no program.
-/
import Derived.Test.YtcbphjdhafnkmaaDoorBitsM
import Derived.Lib.ItoaNum
import Derived.Lib.Join
import Derived.Lib.AtoiAll
import Derived.Lib.Bytealg
namespace Go.Proofs.YtcbphjdhafnkmaaDoor

/-- The digits of a tag. -/
def dig (t : Nat) : List UInt8 := if t < 10 then [UInt8.ofNat (48 + t)] else [49, UInt8.ofNat (38 + t)]
theorem dec_dig : ∀ t, t < 16 → Lib.decDigits t = dig t := by
  intro t ht
  by_cases h : t < 10
  · rw [Lib.decDigits, dif_pos h, dig, if_pos h]
  · rw [Lib.decDigits, dif_neg h, Lib.decDigits, dif_pos (by omega), dig, if_neg h]
    have h1 : t / 10 = 1 := by omega
    have h2 : 48 + t % 10 = 38 + t := by omega
    rw [h1, h2]; rfl
theorem dig_atoi : ∀ t : Fin 16, Lib.atoiAll (dig t.val) = .ok (t.val : Int) := by decide +kernel
theorem dig_comma : ∀ t : Fin 16, (44 : UInt8) ∉ dig t.val := by decide +kernel
theorem dig_minus : ∀ t : Fin 16, (45 : UInt8) ∉ dig t.val := by decide +kernel
theorem dig_len : ∀ t : Fin 16, 1 ≤ (dig t.val).length ∧ (dig t.val).length ≤ 2 := by decide +kernel
theorem dig_inj {t u : Nat} (ht : t < 16) (hu : u < 16) (h : dig t = dig u) : t = u := by
  have h1 := dig_atoi ⟨t, ht⟩
  have h2 := dig_atoi ⟨u, hu⟩
  simp only at h1 h2
  rw [h, h2] at h1
  injection h1 with h1
  omega

/-- Texts of lists of tags. -/
def joinT : List Nat → List UInt8
  | [] => []
  | [t] => dig t
  | t :: u :: r => dig t ++ 44 :: joinT (u :: r)
theorem joinT_cons (t : Nat) {r : List Nat} (h : r ≠ []) : joinT (t :: r) = dig t ++ 44 :: joinT r := by
  cases r with
  | nil => exact absurd rfl h
  | cons u r => rfl
theorem joinT_snoc (t : Nat) : ∀ {l : List Nat}, l ≠ [] → joinT (l ++ [t]) = joinT l ++ 44 :: dig t
  | [], h => absurd rfl h
  | [u], _ => rfl
  | u :: v :: r, _ => by
    have ih := joinT_snoc t (l := v :: r) (by simp)
    rw [show u :: v :: r ++ [t] = u :: (v :: r ++ [t]) from rfl, joinT_cons u (by simp), ih, joinT_cons u (by simp)]
    simp
def textN (s : Nat) : List UInt8 := if s = 0 then [45] else joinT (tagsN s)

theorem cut_unique {a b a' b' : List UInt8} (c : UInt8) (ha : c ∉ a) (ha' : c ∉ a') (h : a ++ c :: b = a' ++ c :: b') : a = a' ∧ b = b' := by
  induction a generalizing a' with
  | nil =>
    cases a' with
    | nil => simp at h; exact ⟨rfl, h⟩
    | cons y r => simp at h; exact absurd (by rw [h.1]; simp) ha'
  | cons x r ih =>
    cases a' with
    | nil => simp at h; exact absurd (by rw [h.1]; simp) ha
    | cons y r' =>
      simp at h
      obtain ⟨h1, h2⟩ := ih (a' := r') (fun h => ha (List.mem_cons_of_mem _ h)) (fun h => ha' (List.mem_cons_of_mem _ h)) h.2
      exact ⟨by rw [h.1, h1], h2⟩
theorem comma_in (a b : List UInt8) : (44 : UInt8) ∈ a ++ 44 :: b := by simp

def Small (l : List Nat) : Prop := ∀ t, t ∈ l → t < 16

/-- What stands behind the first tags of a text is the text of the others. -/
theorem joinT_prefix : ∀ {pre q : List Nat} {r : List UInt8}, Small pre → Small q → pre ≠ [] → joinT q = joinT pre ++ 44 :: r → ∃ q', q' ≠ [] ∧ q = pre ++ q' ∧ joinT q' = r
  | [], _, _, _, _, h, _ => absurd rfl h
  | [t], q, r, hp, hq, _, h => by
    have ht := dig_comma ⟨t, hp t (by simp)⟩
    simp only at ht
    cases q with
    | nil => have := congrArg List.length h; simp [joinT] at this
    | cons u q =>
      have hu := dig_comma ⟨u, hq u (by simp)⟩
      simp only at hu
      by_cases hq0 : q = []
      · subst hq0
        have : (44 : UInt8) ∈ dig u := by
          show (44 : UInt8) ∈ joinT [u]
          rw [h]; exact comma_in _ _
        exact absurd this hu
      · rw [joinT_cons u hq0] at h
        obtain ⟨h1, h2⟩ := cut_unique 44 hu ht h
        have := dig_inj (hq u (by simp)) (hp t (by simp)) h1
        subst this
        exact ⟨q, hq0, rfl, h2⟩
  | t :: v :: p, q, r, hp, hq, _, h => by
    have ht := dig_comma ⟨t, hp t (by simp)⟩
    simp only at ht
    rw [joinT_cons t (by simp), List.append_assoc, List.cons_append] at h
    cases q with
    | nil => have := congrArg List.length h; simp [joinT] at this
    | cons u q =>
      have hu := dig_comma ⟨u, hq u (by simp)⟩
      simp only at hu
      by_cases hq0 : q = []
      · subst hq0
        have : (44 : UInt8) ∈ dig u := by
          show (44 : UInt8) ∈ joinT [u]
          rw [h]; exact comma_in _ _
        exact absurd this hu
      · rw [joinT_cons u hq0] at h
        obtain ⟨h1, h2⟩ := cut_unique 44 hu ht h
        have := dig_inj (hq u (by simp)) (hp t (by simp)) h1
        subst this
        obtain ⟨q', hq', e, hj⟩ := joinT_prefix (pre := v :: p) (q := q) (fun x hx => hp x (List.mem_cons_of_mem _ hx)) (fun x hx => hq x (List.mem_cons_of_mem _ hx)) (by simp) h2
        exact ⟨q', hq', by rw [e]; rfl, hj⟩

theorem joinT_inj : ∀ {p q : List Nat}, Small p → Small q → joinT p = joinT q → p = q
  | [], [], _, _, _ => rfl
  | [], [u], _, hq, h => by
    have := (dig_len ⟨u, hq u (by simp)⟩).1
    have h2 := congrArg List.length h
    simp [joinT] at h2
    simp only at this
    rw [← h2] at this; simp at this
  | [], u :: v :: q, _, _, h => by have h2 := congrArg List.length h; simp [joinT] at h2
  | t :: p, q, hp, hq, h => by
    by_cases hp0 : p = []
    · subst hp0
      have ht := dig_comma ⟨t, hp t (by simp)⟩
      simp only at ht
      cases q with
      | nil =>
        have h1 := (dig_len ⟨t, hp t (by simp)⟩).1
        have h2 := congrArg List.length h
        simp [joinT] at h2
        simp only at h1
        rw [h2] at h1; simp at h1
      | cons u q =>
        by_cases hq0 : q = []
        · subst hq0
          rw [dig_inj (hp t (by simp)) (hq u (by simp)) h]
        · rw [joinT_cons u hq0] at h
          exact absurd (by show (44 : UInt8) ∈ joinT [t]; rw [h]; exact comma_in _ _) ht
    · cases q with
      | nil => rw [joinT_cons t hp0] at h; have h2 := congrArg List.length h; simp [joinT] at h2
      | cons u q =>
        by_cases hq0 : q = []
        · subst hq0
          have hu := dig_comma ⟨u, hq u (by simp)⟩
          simp only at hu
          rw [joinT_cons t hp0] at h
          exact absurd (by show (44 : UInt8) ∈ joinT [u]; rw [← h]; exact comma_in _ _) hu
        · have ht := dig_comma ⟨t, hp t (by simp)⟩
          have hu := dig_comma ⟨u, hq u (by simp)⟩
          simp only at ht hu
          rw [joinT_cons t hp0, joinT_cons u hq0] at h
          obtain ⟨h1, h2⟩ := cut_unique 44 ht hu h
          rw [dig_inj (hp t (by simp)) (hq u (by simp)) h1, joinT_inj (fun x hx => hp x (List.mem_cons_of_mem _ hx)) (fun x hx => hq x (List.mem_cons_of_mem _ hx)) h2]

theorem small_tagsN (s : Nat) : Small (tagsN s) := fun t ht => ((mem_tagsTo s 16 t).1 ht).1
theorem joinT_minus {q : List Nat} (hq : Small q) (h : joinT q = [45]) : False := by
  cases q with
  | nil => simp [joinT] at h
  | cons t r =>
    have ht := dig_minus ⟨t, hq t (by simp)⟩
    have hl := (dig_len ⟨t, hq t (by simp)⟩).1
    simp only at ht hl
    have hd : dig t = 45 :: (dig t).tail ∨ ∃ x, dig t = x :: (dig t).tail ∧ x ≠ 45 := by
      cases hdt : dig t with
      | nil => rw [hdt] at hl; simp at hl
      | cons x y => by_cases hx : x = 45
                    · left; rw [hx]; rfl
                    · right; exact ⟨x, rfl, hx⟩
    rcases hd with hd | ⟨x, hd, hx⟩
    · exact ht (by rw [hd]; simp)
    · by_cases hr : r = []
      · subst hr; have h' : dig t = [45] := h; rw [h'] at ht; simp at ht
      · rw [joinT_cons t hr, hd] at h; simp at h
theorem textN_inj {a b : Nat} (ha : a < 65536) (hb : b < 65536) (h : textN a = textN b) : a = b := by
  unfold textN at h
  by_cases h0 : a = 0
  · by_cases h1 : b = 0
    · rw [h0, h1]
    · rw [if_pos h0, if_neg h1] at h
      exact (joinT_minus (small_tagsN b) h.symm).elim
  · by_cases h1 : b = 0
    · rw [if_neg h0, if_pos h1] at h
      exact (joinT_minus (small_tagsN a) h).elim
    · rw [if_neg h0, if_neg h1] at h
      exact tagsN_inj ha hb (joinT_inj (small_tagsN a) (small_tagsN b) h)

/-! Rising lists. -/
theorem sorted_ext : ∀ {l m : List Nat}, l.Pairwise (· < ·) → m.Pairwise (· < ·) → (∀ x, x ∈ l ↔ x ∈ m) → l = m
  | [], [], _, _, _ => rfl
  | [], y :: m, _, _, h => absurd ((h y).2 (by simp)) (by simp)
  | x :: l, [], _, _, h => absurd ((h x).1 (by simp)) (by simp)
  | x :: l, y :: m, hl, hm, h => by
    rw [List.pairwise_cons] at hl hm
    have hxy : x = y := by
      rcases List.mem_cons.1 ((h x).1 (by simp)) with e | e
      · exact e
      · rcases List.mem_cons.1 ((h y).2 (by simp)) with e' | e'
        · exact e'.symm
        · have h1 := hm.1 x e
          have h2 := hl.1 y e'
          omega
    subst hxy
    have : l = m := sorted_ext hl.2 hm.2 (fun z => by
      constructor
      · intro hz
        rcases List.mem_cons.1 ((h z).1 (List.mem_cons_of_mem _ hz)) with e | e
        · subst e; have := hl.1 z hz; omega
        · exact e
      · intro hz
        rcases List.mem_cons.1 ((h z).2 (List.mem_cons_of_mem _ hz)) with e | e
        · subst e; have := hm.1 z hz; omega
        · exact e)
    rw [this]
theorem sorted_tagsTo (s : Nat) : ∀ n, (tagsTo s n).Pairwise (· < ·)
  | 0 => by simp [tagsTo]
  | n + 1 => by
    unfold tagsTo
    rw [List.pairwise_append]
    refine ⟨sorted_tagsTo s n, by split <;> simp, fun x hx y hy => ?_⟩
    have h1 := ((mem_tagsTo s n x).1 hx).1
    split at hy
    · simp at hy; omega
    · simp at hy
theorem sorted_tagsN (s : Nat) : (tagsN s).Pairwise (· < ·) := sorted_tagsTo s 16

/-- The set of a list of tags. -/
def setN (s : Nat) : List Nat → Nat
  | [] => s
  | t :: r => setN (withN s t) r
theorem withN_bit (s t i : Nat) : (withN s t).testBit i = (s.testBit i || decide (t = i)) := by
  unfold withN; rw [Nat.testBit_or, Nat.testBit_two_pow]
theorem setN_bit (i : Nat) : ∀ (l : List Nat) (s : Nat), (setN s l).testBit i = (s.testBit i || decide (i ∈ l))
  | [], s => by simp [setN]
  | t :: r, s => by
    unfold setN
    rw [setN_bit i r, withN_bit, Bool.or_assoc]
    congr 1
    rw [Bool.eq_iff_iff, Bool.or_eq_true, decide_eq_true_iff, decide_eq_true_iff, decide_eq_true_iff, List.mem_cons]
    exact ⟨fun h => h.elim (fun h => .inl h.symm) .inr, fun h => h.elim (fun h => .inl h.symm) .inr⟩
theorem setN_lt : ∀ (l : List Nat) (s : Nat), s < 65536 → Small l → setN s l < 65536
  | [], _, hs, _ => hs
  | t :: r, s, hs, hl => setN_lt r _ (withN_lt hs (hl t (by simp))) (fun x hx => hl x (List.mem_cons_of_mem _ hx))
theorem setN_snoc (s : Nat) (l : List Nat) (t : Nat) : setN s (l ++ [t]) = withN (setN s l) t := by
  induction l generalizing s with
  | nil => rfl
  | cons x r ih => rw [List.cons_append, setN, ih, ← setN]
theorem tagsN_setN {l : List Nat} (hl : Small l) (hs : l.Pairwise (· < ·)) : tagsN (setN 0 l) = l :=
  sorted_ext (sorted_tagsN _) hs (fun x => by
    have h1 := mem_tagsTo (setN 0 l) 16 x
    rw [setN_bit, Nat.zero_testBit, Bool.false_or, decide_eq_true_iff] at h1
    exact h1.trans ⟨fun h => h.2, fun h => ⟨hl x h, h⟩⟩)
theorem setN_tagsN {s : Nat} (hs : s < 65536) : setN 0 (tagsN s) = s :=
  tagsN_inj (setN_lt _ _ (by decide) (small_tagsN s)) hs (tagsN_setN (small_tagsN s) (sorted_tagsN s))

/-! What a parser of such a text knows while it goes. -/
def lastI (pre : List Nat) : Int := match pre.getLast? with
  | none => -1
  | some t => t
theorem lastI_nil : lastI [] = -1 := rfl
theorem lastI_snoc (pre : List Nat) (t : Nat) : lastI (pre ++ [t]) = t := by simp [lastI]
theorem lastI_lt {pre : List Nat} {t : Nat} (h : (pre ++ [t]).Pairwise (· < ·)) : lastI pre < t := by
  rw [List.pairwise_append] at h
  unfold lastI
  cases hg : pre.getLast? with
  | none => simp only []; omega
  | some u =>
    simp only []
    have := h.2.2 u (List.mem_of_getLast? hg) t (by simp)
    omega
theorem sorted_snoc {pre : List Nat} {t : Nat} (hp : pre.Pairwise (· < ·)) (h : lastI pre < t) : (pre ++ [t]).Pairwise (· < ·) := by
  rw [List.pairwise_append]
  refine ⟨hp, by simp, fun x hx y hy => ?_⟩
  simp at hy
  subst hy
  -- x is at most the last one
  have : (x : Int) ≤ lastI pre := by
    obtain ⟨a, ha⟩ : ∃ a, pre.getLast? = some a := by
      cases hg : pre.getLast? with
      | none => rw [List.getLast?_eq_none_iff] at hg; subst hg; simp at hx
      | some a => exact ⟨a, rfl⟩
    obtain ⟨p, hpe⟩ := List.getLast?_eq_some_iff.1 ha
    rw [hpe, lastI_snoc]
    rw [hpe] at hp hx
    rw [List.pairwise_append] at hp
    rcases List.mem_append.1 hx with hx | hx
    · have := hp.2.2 x hx a (by simp); omega
    · simp at hx; omega
  omega

structure Inv (l : List UInt8) (pre : List Nat) (r : List UInt8) (more : Bool) : Prop where
  small : Small pre
  sorted : pre.Pairwise (· < ·)
  going : more = true → (pre = [] ∧ r = l) ∨ (pre ≠ [] ∧ l = joinT pre ++ 44 :: r)
  over : more = false → pre ≠ [] ∧ l = joinT pre

theorem Inv.start (l : List UInt8) : Inv l [] l true := ⟨fun _ h => by simp at h, List.Pairwise.nil, fun _ => .inl ⟨rfl, rfl⟩, fun h => by cases h⟩
theorem Inv.last_lt {l r : List UInt8} {pre : List Nat} {m : Bool} (h : Inv l pre r m) : -1 ≤ lastI pre ∧ lastI pre ≤ 15 := by
  unfold lastI
  cases hg : pre.getLast? with
  | none => simp only []; omega
  | some u =>
    simp only []
    have := h.small u (List.mem_of_getLast? hg)
    omega
/-- A word more, and a comma behind it. -/
theorem Inv.step {l r r' : List UInt8} {pre : List Nat} {t : Nat} (h : Inv l pre r true) (ht : t < 16) (hl : lastI pre < t) (hr : r = dig t ++ 44 :: r') : Inv l (pre ++ [t]) r' true := by
  refine ⟨fun x hx => ?_, sorted_snoc h.sorted hl, fun _ => .inr ⟨by simp, ?_⟩, fun e => by cases e⟩
  · rcases List.mem_append.1 hx with hx | hx
    · exact h.small x hx
    · simp at hx; omega
  · rcases h.going rfl with ⟨hp, e⟩ | ⟨hp, e⟩
    · subst hp; rw [← e, hr]; rfl
    · rw [e, hr, joinT_snoc t hp]; simp
/-- The last word. -/
theorem Inv.stop {l r r' : List UInt8} {pre : List Nat} {t : Nat} (h : Inv l pre r true) (ht : t < 16) (hl : lastI pre < t) (hr : r = dig t) : Inv l (pre ++ [t]) r' false := by
  refine ⟨fun x hx => ?_, sorted_snoc h.sorted hl, (fun e => by cases e), fun _ => ⟨by simp, ?_⟩⟩
  · rcases List.mem_append.1 hx with hx | hx
    · exact h.small x hx
    · simp at hx; omega
  · rcases h.going rfl with ⟨hp, e⟩ | ⟨hp, e⟩
    · subst hp; rw [← e, hr]; rfl
    · rw [e, hr, joinT_snoc t hp]
/-- Of the text of a set: what is left is the text of a rest that is not empty. -/
theorem Inv.rest {l r : List UInt8} {pre : List Nat} (h : Inv l pre r true) (hm : l ≠ [45]) {s : Nat} (hlt : s < 65536) (hs : textN s = l) : ∃ (t : Nat) (q : List Nat), tagsN s = pre ++ t :: q ∧ t < 16 ∧ lastI pre < t ∧ joinT (t :: q) = r := by
  unfold textN at hs
  by_cases h0 : s = 0
  · rw [if_pos h0] at hs; exact absurd hs.symm hm
  · rw [if_neg h0] at hs
    have key : ∃ q', q' ≠ [] ∧ tagsN s = pre ++ q' ∧ joinT q' = r := by
      rcases h.going rfl with ⟨hp, e⟩ | ⟨hp, e⟩
      · subst hp
        refine ⟨tagsN s, ?_, (List.nil_append _).symm, by rw [hs, e]⟩
        exact tagsN_ne_nil h0 hlt
      · exact joinT_prefix h.small (small_tagsN s) hp (by rw [hs, e])
    obtain ⟨q', hq', e, hj⟩ := key
    cases q' with
    | nil => exact absurd rfl hq'
    | cons t q =>
      refine ⟨t, q, e, small_tagsN s t (by rw [e]; simp), ?_, hj⟩
      have := sorted_tagsN s
      rw [e] at this
      exact lastI_lt (this.sublist (by simp))

theorem Inv.fail_cut {l r a b : List UInt8} {pre : List Nat} (h : Inv l pre r true) (hm : l ≠ [45]) (hr : r = a ++ 44 :: b) (ha : (44 : UInt8) ∉ a) (hbad : ∀ t : Nat, t < 16 → a = dig t → ¬ lastI pre < t) : ∀ s, s < 65536 → textN s ≠ l := by
  intro s hlt hs
  obtain ⟨t, q, e, ht, hl, hj⟩ := h.rest hm hlt hs
  have hc := dig_comma ⟨t, ht⟩
  simp only at hc
  by_cases hq : q = []
  · subst hq
    have e2 : dig t = a ++ 44 :: b := hj.trans hr
    exact hc (by rw [e2]; exact comma_in _ _)
  · rw [joinT_cons t hq, hr] at hj
    exact hbad t ht (cut_unique 44 hc ha hj).1.symm hl
theorem Inv.fail_end {l r : List UInt8} {pre : List Nat} (h : Inv l pre r true) (hm : l ≠ [45]) (hr : (44 : UInt8) ∉ r) (hbad : ∀ t : Nat, t < 16 → r = dig t → ¬ lastI pre < t) : ∀ s, s < 65536 → textN s ≠ l := by
  intro s hlt hs
  obtain ⟨t, q, e, ht, hl, hj⟩ := h.rest hm hlt hs
  by_cases hq : q = []
  · subst hq
    exact hbad t ht hj.symm hl
  · rw [joinT_cons t hq] at hj
    exact hr (by rw [← hj]; exact comma_in _ _)
theorem Inv.done {l r : List UInt8} {pre : List Nat} (h : Inv l pre r false) : setN 0 pre < 65536 ∧ textN (setN 0 pre) = l := by
  obtain ⟨hp, e⟩ := h.over rfl
  refine ⟨setN_lt _ _ (by decide) h.small, ?_⟩
  have ht := tagsN_setN h.small h.sorted
  unfold textN
  rw [if_neg, ht, e]
  intro h0
  rw [h0, tagsN_zero] at ht
  exact hp ht.symm

theorem joinTail_join : ∀ (l : List Nat), l ≠ [] → Lib.joinTail [44] (l.map dig) = 44 :: joinT l
  | [], h => absurd rfl h
  | [t], _ => by simp [Lib.joinTail, joinT]
  | t :: u :: r, _ => by
    have ih := joinTail_join (u :: r) (by simp)
    rw [joinT_cons t (by simp)]
    simp only [Lib.joinTail, List.map_cons, List.flatten_cons] at ih ⊢
    rw [ih]; simp
theorem joinT_join : ∀ (l : List Nat), l ≠ [] → Lib.join (l.map dig) [44] = joinT l
  | [], h => absurd rfl h
  | [t], _ => by rw [List.map_cons, List.map_nil, Lib.join_one]; rfl
  | t :: u :: r, _ => by
    rw [List.map_cons, Lib.join_cons, joinTail_join (u :: r) (by simp), joinT_cons t (by simp)]
theorem joinT_len : ∀ {l : List Nat}, Small l → (joinT l).length ≤ 3 * l.length
  | [], _ => by simp [joinT]
  | [t], h => by
    have := (dig_len ⟨t, h t (by simp)⟩).2
    simp only at this
    simp [joinT]; omega
  | t :: u :: r, h => by
    have h1 := (dig_len ⟨t, h t (by simp)⟩).2
    simp only at h1
    have ih := joinT_len (l := u :: r) (fun x hx => h x (List.mem_cons_of_mem _ hx))
    rw [joinT_cons t (by simp), List.length_append, List.length_cons, List.length_cons]
    omega
theorem textN_len (s : Nat) : (textN s).length ≤ 48 := by
  unfold textN
  have h1 := joinT_len (small_tagsN s)
  have h2 := tagsN_length_le s
  split
  · simp
  · omega

/-- What the reference's parser knows when it comes to the tag t. -/
structure Scan (l : List UInt8) (t : Nat) (pre : List Nat) (r : List UInt8) : Prop where
  inv : Inv l pre r true
  below : ∀ x, x ∈ pre → x < t
  whole : ∀ a, a < 65536 → textN a = l → ∃ q : List Nat, tagsN a = pre ++ q ∧ q ≠ [] ∧ joinT q = r ∧ ∀ x, x ∈ q → t ≤ x
theorem Scan.start {l : List UInt8} (hm : l ≠ [45]) : Scan l 0 [] l := by
  refine ⟨Inv.start l, fun x h => by simp at h, fun a ha hl => ?_⟩
  unfold textN at hl
  by_cases h0 : a = 0
  · rw [if_pos h0] at hl; exact absurd hl.symm hm
  · rw [if_neg h0] at hl
    exact ⟨tagsN a, (List.nil_append _).symm, tagsN_ne_nil h0 ha, hl, fun x _ => Nat.zero_le x⟩
theorem Scan.last {l r : List UInt8} {t : Nat} {pre : List Nat} (h : Scan l t pre r) : lastI pre < (t : Int) := by
  unfold lastI
  cases hg : pre.getLast? with
  | none => simp only []; omega
  | some u =>
    simp only []
    have := h.below u (List.mem_of_getLast? hg)
    omega
theorem Scan.hit {l r : List UInt8} {t : Nat} {pre : List Nat} (h : Scan l t pre r) (ht : t < 16) (hr : r = dig t) : withN (setN 0 pre) t < 65536 ∧ textN (withN (setN 0 pre) t) = l := by
  have := (h.inv.stop (r' := []) ht h.last hr).done
  rwa [setN_snoc] at this
theorem sorted_append_lt {p q : List Nat} (h : (p ++ q).Pairwise (· < ·)) : q.Pairwise (· < ·) := (List.pairwise_append.1 h).2.1
theorem Scan.go {l r r' : List UInt8} {t : Nat} {pre : List Nat} (h : Scan l t pre r) (ht : t < 16) (hr : r = dig t ++ 44 :: r') : Scan l (t + 1) (pre ++ [t]) r' := by
  refine ⟨h.inv.step ht h.last hr, fun x hx => ?_, fun a ha hl => ?_⟩
  · rcases List.mem_append.1 hx with hx | hx
    · have := h.below x hx; omega
    · simp at hx; omega
  · obtain ⟨q, he, hq, hj, hle⟩ := h.whole a ha hl
    have hs := sorted_tagsN a
    rw [he] at hs
    have hs2 := sorted_append_lt hs
    have hsm : ∀ x, x ∈ q → x < 16 := fun x hx => small_tagsN a x (by rw [he]; exact List.mem_append.2 (.inr hx))
    cases q with
    | nil => exact absurd rfl hq
    | cons u q =>
      have hc := dig_comma ⟨u, hsm u (by simp)⟩
      have hc2 := dig_comma ⟨t, ht⟩
      simp only at hc hc2
      by_cases hq0 : q = []
      · subst hq0
        have e2 : dig u = dig t ++ 44 :: r' := hj.trans hr
        exact absurd (by rw [e2]; exact comma_in _ _) hc
      · rw [joinT_cons u hq0, hr] at hj
        obtain ⟨h1, h2⟩ := cut_unique 44 hc hc2 hj
        have hut := dig_inj (hsm u (by simp)) ht h1
        subst hut
        refine ⟨q, by rw [he]; simp, hq0, h2, fun x hx => ?_⟩
        rw [List.pairwise_cons] at hs2
        have := hs2.1 x hx
        omega
theorem Scan.skip {l r : List UInt8} {t : Nat} {pre : List Nat} (h : Scan l t pre r) (_ht : t < 16) (hr1 : r ≠ dig t) (hr2 : ∀ r', r ≠ dig t ++ 44 :: r') : Scan l (t + 1) pre r := by
  refine ⟨h.inv, fun x hx => by have := h.below x hx; omega, fun a ha hl => ?_⟩
  obtain ⟨q, he, hq, hj, hle⟩ := h.whole a ha hl
  refine ⟨q, he, hq, hj, fun x hx => ?_⟩
  have hs := sorted_tagsN a
  rw [he] at hs
  have hs2 := sorted_append_lt hs
  cases q with
  | nil => exact absurd rfl hq
  | cons u q =>
    have hu : u ≠ t := by
      intro e
      subst e
      by_cases hq0 : q = []
      · subst hq0; exact hr1 hj.symm
      · rw [joinT_cons u hq0] at hj; exact hr2 _ hj.symm
    have hu2 := hle u (by simp)
    rw [List.pairwise_cons] at hs2
    rcases List.mem_cons.1 hx with e | e
    · omega
    · have := hs2.1 x e; omega
theorem Scan.fail {l r : List UInt8} {pre : List Nat} (h : Scan l 16 pre r) : ∀ a, a < 65536 → textN a ≠ l := by
  intro a ha hl
  obtain ⟨q, he, hq, _, hle⟩ := h.whole a ha hl
  cases q with
  | nil => exact absurd rfl hq
  | cons u q =>
    have h1 := hle u (by simp)
    have h2 := small_tagsN a u (by rw [he]; simp)
    omega
theorem front_iff {r d : List UInt8} (hf : r.take (d.length + 1) = d ++ [44]) : r = d ++ 44 :: r.drop (d.length + 1) := by
  have := List.take_append_drop (d.length + 1) r
  rw [hf] at this
  rw [← this]; simp
end Go.Proofs.YtcbphjdhafnkmaaDoor
