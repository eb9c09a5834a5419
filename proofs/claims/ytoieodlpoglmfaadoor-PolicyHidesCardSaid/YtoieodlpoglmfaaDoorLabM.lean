/-
  Labels as pairs of sets: plain facts on flows, bounds, the order and the texts.
-/
import Derived.Test.YtoieodlpoglmfaaDoorSetM
namespace Go.Proofs.YtoieodlpoglmfaaDoor

/-- The label with S a, I b flows into the one with S c, I d. -/
def flowsB (a b c d : Nat) : Bool := subB a c && subB d b
theorem flowsB_refl (a b : Nat) : flowsB a b a b = true := by unfold flowsB; rw [subB_refl, subB_refl]; rfl
theorem flowsB_trans {a b c d e f : Nat} (h1 : flowsB a b c d = true) (h2 : flowsB c d e f = true) : flowsB a b e f = true := by
  unfold flowsB at *
  rw [Bool.and_eq_true] at *
  exact ⟨subB_trans h1.1 h2.1, subB_trans h2.2 h1.2⟩
theorem flowsB_antisymm {a b c d : Nat} (ha : a < 65536) (hb : b < 65536) (hc : c < 65536) (hd : d < 65536) (h1 : flowsB a b c d = true) (h2 : flowsB c d a b = true) : a = c ∧ b = d := by
  unfold flowsB at *
  rw [Bool.and_eq_true] at *
  exact ⟨subB_antisymm ha hc h1.1 h2.1, subB_antisymm hb hd h2.2 h1.2⟩
theorem flowsB_bottom {a b : Nat} (hb : b < 65536) : flowsB 0 65535 a b = true := by unfold flowsB; rw [subB_zero, subB_all hb]; rfl
theorem flowsB_top {a b : Nat} (ha : a < 65536) : flowsB a b 65535 0 = true := by unfold flowsB; rw [subB_zero, subB_all ha]; rfl

/-- Tag by tag. -/
theorem flowsB_iff {a b c d : Nat} : flowsB a b c d = true ↔ ∀ t, t < 16 → (a.testBit t = true → c.testBit t = true) ∧ (d.testBit t = true → b.testBit t = true) := by
  unfold flowsB
  rw [Bool.and_eq_true, subB_iff, subB_iff]
  exact ⟨fun h t ht => ⟨h.1 t ht, h.2 t ht⟩, fun h => ⟨fun t ht => (h t ht).1, fun t ht => (h t ht).2⟩⟩

theorem flowsB_join (a b c d e f : Nat) : flowsB (a ||| c) (b &&& d) e f = (flowsB a b e f && flowsB c d e f) := by
  unfold flowsB
  rw [subB_or_iff, subB_and_iff]
  cases subB a e <;> cases subB c e <;> cases subB f b <;> cases subB f d <;> rfl
theorem flowsB_meet (a b c d e f : Nat) : flowsB e f (a &&& c) (b ||| d) = (flowsB e f a b && flowsB e f c d) := by
  unfold flowsB
  rw [subB_or_iff, subB_and_iff]
  cases subB e a <;> cases subB e c <;> cases subB b f <;> cases subB d f <;> rfl
theorem flowsB_join_left (a b c d : Nat) : flowsB a b (a ||| c) (b &&& d) = true := by unfold flowsB; rw [subB_or_left, subB_and_left]; rfl
theorem flowsB_join_right (a b c d : Nat) : flowsB c d (a ||| c) (b &&& d) = true := by unfold flowsB; rw [subB_or_right, subB_and_right]; rfl
theorem flowsB_meet_left (a b c d : Nat) : flowsB (a &&& c) (b ||| d) a b = true := by unfold flowsB; rw [subB_or_left, subB_and_left]; rfl
theorem flowsB_meet_right (a b c d : Nat) : flowsB (a &&& c) (b ||| d) c d = true := by unfold flowsB; rw [subB_or_right, subB_and_right]; rfl

theorem all_and {b : Nat} (hb : b < 65536) : 65535 &&& b = b := by
  apply Nat.eq_of_testBit_eq; intro t
  rw [Nat.testBit_and, show (65535 : Nat) = 2 ^ 16 - 1 from rfl, Nat.testBit_two_pow_sub_one]
  cases h : b.testBit t
  · simp
  · have := bit_lt hb h; simp [this]
theorem or_and_self (a c : Nat) : a ||| (a &&& c) = a := by
  apply Nat.eq_of_testBit_eq; intro t
  rw [Nat.testBit_or, Nat.testBit_and]; cases a.testBit t <;> cases c.testBit t <;> rfl
theorem and_or_self (a c : Nat) : a &&& (a ||| c) = a := by
  apply Nat.eq_of_testBit_eq; intro t
  rw [Nat.testBit_and, Nat.testBit_or]; cases a.testBit t <;> cases c.testBit t <;> rfl

/-- How two labels stand in order. -/
def cmpL (a b c d : Nat) : Int := if a = c ∧ b = d then 0 else if a < c ∨ (a = c ∧ b < d) then -1 else 1
theorem cmpL_eq {a b c d : Nat} (h : a = c ∧ b = d) : cmpL a b c d = 0 := if_pos h
theorem cmpL_lt {a b c d : Nat} (h : a < c ∨ (a = c ∧ b < d)) : cmpL a b c d = -1 := by
  unfold cmpL; rw [if_neg (by omega), if_pos h]
theorem cmpL_gt {a b c d : Nat} (h1 : ¬ (a = c ∧ b = d)) (h : ¬ (a < c ∨ (a = c ∧ b < d))) : cmpL a b c d = 1 := by
  unfold cmpL; rw [if_neg h1, if_neg h]
theorem cmpL_anti (a b c d : Nat) : cmpL a b c d = -cmpL c d a b := by
  unfold cmpL
  by_cases h1 : a = c ∧ b = d
  · rw [if_pos h1, if_pos (by omega)]; rfl
  · rw [if_neg h1, if_neg (by omega : ¬ (c = a ∧ d = b))]
    by_cases h2 : a < c ∨ (a = c ∧ b < d)
    · rw [if_pos h2, if_neg (by omega)]
    · rw [if_neg h2, if_pos (by omega)]; rfl
theorem cmpL_bounds (a b c d : Nat) : -1 ≤ cmpL a b c d ∧ cmpL a b c d ≤ 1 := by
  unfold cmpL
  repeat' split
  all_goals decide
theorem cmpL_neg {a b c d : Nat} : cmpL a b c d < 0 ↔ (a < c ∨ (a = c ∧ b < d)) := by
  unfold cmpL
  by_cases h1 : a = c ∧ b = d
  · rw [if_pos h1]; constructor <;> intro h <;> omega
  · rw [if_neg h1]
    by_cases h2 : a < c ∨ (a = c ∧ b < d)
    · rw [if_pos h2]; exact ⟨fun _ => h2, fun _ => by decide⟩
    · rw [if_neg h2]; exact ⟨fun h => absurd h (by decide), fun h => absurd h h2⟩
theorem cmpL_trans {a b c d e f : Nat} (h1 : cmpL a b c d < 0) (h2 : cmpL c d e f < 0) : cmpL a b e f < 0 := by
  rw [cmpL_neg] at *; omega

/-- Of many labels together, and what they have all. -/
def joinS (s : Nat) (l : List (Nat × Nat)) : Nat := l.foldl (fun s x => s ||| x.1) s
def joinI (i : Nat) (l : List (Nat × Nat)) : Nat := l.foldl (fun s x => s &&& x.2) i
def meetS (s : Nat) (l : List (Nat × Nat)) : Nat := l.foldl (fun s x => s &&& x.1) s
def meetI (i : Nat) (l : List (Nat × Nat)) : Nat := l.foldl (fun s x => s ||| x.2) i
def SmallL (l : List (Nat × Nat)) : Prop := ∀ x, x ∈ l → x.1 < 65536 ∧ x.2 < 65536
theorem take_snocL {α : Type} (l : List α) (k : Nat) (h : k < l.length) : l.take (k + 1) = l.take k ++ [l[k]] := List.take_succ_eq_append_getElem h
theorem joinS_snoc (s : Nat) (l : List (Nat × Nat)) (x : Nat × Nat) : joinS s (l ++ [x]) = joinS s l ||| x.1 := by simp [joinS]
theorem joinI_snoc (s : Nat) (l : List (Nat × Nat)) (x : Nat × Nat) : joinI s (l ++ [x]) = joinI s l &&& x.2 := by simp [joinI]
theorem meetS_snoc (s : Nat) (l : List (Nat × Nat)) (x : Nat × Nat) : meetS s (l ++ [x]) = meetS s l &&& x.1 := by simp [meetS]
theorem meetI_snoc (s : Nat) (l : List (Nat × Nat)) (x : Nat × Nat) : meetI s (l ++ [x]) = meetI s l ||| x.2 := by simp [meetI]
theorem joinS_lt : ∀ {l : List (Nat × Nat)} {s : Nat}, SmallL l → s < 65536 → joinS s l < 65536
  | [], _, _, h => h
  | x :: r, s, hl, h => joinS_lt (l := r) (s := s ||| x.1) (fun y hy => hl y (List.mem_cons_of_mem _ hy)) (or_lt h (hl x (by simp)).1)
theorem meetI_lt : ∀ {l : List (Nat × Nat)} {s : Nat}, SmallL l → s < 65536 → meetI s l < 65536
  | [], _, _, h => h
  | x :: r, s, hl, h => meetI_lt (l := r) (s := s ||| x.2) (fun y hy => hl y (List.mem_cons_of_mem _ hy)) (or_lt h (hl x (by simp)).2)
theorem joinI_lt : ∀ {l : List (Nat × Nat)} {s : Nat}, s < 65536 → joinI s l < 65536
  | [], _, h => h
  | x :: r, s, h => joinI_lt (l := r) (s := s &&& x.2) (and_lt _ h)
theorem meetS_lt : ∀ {l : List (Nat × Nat)} {s : Nat}, s < 65536 → meetS s l < 65536
  | [], _, h => h
  | x :: r, s, h => meetS_lt (l := r) (s := s &&& x.1) (and_lt _ h)
theorem SmallL.take {l : List (Nat × Nat)} (h : SmallL l) (k : Nat) : SmallL (l.take k) := fun x hx => h x (List.mem_of_mem_take hx)
theorem SmallL.at {l : List (Nat × Nat)} (h : SmallL l) (k : Nat) (hk : k < l.length) : l[k].1 < 65536 ∧ l[k].2 < 65536 := h _ (List.getElem_mem hk)

/-- The text of a label. -/
def textL (a b : Nat) : List UInt8 := textN a ++ 47 :: textN b
theorem dig_slash : ∀ t : Fin 16, (47 : UInt8) ∉ dig t.val := by decide +kernel
theorem joinT_slash : ∀ {l : List Nat}, Small l → (47 : UInt8) ∉ joinT l
  | [], _ => by simp [joinT]
  | t :: r, h => by
    have h1 := dig_slash ⟨t, h t (by simp)⟩
    simp only at h1
    by_cases hr : r = []
    · subst hr; exact h1
    · rw [joinT_cons t hr]
      have h2 := joinT_slash (l := r) (fun x hx => h x (List.mem_cons_of_mem _ hx))
      simp [h1, h2]
theorem textN_slash (a : Nat) : (47 : UInt8) ∉ textN a := by
  unfold textN
  split
  · decide
  · exact joinT_slash (small_tagsN a)
theorem textL_inj {a b c d : Nat} (ha : a < 65536) (hb : b < 65536) (hc : c < 65536) (hd : d < 65536) (h : textL a b = textL c d) : a = c ∧ b = d := by
  obtain ⟨h1, h2⟩ := cut_unique 47 (textN_slash a) (textN_slash c) h
  exact ⟨textN_inj ha hc h1, textN_inj hb hd h2⟩
theorem textL_parts {a b : Nat} {x y : List UInt8} (hx : (47 : UInt8) ∉ x) (h : textL a b = x ++ 47 :: y) : textN a = x ∧ textN b = y := cut_unique 47 (textN_slash a) hx h
theorem textL_mem (a b : Nat) : (47 : UInt8) ∈ textL a b := by unfold textL; simp

end Go.Proofs.YtoieodlpoglmfaaDoor
