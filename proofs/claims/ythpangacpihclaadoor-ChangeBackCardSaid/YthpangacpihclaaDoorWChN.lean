/-
  Changes of policies in plain terms: what comes and goes leaves all as it was; what is not seen does not matter.
-/
import Derived.Test.YthpangacpihclaaDoorWChM
/-! ChN -/
namespace Go.Proofs.YthpangacpihclaaDoor

theorem bit_out {n c : Nat} (hn : n < 65536) (hc : ¬ c < 16) : n.testBit c = false := by
  cases h : n.testBit c with
  | false => rfl
  | true => exact absurd (bit_lt hn h) hc
theorem sub_all {a b : Nat} (ha : a < 65536) (h : subB a b = true) : a &&& b = a := by
  apply Nat.eq_of_testBit_eq
  intro t
  rw [Nat.testBit_and]
  cases ht : a.testBit t with
  | false => rfl
  | true => rw [(subB_bits ha).1 h t ht]; rfl
theorem less_none {a b : Nat} (ha : a < 65536) (hb : b < 16) (h : a.testBit b = false) : lessN a (withN 0 b) = a := by
  apply Nat.eq_of_testBit_eq
  intro t
  rw [lessN_bit ha (withN_lt (by decide) hb), one_bit]
  by_cases e : b = t
  · subst e; rw [h]; rfl
  · simp [e]
theorem less_with {a b : Nat} (ha : a < 65536) (hb : b < 16) (h : a.testBit b = false) : lessN (withN a b) (withN 0 b) = a := by
  apply Nat.eq_of_testBit_eq
  intro t
  rw [lessN_bit (withN_lt ha hb) (withN_lt (by decide) hb), one_bit, withN_bit]
  by_cases e : b = t
  · subst e; rw [h]; simp
  · simp [e]
/-- What is mended of a policy that differs from a valid one in dead roles alone. -/
theorem mend_back {p q : Pol} (hp : PolOk p) (hf : fineP p = true) (hl : q.live = p.live) (hA : q.active = p.active) (ho : ∀ t, t < 16 → q.owner t = p.owner t) (hr : ∀ r, r < 16 → p.live.testBit r = true → q.s r = p.s r ∧ q.i r = p.i r ∧ q.acts r = p.acts r) : polC (mendN q) = polC p := by
  obtain ⟨h1, h2, h3, h4⟩ := fine_spec.1 hf
  refine polC_congr hl (fun r hr16 => ?_) (fun t ht => ?_) hA
  · have es : (mendN q).s r = mSet q q.s r := uptoN_in hr16
    have ei : (mendN q).i r = mSet q q.i r := uptoN_in hr16
    have ea : (mendN q).acts r = mAct q r := uptoN_in hr16
    rw [es, ei, ea]
    unfold mSet mAct
    rw [hl, hA]
    cases hlive : p.live.testBit r with
    | false =>
      obtain ⟨e1, e2, e3⟩ := h1 r hr16 hlive
      rw [e1, e2, e3]; simp
    | true =>
      obtain ⟨e1, e2, e3⟩ := hr r hr16 hlive
      have hs := h2 r hr16
      rw [subB_or_iff, Bool.and_eq_true] at hs
      rw [if_pos rfl, if_pos rfl, if_pos rfl, e1, e2, e3, sub_all (hp.s r hr16) hs.1, sub_all (hp.i r hr16) hs.2, sub_all (hp.acts r hr16) (h3 r hr16).1, less_none (hp.acts r hr16) hr16 (h3 r hr16).2]
      exact ⟨rfl, rfl, rfl⟩
  · have eo : (mendN q).owner t = mOwn q t := uptoN_in ht
    rw [eo]
    unfold mOwn
    rw [hl, hA, ho t ht]
    rcases (h4 t ht).2 with e | ⟨e1, e2⟩
    · rw [e]; split <;> rfl
    · rw [e1, e2]; simp
theorem drop_back {p q : Pol} {a : Nat} (hp : PolOk p) (hf : fineP p = true) (ha : a < 16) (hn : p.live.testBit a = false) (hl : q.live = withN p.live a) (hA : q.active = p.active) (ho : ∀ t, t < 16 → q.owner t = p.owner t) (hr : ∀ r, r < 16 → r ≠ a → q.s r = p.s r ∧ q.i r = p.i r ∧ q.acts r = p.acts r) : polC (dropP q a) = polC p := by
  refine mend_back hp hf ?_ hA ho fun r hr16 hlive => hr r hr16 fun e => ?_
  · show lessN q.live (withN 0 a) = p.live
    rw [hl, less_with hp.live ha hn]
  · rw [e, hn] at hlive; cases hlive
theorem addE_dead {p : Pol} {a s i : Nat} (h : addE p a s i = 0) : p.live.testBit a = false := by
  unfold addE at h
  cases hl : p.live.testBit a with
  | false => rfl
  | true => rw [hl, if_pos rfl] at h; cases h
theorem add_back {p : Pol} {a s i : Nat} (hp : PolOk p) (hf : fineP p = true) (ha : a < 16) (h : addE p a s i = 0) : polC (dropP (addP p a s i) a) = polC p :=
  drop_back hp hf ha (addE_dead h) rfl rfl (fun _ _ => rfl) fun _ _ hne => ⟨upd_other p.s s hne, upd_other p.i i hne, rfl⟩
theorem add_link_back {p : Pol} {a b s i : Nat} (hp : PolOk p) (hf : fineP p = true) (ha : a < 16) (h : addE p a s i = 0) : polC (dropP (linkP (addP p a s i) a b) a) = polC p :=
  drop_back hp hf ha (addE_dead h) rfl rfl (fun _ _ => rfl) fun _ _ hne => ⟨upd_other p.s s hne, upd_other p.i i hne, upd_other p.acts _ hne⟩
theorem linkE_ok {p : Pol} {a b : Nat} (h : linkE p a b = 0) : p.live.testBit a = true ∧ p.live.testBit b = true ∧ a ≠ b ∧ (p.acts a).testBit b = false := by
  unfold linkE at h
  split at h
  rotate_left
  · cases h
  rename_i hl
  rw [Bool.and_eq_true] at hl
  split at h
  · cases h
  rename_i hab
  split at h
  · cases h
  rename_i hacts
  exact ⟨hl.1, hl.2, hab, by simpa using hacts⟩
theorem link_back {p : Pol} {a b : Nat} (hp : PolOk p) (ha : a < 16) (hb : b < 16) (h : linkE p a b = 0) : unlE (linkP p a b) a b = 0 ∧ polC (unlP (linkP p a b) a b) = polC p := by
  obtain ⟨-, -, -, h4⟩ := linkE_ok h
  have e1 : (linkP p a b).acts a = withN (p.acts a) b := upd_same _ _ _
  refine ⟨?_, ?_⟩
  · unfold unlE
    rw [e1, if_pos (by rw [withN_bit]; simp)]
  · refine polC_congr rfl (fun r hr => ⟨rfl, rfl, ?_⟩) (fun _ _ => rfl) rfl
    show upd (linkP p a b).acts a (lessN ((linkP p a b).acts a) (withN 0 b)) r = p.acts r
    by_cases e : r = a
    · subst e
      rw [upd_same, e1, less_with (hp.acts r ha) hb h4]
    · rw [upd_other _ _ e]; exact upd_other _ _ e
/-- Under the top label all are seen. -/
theorem seen_top {p : Pol} (hp : PolOk p) : seenN p 65535 0 = p.live := by
  apply Nat.eq_of_testBit_eq
  intro t
  rw [seenN_bit]
  unfold seenB flowsB
  by_cases ht : t < 16
  · rw [decide_eq_true ht, subB_all (hp.s t ht), subB_zero]; simp
  · rw [decide_eq_false ht, bit_out hp.live ht]; rfl
theorem link_acts {p : Pol} {a b : Nat} (hp : PolOk p) (ha : a < 16) (hb : b < 16) (h : linkE p a b = 0) : actsB (linkP p a b) a b 65535 0 = true := by
  obtain ⟨h1, h2, h3, h4⟩ := linkE_ok h
  have hq : PolOk (linkP p a b) := ⟨hp.live, hp.active, hp.s, hp.i, upd_lt hp.acts (withN_lt (hp.acts a ha) hb), hp.owner⟩
  unfold actsB
  rw [if_neg (by omega), seen_top hq, hasB_bit, Int.toNat_natCast, show (linkP p a b).live = p.live from rfl, downN_bit hp.live]
  refine ⟨a, by rw [one_bit]; simp, (Rch.refl h1).step ?_⟩
  unfold edgeB
  rw [show (linkP p a b).acts a = withN (p.acts a) b from upd_same _ _ _, withN_bit]
  rw [h1, h2]; simp
theorem own_back {p : Pol} {a b : Nat} (hf : fineP p = true) (ha : a < 16) (h : ownE p a b = 0) : p.owner a ≤ 16 ∧ ownE (ownrP p a b) a (p.owner a) = 0 ∧ polC (ownrP (ownrP p a b) a (p.owner a)) = polC p := by
  obtain ⟨h1, h2, h3, h4⟩ := fine_spec.1 hf
  have hA : p.active.testBit a = true := by
    unfold ownE at h
    split at h
    · assumption
    · cases h
  refine ⟨(h4 a ha).1, ?_, ?_⟩
  · unfold ownE
    rw [if_pos (show (ownrP p a b).active.testBit a = true from hA), if_neg]
    rintro ⟨e1, e2⟩
    rcases (h4 a ha).2 with e | ⟨e3, -⟩
    · omega
    · rw [show (ownrP p a b).live = p.live from rfl, e3] at e2; cases e2
  · refine polC_congr rfl (fun _ _ => ⟨rfl, rfl, rfl⟩) (fun t _ => ?_) rfl
    show upd (upd p.owner a b) a (p.owner a) t = p.owner t
    rw [upd_upd]
    by_cases e : t = a
    · subst e; rw [upd_same]
    · rw [upd_other _ _ e]

/-! What is not seen does not matter. -/
theorem caps_cells {p q : Pol} (h : polC p = polC q) (a : Int) (x y : Nat) : capsN p a x y = capsN q a x y := by
  have hs : seenN p x y = seenN q x y := by
    apply Nat.eq_of_testBit_eq
    intro t
    rw [seenN_bit, seenN_bit]
    by_cases ht : t < 16
    · unfold seenB; rw [same_live h, same_s h ht, same_i h ht]
    · rw [decide_eq_false ht, Bool.false_and, Bool.false_and]
  have hac : ∀ b, actsB p a b x y = actsB q a b x y := fun b => by
    unfold actsB
    rw [hs]
    split
    · rfl
    · rw [down_congr (g := q.acts) (seenN_lt q x y) fun c d => ?_]
      unfold edgeB
      by_cases hc : c < 16
      · rw [same_acts h hc]
      · rw [bit_out (seenN_lt q x y) hc, Bool.false_and, Bool.false_and, Bool.false_and]
  apply Nat.eq_of_testBit_eq
  intro t
  rw [caps_bit, caps_bit]
  by_cases ht : t < 16
  · unfold capB; rw [same_active h, same_owner h ht, hac]
  · rw [decide_eq_false ht, Bool.false_and, Bool.false_and]
theorem hide_all {p q : Pol} {x y : Nat} (hC : polC (cutP p (seenN p x y)) = polC (cutP q (seenN q x y))) (a : Int) : capsN p a x y = capsN q a x y := by
  rw [← cut_caps p, ← cut_caps q]
  exact caps_cells hC a x y
theorem cut_same {p q : Pol} {S : Nat} (hA : p.active = q.active) (hr : ∀ r, r < 16 → S.testBit r = true → p.s r = q.s r ∧ p.i r = q.i r ∧ p.acts r &&& S = q.acts r &&& S) (ho : ∀ t, t < 16 → (S.testBit (p.owner t) = true ∨ S.testBit (q.owner t) = true) → p.owner t = q.owner t) : polC (cutP p S) = polC (cutP q S) := by
  refine polC_congr rfl (fun r hr16 => ?_) (fun t ht => ?_) hA
  · rw [cut_s hr16, cut_s hr16, cut_i hr16, cut_i hr16, cut_acts, cut_acts]
    unfold cSet cutF
    cases hs : S.testBit r with
    | false => simp
    | true => obtain ⟨e1, e2, e3⟩ := hr r hr16 hs; rw [if_pos rfl, if_pos rfl, if_pos rfl, if_pos rfl, if_pos rfl, if_pos rfl, e1, e2, e3]; exact ⟨rfl, rfl, rfl⟩
  · rw [cut_owner ht, cut_owner ht]
    unfold cOwn
    by_cases h1 : S.testBit (p.owner t) = true
    · rw [ho t ht (.inl h1)]
    · by_cases h2 : S.testBit (q.owner t) = true
      · rw [ho t ht (.inr h2)]
      · rw [if_neg h1, if_neg h2]
theorem seen_same {p q : Pol} {x y a : Nat} (h : ∀ r, r < 16 → r ≠ a → seenB p x y r = seenB q x y r) (ha : (seenN p x y).testBit a = false) (hb : (seenN q x y).testBit a = false) : seenN p x y = seenN q x y := by
  apply Nat.eq_of_testBit_eq
  intro t
  by_cases e : t = a
  · rw [e, ha, hb]
  · rw [seenN_bit, seenN_bit]
    by_cases ht : t < 16
    · rw [h t ht e]
    · rw [decide_eq_false ht, Bool.false_and, Bool.false_and]
theorem add_hides {p : Pol} {a s i x y : Nat} (h1 : (seenN p x y).testBit a = false) (h2 : (seenN (addP p a s i) x y).testBit a = false) : seenN p x y = seenN (addP p a s i) x y ∧ polC (cutP p (seenN p x y)) = polC (cutP (addP p a s i) (seenN (addP p a s i) x y)) := by
  have hs : seenN p x y = seenN (addP p a s i) x y := seen_same (fun r _ hne => by
    unfold seenB
    rw [show (addP p a s i).live = withN p.live a from rfl, withN_bit, show (addP p a s i).s r = p.s r from upd_other _ _ hne, show (addP p a s i).i r = p.i r from upd_other _ _ hne, show decide (a = r) = false by simpa using fun e : a = r => hne e.symm, Bool.or_false]) h1 h2
  refine ⟨hs, ?_⟩
  rw [← hs]
  refine cut_same rfl (fun r _ hr => ?_) fun _ _ _ => rfl
  have hne : r ≠ a := fun e => by rw [e, h1] at hr; cases hr
  exact ⟨(upd_other _ _ hne).symm, (upd_other _ _ hne).symm, rfl⟩
theorem drop_owner {p : Pol} {a t : Nat} (ht : t < 16) : (dropP p a).owner t = if ((lessN p.live (withN 0 a)).testBit (p.owner t) && p.active.testBit t) = true then p.owner t else 16 := by
  unfold dropP mendN mendT
  show uptoN _ _ 16 t = _
  rw [uptoN_in ht]
  rfl
theorem drop_hides {p : Pol} {a x y : Nat} (hp : PolOk p) (hf : fineP p = true) (ha : a < 16) (h1 : (seenN p x y).testBit a = false) (h2 : (seenN (dropP p a) x y).testBit a = false) : seenN p x y = seenN (dropP p a) x y ∧ polC (cutP p (seenN p x y)) = polC (cutP (dropP p a) (seenN (dropP p a) x y)) := by
  obtain ⟨f1, f2, f3, f4⟩ := fine_spec.1 hf
  have hlb : ∀ r, r ≠ a → (lessN p.live (withN 0 a)).testBit r = p.live.testBit r := fun r hne => by
    rw [lessN_bit hp.live (withN_lt (by decide) ha), one_bit, show decide (a = r) = false by simpa using fun e : a = r => hne e.symm]; simp
  have es : ∀ r, r < 16 → r ≠ a → p.live.testBit r = true → (dropP p a).s r = p.s r ∧ (dropP p a).i r = p.i r := fun r hr hne hl => by
    have e1 : (dropP p a).s r = mSet { p with live := lessN p.live (withN 0 a) } p.s r := uptoN_in hr
    have e2 : (dropP p a).i r = mSet { p with live := lessN p.live (withN 0 a) } p.i r := uptoN_in hr
    have hs := f2 r hr
    rw [subB_or_iff, Bool.and_eq_true] at hs
    rw [e1, e2]
    unfold mSet
    rw [if_pos (by rw [hlb r hne]; exact hl), if_pos (by rw [hlb r hne]; exact hl), sub_all (hp.s r hr) hs.1, sub_all (hp.i r hr) hs.2]
    exact ⟨rfl, rfl⟩
  have hs : seenN p x y = seenN (dropP p a) x y := seen_same (fun r hr hne => by
    unfold seenB
    rw [show (dropP p a).live = lessN p.live (withN 0 a) from rfl, hlb r hne]
    cases hl : p.live.testBit r with
    | false => rw [Bool.false_and, Bool.false_and]
    | true => rw [(es r hr hne hl).1, (es r hr hne hl).2]) h1 h2
  refine ⟨hs, ?_⟩
  rw [← hs]
  refine cut_same rfl (fun r hr hS => ?_) fun t ht hS => ?_
  · have hne : r ≠ a := fun e => by rw [e, h1] at hS; cases hS
    have hl := seen_live hS
    refine ⟨(es r hr hne hl).1.symm, (es r hr hne hl).2.symm, ?_⟩
    have e3 : (dropP p a).acts r = mAct { p with live := lessN p.live (withN 0 a) } r := uptoN_in hr
    rw [e3]
    unfold mAct
    rw [if_pos (by rw [hlb r hne]; exact hl)]
    apply Nat.eq_of_testBit_eq
    intro t
    rw [Nat.testBit_and, Nat.testBit_and, lessN_bit (and_lt _ (hp.acts r hr)) (withN_lt (by decide) hr), Nat.testBit_and, one_bit]
    cases ht : (seenN p x y).testBit t with
    | false => simp
    | true =>
      have hta : t ≠ a := fun e => by rw [e, h1] at ht; cases ht
      rw [hlb t hta, seen_live ht]
      by_cases e : r = t
      · subst e; rw [(f3 r hr).2]; simp
      · simp [e]
  · have ho := (f4 t ht).2
    have hn : (seenN p x y).testBit 16 = false := bit_out (seenN_lt p x y) (by decide)
    rw [drop_owner ht] at hS ⊢
    rcases ho with e | ⟨e1, e2⟩
    · rw [e] at hS ⊢
      split <;> rfl
    · by_cases hne : p.owner t = a
      · rw [hne, h1] at hS
        rcases hS with hS | hS
        · cases hS
        · split at hS
          · rw [h1] at hS; cases hS
          · rw [hn] at hS; cases hS
      · rw [if_pos (by rw [hlb _ hne, e1, e2]; rfl)]
theorem acts_hides {p : Pol} {a b v x y : Nat} (h : (seenN p x y).testBit a = false ∨ (seenN p x y).testBit b = false) (hv : ∀ t, t ≠ b → v.testBit t = (p.acts a).testBit t) : seenN p x y = seenN (p.putA a v) x y ∧ polC (cutP p (seenN p x y)) = polC (cutP (p.putA a v) (seenN (p.putA a v) x y)) := by
  refine ⟨rfl, ?_⟩
  rw [show seenN (p.putA a v) x y = seenN p x y from rfl]
  refine cut_same rfl (fun r _ hS => ⟨rfl, rfl, ?_⟩) fun _ _ _ => rfl
  show p.acts r &&& _ = upd p.acts a v r &&& _
  by_cases e : r = a
  · subst e
    rw [upd_same]
    have hb : (seenN p x y).testBit b = false := by
      rcases h with h | h
      · rw [hS] at h; cases h
      · exact h
    apply Nat.eq_of_testBit_eq
    intro t
    rw [Nat.testBit_and, Nat.testBit_and]
    by_cases et : t = b
    · rw [et, hb]; simp
    · rw [hv t et]
  · rw [upd_other _ _ e]
theorem link_hides {p : Pol} {a b x y : Nat} (h : (seenN p x y).testBit a = false ∨ (seenN p x y).testBit b = false) : seenN p x y = seenN (linkP p a b) x y ∧ polC (cutP p (seenN p x y)) = polC (cutP (linkP p a b) (seenN (linkP p a b) x y)) :=
  acts_hides h fun t hne => by rw [withN_bit, show decide (b = t) = false by simpa using fun e : b = t => hne e.symm, Bool.or_false]
theorem unl_hides {p : Pol} {a b x y : Nat} (hp : PolOk p) (ha : a < 16) (hb : b < 16) (h : (seenN p x y).testBit a = false ∨ (seenN p x y).testBit b = false) : seenN p x y = seenN (unlP p a b) x y ∧ polC (cutP p (seenN p x y)) = polC (cutP (unlP p a b) (seenN (unlP p a b) x y)) :=
  acts_hides h fun t hne => by rw [lessN_bit (hp.acts a ha) (withN_lt (by decide) hb), one_bit, show decide (b = t) = false by simpa using fun e : b = t => hne e.symm]; simp
end Go.Proofs.YthpangacpihclaaDoor
