/-
  Changes of policies in plain terms: which may be, what they do, and why they may not.
-/
import Derived.Test.YthpangacpihclaaDoorW3
import Derived.Test.YthpangacpihclaaDoorW1
/-! ChM -/
namespace Go.Proofs.YthpangacpihclaaDoor

/-- A change. -/
structure Cg where
  kind : Int
  a : Int
  b : Int
  s : Nat
  i : Nat
structure CgOk (c : Cg) : Prop where
  kind : -9223372036854775808 ≤ c.kind ∧ c.kind ≤ 9223372036854775807
  a : -9223372036854775808 ≤ c.a ∧ c.a ≤ 9223372036854775807
  b : -9223372036854775808 ≤ c.b ∧ c.b ≤ 9223372036854775807
  s : c.s < 65536
  i : c.i < 65536
/-- What B may be at most. -/
def mostN (k : Nat) : Int := if k = 3 ∨ k = 4 ∨ k = 6 then 15 else if k = 5 then 16 else 0
def cgB (c : Cg) : Bool := decide (1 ≤ c.kind) && decide (c.kind ≤ 6) && decide (0 ≤ c.a) && decide (c.a ≤ 15) && decide (0 ≤ c.b) && (decide (c.kind = 1) || (decide (c.s = 0) && decide (c.i = 0))) && decide (c.b ≤ mostN c.kind.toNat)
theorem cgB_iff {c : Cg} : cgB c = true ↔ 1 ≤ c.kind ∧ c.kind ≤ 6 ∧ 0 ≤ c.a ∧ c.a ≤ 15 ∧ 0 ≤ c.b ∧ (c.kind = 1 ∨ (c.s = 0 ∧ c.i = 0)) ∧ c.b ≤ mostN c.kind.toNat := by
  unfold cgB
  simp only [Bool.and_eq_true, Bool.or_eq_true, decide_eq_true_eq]
  constructor
  · rintro ⟨⟨⟨⟨⟨⟨h1, h2⟩, h3⟩, h4⟩, h5⟩, h6⟩, h7⟩; exact ⟨h1, h2, h3, h4, h5, h6, h7⟩
  · rintro ⟨h1, h2, h3, h4, h5, h6, h7⟩; exact ⟨⟨⟨⟨⟨⟨h1, h2⟩, h3⟩, h4⟩, h5⟩, h6⟩, h7⟩

/-! The effects, and their errors. -/
def addE (p : Pol) (a s i : Nat) : Int := if p.live.testBit a = true then 7 else if subB (s ||| i) p.active = true then 0 else 8
def addP (p : Pol) (a s i : Nat) : Pol := ⟨withN p.live a, upd p.s a s, upd p.i a i, p.acts, p.owner, p.active⟩
def dropE (p : Pol) (a : Nat) : Int := if p.live.testBit a = true then 0 else 6
def dropP (p : Pol) (a : Nat) : Pol := mendN { p with live := lessN p.live (withN 0 a) }
def linkE (p : Pol) (a b : Nat) : Int := if (p.live.testBit a && p.live.testBit b) = true then (if a = b then 1 else if (p.acts a).testBit b = true then 7 else 0) else 6
def linkP (p : Pol) (a b : Nat) : Pol := p.putA a (withN (p.acts a) b)
def unlE (p : Pol) (a b : Nat) : Int := if (p.acts a).testBit b = true then 0 else 6
def unlP (p : Pol) (a b : Nat) : Pol := p.putA a (lessN (p.acts a) (withN 0 b))
def ownE (p : Pol) (a b : Nat) : Int := if p.active.testBit a = true then (if b < 16 ∧ p.live.testBit b = false then 6 else 0) else 6
def ownrP (p : Pol) (a b : Nat) : Pol := p.putO a b
def revE (p : Pol) (a b : Nat) : Int := if (p.active.testBit a && p.active.testBit b) = true then (if a = b then 1 else 0) else 6
def revP (p : Pol) (a b : Nat) : Pol := mapP p (moveF idF a b)
/-- The effect's error, and what the policy is with it, by kind. -/
def effE (p : Pol) (k a b s i : Nat) : Int :=
  if k = 1 then addE p a s i else if k = 2 then dropE p a else if k = 3 then linkE p a b else if k = 4 then unlE p a b else if k = 5 then ownE p a b else revE p a b
def effP (p : Pol) (k a b s i : Nat) : Pol :=
  if k = 1 then addP p a s i else if k = 2 then dropP p a else if k = 3 then linkP p a b else if k = 4 then unlP p a b else if k = 5 then ownrP p a b else revP p a b
def oneE (p : Pol) (c : Cg) : Int := if cgB c = true then effE p c.kind.toNat c.a.toNat c.b.toNat c.s c.i else 3
def oneP (p : Pol) (c : Cg) : Pol := if oneE p c = 0 then effP p c.kind.toNat c.a.toNat c.b.toNat c.s c.i else zeroP

/-! A valid policy, word by word. -/
theorem fine_spec {p : Pol} : fineP p = true ↔ (∀ r, r < 16 → p.live.testBit r = false → p.s r = 0 ∧ p.i r = 0 ∧ p.acts r = 0) ∧ (∀ r, r < 16 → subB (p.s r ||| p.i r) p.active = true) ∧ (∀ r, r < 16 → subB (p.acts r) p.live = true ∧ (p.acts r).testBit r = false) ∧ (∀ t, t < 16 → p.owner t ≤ 16 ∧ (p.owner t = 16 ∨ (p.live.testBit (p.owner t) = true ∧ p.active.testBit t = true))) := by
  rw [fine_iff]
  constructor
  · rintro ⟨h1, h2⟩
    refine ⟨fun r hr hl => ?_, fun r hr => ?_, fun r hr => ?_, fun t ht => ?_⟩
    · have h := h1 r hr
      unfold roleB nilB at h
      rw [hl] at h
      simp only [Bool.false_or, Bool.and_eq_true, decide_eq_true_eq] at h
      exact ⟨h.1.1.1, h.1.1.2, h.1.2⟩
    · have h := h1 r hr
      unfold roleB at h
      simp only [Bool.and_eq_true] at h
      exact h.2.1.1
    · have h := h1 r hr
      unfold roleB at h
      simp only [Bool.and_eq_true, Bool.not_eq_true'] at h
      exact ⟨h.2.1.2, h.2.2⟩
    · have h := h2 t ht
      unfold ownerB at h
      simp only [Bool.and_eq_true, Bool.or_eq_true, decide_eq_true_eq] at h
      exact h
  · rintro ⟨h1, h2, h3, h4⟩
    refine ⟨fun r hr => ?_, fun t ht => ?_⟩
    · unfold roleB nilB
      rw [h2 r hr, (h3 r hr).1, (h3 r hr).2]
      cases hl : p.live.testBit r with
      | true => rfl
      | false => obtain ⟨e1, e2, e3⟩ := h1 r hr hl; rw [e1, e2, e3]; rfl
    · unfold ownerB
      obtain ⟨h5, h6⟩ := h4 t ht
      rw [decide_eq_true h5]
      rcases h6 with e | ⟨e1, e2⟩
      · rw [e]; rfl
      · rw [e1, e2]; simp
/-! An update of a valid policy is valid. -/
theorem sub_more {a b c : Nat} (h : subB a b = true) (hc : ∀ t, b.testBit t = true → c.testBit t = true) : subB a c = true := by
  rw [subB_iff] at *
  exact fun t ht hb => hc t (h t ht hb)
theorem with_more (b k t : Nat) (h : b.testBit t = true) : (withN b k).testBit t = true := by rw [withN_bit, h]; rfl
theorem add_fine {p : Pol} {a s i : Nat} (hf : fineP p = true) (ha : a < 16) (h : addE p a s i = 0) : fineP (addP p a s i) = true := by
  obtain ⟨h1, h2, h3, h4⟩ := fine_spec.1 hf
  unfold addE at h
  split at h
  · cases h
  rename_i hl
  split at h
  rotate_left
  · cases h
  rename_i hs
  refine fine_spec.2 ⟨fun r hr hlr => ?_, fun r hr => ?_, fun r hr => ⟨sub_more (h3 r hr).1 (with_more _ _), (h3 r hr).2⟩, fun t ht => ⟨(h4 t ht).1, (h4 t ht).2.imp (fun x => x) fun x => ⟨with_more _ _ _ x.1, x.2⟩⟩⟩
  · have hlr2 : (withN p.live a).testBit r = false := hlr
    rw [withN_bit, Bool.or_eq_false_iff] at hlr2
    have hne : r ≠ a := fun e => by simp [e] at hlr2
    obtain ⟨e1, e2, e3⟩ := h1 r hr hlr2.1
    exact ⟨(upd_other p.s s hne).trans e1, (upd_other p.i i hne).trans e2, e3⟩
  · show subB (upd p.s a s r ||| upd p.i a i r) p.active = true
    by_cases e : r = a
    · subst e; rw [upd_same, upd_same]; exact hs
    · rw [upd_other _ _ e, upd_other _ _ e]; exact h2 r hr
theorem link_fine {p : Pol} {a b : Nat} (hf : fineP p = true) (h : linkE p a b = 0) : fineP (linkP p a b) = true := by
  obtain ⟨h1, h2, h3, h4⟩ := fine_spec.1 hf
  unfold linkE at h
  split at h
  rotate_left
  · cases h
  rename_i hl
  rw [Bool.and_eq_true] at hl
  split at h
  · cases h
  rename_i hab
  refine fine_spec.2 ⟨fun r hr hlr => ?_, h2, fun r hr => ?_, h4⟩
  · have hlr2 : p.live.testBit r = false := hlr
    have hne : r ≠ a := fun e => by rw [e, hl.1] at hlr2; cases hlr2
    obtain ⟨e1, e2, e3⟩ := h1 r hr hlr2
    exact ⟨e1, e2, (upd_other p.acts _ hne).trans e3⟩
  · show subB (upd p.acts a (withN (p.acts a) b) r) p.live = true ∧ (upd p.acts a (withN (p.acts a) b) r).testBit r = false
    by_cases e : r = a
    · subst e
      rw [upd_same]
      refine ⟨?_, ?_⟩
      · rw [subB_iff]
        intro t ht hb
        rw [withN_bit, Bool.or_eq_true] at hb
        rcases hb with hb | hb
        · exact (subB_iff.1 (h3 r hr).1) t ht hb
        · rw [← of_decide_eq_true hb]; exact hl.2
      · rw [withN_bit, (h3 r hr).2]
        simp
        exact fun e => hab e.symm
    · rw [upd_other _ _ e]; exact h3 r hr
theorem less_sub {a b t : Nat} (h : (lessN a b).testBit t = true) : a.testBit t = true := by
  unfold lessN at h
  rw [Nat.testBit_and, Bool.and_eq_true] at h
  exact h.1
theorem unl_fine {p : Pol} {a b : Nat} (hf : fineP p = true) (h : unlE p a b = 0) : fineP (unlP p a b) = true := by
  obtain ⟨h1, h2, h3, h4⟩ := fine_spec.1 hf
  refine fine_spec.2 ⟨fun r hr hlr => ?_, h2, fun r hr => ?_, h4⟩
  · obtain ⟨e1, e2, e3⟩ := h1 r hr hlr
    refine ⟨e1, e2, ?_⟩
    show upd p.acts a _ r = 0
    by_cases e : r = a
    · subst e; rw [upd_same, e3]; unfold lessN; rw [Nat.zero_and]
    · rw [upd_other _ _ e]; exact e3
  · show subB (upd p.acts a (lessN (p.acts a) (withN 0 b)) r) p.live = true ∧ (upd p.acts a (lessN (p.acts a) (withN 0 b)) r).testBit r = false
    by_cases e : r = a
    · subst e
      rw [upd_same]
      refine ⟨?_, ?_⟩
      · rw [subB_iff]
        exact fun t ht hb => (subB_iff.1 (h3 r hr).1) t ht (less_sub hb)
      · cases hx : (lessN (p.acts r) (withN 0 b)).testBit r with
        | false => rfl
        | true => have := less_sub hx; rw [(h3 r hr).2] at this; cases this
    · rw [upd_other _ _ e]; exact h3 r hr
theorem own_fine {p : Pol} {a b : Nat} (hf : fineP p = true) (hb : b ≤ 16) (h : ownE p a b = 0) : fineP (ownrP p a b) = true := by
  obtain ⟨h1, h2, h3, h4⟩ := fine_spec.1 hf
  unfold ownE at h
  split at h
  rotate_left
  · cases h
  rename_i ha
  split at h
  · cases h
  rename_i hl
  refine fine_spec.2 ⟨h1, h2, h3, fun t ht => ?_⟩
  show upd p.owner a b t ≤ 16 ∧ (upd p.owner a b t = 16 ∨ (p.live.testBit (upd p.owner a b t) = true ∧ p.active.testBit t = true))
  by_cases e : t = a
  · subst e
    rw [upd_same]
    refine ⟨hb, ?_⟩
    by_cases hb16 : b < 16
    · refine .inr ⟨?_, ha⟩
      cases hx : p.live.testBit b with
      | true => rfl
      | false => exact absurd ⟨hb16, hx⟩ hl
    · exact .inl (by omega)
  · rw [upd_other _ _ e]; exact h4 t ht
theorem rev_fine {p : Pol} {a b : Nat} (hp : PolOk p) (hf : fineP p = true) (hb : b < 16) (h : revE p a b = 0) : fineP (revP p a b) = true := by
  unfold revE at h
  split at h
  rotate_left
  · cases h
  rename_i hac
  rw [Bool.and_eq_true] at hac
  split at h
  · cases h
  rename_i hab
  refine map_fine hp hf (move_fine fine_id hb hab rfl) fun t _ hne => ?_
  unfold moveF idF at hne ⊢
  split at hne
  · rename_i e; rw [if_pos e]; exact hac.2
  · exact absurd rfl hne
theorem effP_ok {p : Pol} {k a b s i : Nat} (hp : PolOk p) (ha : a < 16) (hb : b ≤ 16) (hb2 : k = 3 → b < 16) (hs : s < 65536) (hi : i < 65536) : PolOk (effP p k a b s i) := by
  unfold effP
  split
  · exact ⟨withN_lt hp.live ha, hp.active, upd_lt hp.s hs, upd_lt hp.i hi, hp.acts, hp.owner⟩
  split
  · exact mendN_ok ⟨lessN_lt _ hp.live, hp.active, hp.s, hp.i, hp.acts, hp.owner⟩
  split
  · rename_i e
    exact ⟨hp.live, hp.active, hp.s, hp.i, upd_lt hp.acts (withN_lt (hp.acts a ha) (hb2 e)), hp.owner⟩
  split
  · exact ⟨hp.live, hp.active, hp.s, hp.i, upd_lt hp.acts (lessN_lt _ (hp.acts a ha)), hp.owner⟩
  split
  · exact ⟨hp.live, hp.active, hp.s, hp.i, hp.acts, upd_lt hp.owner (by omega)⟩
  · exact mapP_ok hp
theorem oneP_ok {p : Pol} {c : Cg} (hp : PolOk p) (hc : CgOk c) : PolOk (oneP p c) := by
  unfold oneP
  split
  rotate_left
  · exact zeroP_ok
  rename_i h
  unfold oneE at h
  split at h
  rotate_left
  · cases h
  rename_i hg
  obtain ⟨h1, h2, h3, h4, h5, h6, h7⟩ := cgB_iff.1 hg
  refine effP_ok hp (by omega) ?_ (fun e => ?_) hc.s hc.i
  · unfold mostN at h7; split at h7 <;> (try split at h7) <;> omega
  · unfold mostN at h7; rw [if_pos (.inl e)] at h7; omega
theorem one_fine {p : Pol} {c : Cg} (hp : PolOk p) (hf : fineP p = true) (h : oneE p c = 0) : fineP (oneP p c) = true := by
  unfold oneP
  rw [if_pos h]
  unfold oneE at h
  split at h
  rotate_left
  · cases h
  rename_i hg
  obtain ⟨h1, h2, h3, h4, h5, h6, h7⟩ := cgB_iff.1 hg
  have hb : c.b.toNat ≤ 16 := by unfold mostN at h7; split at h7 <;> (try split at h7) <;> omega
  unfold effE at h
  unfold effP
  split
  · rename_i e; rw [if_pos e] at h; exact add_fine hf (by omega) h
  rename_i e1; rw [if_neg e1] at h
  split
  · exact mend_fine ⟨lessN_lt _ hp.live, hp.active, hp.s, hp.i, hp.acts, hp.owner⟩
  rename_i e2; rw [if_neg e2] at h
  split
  · rename_i e; rw [if_pos e] at h; exact link_fine hf h
  rename_i e3; rw [if_neg e3] at h
  split
  · rename_i e; rw [if_pos e] at h; exact unl_fine hf h
  rename_i e4; rw [if_neg e4] at h
  split
  · rename_i e; rw [if_pos e] at h; exact own_fine hf hb h
  rename_i e5; rw [if_neg e5] at h
  refine rev_fine hp hf ?_ h
  unfold mostN at h7; rw [if_pos (.inr (.inr (by omega)))] at h7; omega
end Go.Proofs.YthpangacpihclaaDoor
