/-
  Changes of policies in plain terms: which may be, what they do, and why they may not.
-/
import Derived.Test.YtmaachmidgfhdaaGreatDoorW3
import Derived.Test.YtmaachmidgfhdaaGreatDoorW1
/-! ChM -/
namespace Go.Proofs.YtmaachmidgfhdaaGreatDoor

/-- A change. -/
structure Cg where
  kind : Int
  a : Int
  b : Int
  s : Nat
  i : Nat
structure CgOk (c : Cg) : Prop where
  kind : -9223372036854775808 ≤ c.kind ∧ c.kind ≤ 9223372036854775807
  a : -9223372036854775808 ≤ c.a ∧ c.a ≤ 9223372036854775807
  b : -9223372036854775808 ≤ c.b ∧ c.b ≤ 9223372036854775807
  s : c.s < 65536
  i : c.i < 65536
/-- What B may be at most. -/
def mostN (k : Nat) : Int := if k = 3 ∨ k = 4 ∨ k = 6 then 15 else if k = 5 then 16 else 0
def cgB (c : Cg) : Bool := decide (1 ≤ c.kind) && decide (c.kind ≤ 6) && decide (0 ≤ c.a) && decide (c.a ≤ 15) && decide (0 ≤ c.b) && (decide (c.kind = 1) || (decide (c.s = 0) && decide (c.i = 0))) && decide (c.b ≤ mostN c.kind.toNat)
theorem cgB_iff {c : Cg} : cgB c = true ↔ 1 ≤ c.kind ∧ c.kind ≤ 6 ∧ 0 ≤ c.a ∧ c.a ≤ 15 ∧ 0 ≤ c.b ∧ (c.kind = 1 ∨ (c.s = 0 ∧ c.i = 0)) ∧ c.b ≤ mostN c.kind.toNat := by
  unfold cgB
  simp only [Bool.and_eq_true, Bool.or_eq_true, decide_eq_true_eq]
  constructor
  · rintro ⟨⟨⟨⟨⟨⟨h1, h2⟩, h3⟩, h4⟩, h5⟩, h6⟩, h7⟩; exact ⟨h1, h2, h3, h4, h5, h6, h7⟩
  · rintro ⟨h1, h2, h3, h4, h5, h6, h7⟩; exact ⟨⟨⟨⟨⟨⟨h1, h2⟩, h3⟩, h4⟩, h5⟩, h6⟩, h7⟩

/-! The effects, and their errors. -/
def addE (p : Pol) (a s i : Nat) : Int := if p.live.testBit a = true then 7 else if subB (s ||| i) p.active = true then 0 else 8
def addP (p : Pol) (a s i : Nat) : Pol := ⟨withN p.live a, upd p.s a s, upd p.i a i, p.acts, p.owner, p.active⟩
def dropE (p : Pol) (a : Nat) : Int := if p.live.testBit a = true then 0 else 6
def dropP (p : Pol) (a : Nat) : Pol := mendN { p with live := lessN p.live (withN 0 a) }
def linkE (p : Pol) (a b : Nat) : Int := if (p.live.testBit a && p.live.testBit b) = true then (if a = b then 1 else if (p.acts a).testBit b = true then 7 else 0) else 6
def linkP (p : Pol) (a b : Nat) : Pol := p.putA a (withN (p.acts a) b)
def unlE (p : Pol) (a b : Nat) : Int := if (p.acts a).testBit b = true then 0 else 6
def unlP (p : Pol) (a b : Nat) : Pol := p.putA a (lessN (p.acts a) (withN 0 b))
def ownE (p : Pol) (a b : Nat) : Int := if p.active.testBit a = true then (if b < 16 ∧ p.live.testBit b = false then 6 else 0) else 6
def ownrP (p : Pol) (a b : Nat) : Pol := p.putO a b
def revE (p : Pol) (a b : Nat) : Int := if (p.active.testBit a && p.active.testBit b) = true then (if a = b then 1 else 0) else 6
def revP (p : Pol) (a b : Nat) : Pol := mapP p (moveF idF a b)
/-- The effect's error, and what the policy is with it, by kind. -/
def effE (p : Pol) (k a b s i : Nat) : Int :=
  if k = 1 then addE p a s i else if k = 2 then dropE p a else if k = 3 then linkE p a b else if k = 4 then unlE p a b else if k = 5 then ownE p a b else revE p a b
def effP (p : Pol) (k a b s i : Nat) : Pol :=
  if k = 1 then addP p a s i else if k = 2 then dropP p a else if k = 3 then linkP p a b else if k = 4 then unlP p a b else if k = 5 then ownrP p a b else revP p a b
def oneE (p : Pol) (c : Cg) : Int := if cgB c = true then effE p c.kind.toNat c.a.toNat c.b.toNat c.s c.i else 3
def oneP (p : Pol) (c : Cg) : Pol := if oneE p c = 0 then effP p c.kind.toNat c.a.toNat c.b.toNat c.s c.i else zeroP

/-! A valid policy, word by word. -/
/-! An update of a valid policy is valid. -/
theorem effP_ok {p : Pol} {k a b s i : Nat} (hp : PolOk p) (ha : a < 16) (hb : b ≤ 16) (hb2 : k = 3 → b < 16) (hs : s < 65536) (hi : i < 65536) : PolOk (effP p k a b s i) := by
  unfold effP
  split
  · exact ⟨withN_lt hp.live ha, hp.active, upd_lt hp.s hs, upd_lt hp.i hi, hp.acts, hp.owner⟩
  split
  · exact mendN_ok ⟨lessN_lt _ hp.live, hp.active, hp.s, hp.i, hp.acts, hp.owner⟩
  split
  · rename_i e
    exact ⟨hp.live, hp.active, hp.s, hp.i, upd_lt hp.acts (withN_lt (hp.acts a ha) (hb2 e)), hp.owner⟩
  split
  · exact ⟨hp.live, hp.active, hp.s, hp.i, upd_lt hp.acts (lessN_lt _ (hp.acts a ha)), hp.owner⟩
  split
  · exact ⟨hp.live, hp.active, hp.s, hp.i, hp.acts, upd_lt hp.owner (by omega)⟩
  · exact mapP_ok hp
theorem oneP_ok {p : Pol} {c : Cg} (hp : PolOk p) (hc : CgOk c) : PolOk (oneP p c) := by
  unfold oneP
  split
  rotate_left
  · exact zeroP_ok
  rename_i h
  unfold oneE at h
  split at h
  rotate_left
  · cases h
  rename_i hg
  obtain ⟨h1, h2, h3, h4, h5, h6, h7⟩ := cgB_iff.1 hg
  refine effP_ok hp (by omega) ?_ (fun e => ?_) hc.s hc.i
  · unfold mostN at h7; split at h7 <;> (try split at h7) <;> omega
  · unfold mostN at h7; rw [if_pos (.inl e)] at h7; omega
end Go.Proofs.YtmaachmidgfhdaaGreatDoor
