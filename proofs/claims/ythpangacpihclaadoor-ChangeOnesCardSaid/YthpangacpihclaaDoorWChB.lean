/-
  Changes of policies in plain terms: what ChangeBack asks.
-/
import Derived.Test.YthpangacpihclaaDoorWChN
/-! ChB -/
namespace Go.Proofs.YthpangacpihclaaDoor

theorem oneE_cg {p : Pol} {c : Cg} (h : oneE p c = 0) : cgB c = true ∧ effE p c.kind.toNat c.a.toNat c.b.toNat c.s c.i = 0 := by
  unfold oneE at h
  split at h
  · exact ⟨by assumption, h⟩
  · cases h
theorem oneP_eff {p : Pol} {c : Cg} (h : oneE p c = 0) : oneP p c = effP p c.kind.toNat c.a.toNat c.b.toNat c.s c.i := by unfold oneP; rw [if_pos h]
theorem oneP_no {p : Pol} {c : Cg} (h : ¬ oneE p c = 0) : oneP p c = zeroP := by unfold oneP; rw [if_neg h]
theorem cg_small {k a b : Int} {s i : Nat} (h : cgB ⟨k, a, b, s, i⟩ = true) : 0 ≤ a ∧ a < 16 ∧ 0 ≤ b ∧ b ≤ 16 ∧ (k = 3 → b < 16) := by
  obtain ⟨h1, h2, h3, h4, h5, h6, h7⟩ := cgB_iff.1 h
  simp only at h1 h2 h3 h4 h5 h7
  refine ⟨h3, by omega, h5, ?_, fun hk => ?_⟩
  · unfold mostN at h7; split at h7 <;> (try split at h7) <;> omega
  · unfold mostN at h7; rw [if_pos (by omega)] at h7; omega
theorem cg_make {k : Int} {a b : Nat} (h1 : 1 ≤ k) (h2 : k ≤ 6) (ha : a ≤ 15) (hm : (b : Int) ≤ mostN k.toNat) : cgB ⟨k, (a : Int), (b : Int), 0, 0⟩ = true :=
  cgB_iff.2 ⟨h1, h2, by show (0 : Int) ≤ a; omega, by show (a : Int) ≤ 15; omega, by show (0 : Int) ≤ b; omega, .inr ⟨rfl, rfl⟩, hm⟩
theorem with_self (s a : Nat) : (withN s a).testBit a = true := by rw [withN_bit]; simp
/-- A policy with a live role is not the zero policy. -/
theorem live_zero {p : Pol} {a : Nat} (h : p.live.testBit a = true) : ¬ polC p = polC zeroP := fun e => by
  have h1 := same_live e
  rw [h1] at h
  simp [zeroP] at h
/-- A role that has come, is linked or not, and goes: the policy is as before. -/
theorem back_role {m y : Pol} {a : Int} {ls li : Nat} (hp : PolOk m) (hf : fineP m = true) (h0 : oneE m ⟨1, a, 0, ls, li⟩ = 0) (b : Int) (hy : y = oneP m ⟨1, a, 0, ls, li⟩ ∨ (oneE (oneP m ⟨1, a, 0, ls, li⟩) ⟨3, a, b, 0, 0⟩ = 0 ∧ y = oneP (oneP m ⟨1, a, 0, ls, li⟩) ⟨3, a, b, 0, 0⟩)) :
    oneE y ⟨2, a, 0, 0, 0⟩ = 0 ∧ polC (oneP y ⟨2, a, 0, 0, 0⟩) = polC m := by
  obtain ⟨hg, he⟩ := oneE_cg h0
  have hx := oneP_eff h0
  obtain ⟨h1, h2, -, -, -⟩ := cg_small hg
  obtain ⟨a, rfl⟩ := Int.eq_ofNat_of_zero_le h1
  have hx2 : oneP m ⟨1, (a : Int), 0, ls, li⟩ = addP m a ls li := hx
  have he2 : addE m a ls li = 0 := he
  have hc2 : cgB ⟨2, (a : Int), 0, 0, 0⟩ = true := cg_make (b := 0) (by decide) (by decide) (by omega) (by decide)
  rw [hx2] at hy
  have hd : ∀ y : Pol, y.live.testBit a = true → polC (dropP y a) = polC m → oneE y ⟨2, (a : Int), 0, 0, 0⟩ = 0 ∧ polC (oneP y ⟨2, (a : Int), 0, 0, 0⟩) = polC m := fun y hl hd => by
    have e : oneE y ⟨2, (a : Int), 0, 0, 0⟩ = 0 := by
      unfold oneE
      rw [if_pos hc2]
      show dropE y a = 0
      exact if_pos hl
    refine ⟨e, ?_⟩
    rw [oneP_eff e]
    exact hd
  rcases hy with rfl | ⟨hk, rfl⟩
  · exact hd _ (with_self _ _) (add_back hp hf (by omega) he2)
  · obtain ⟨hg3, he3⟩ := oneE_cg hk
    obtain ⟨-, -, h5, -, -⟩ := cg_small hg3
    obtain ⟨b, rfl⟩ := Int.eq_ofNat_of_zero_le h5
    have hl : oneP (addP m a ls li) ⟨3, (a : Int), (b : Int), 0, 0⟩ = linkP (addP m a ls li) a b := oneP_eff hk
    rw [hl]
    exact hd _ (with_self _ _) (add_link_back hp hf (by omega) he2)
theorem back_live {m : Pol} {a b : Int} {ls li : Nat} (h0 : oneE m ⟨1, a, 0, ls, li⟩ = 0) (hk : oneE (oneP m ⟨1, a, 0, ls, li⟩) ⟨3, a, b, 0, 0⟩ = 0) : ¬ polC (oneP (oneP m ⟨1, a, 0, ls, li⟩) ⟨3, a, b, 0, 0⟩) = polC zeroP := by
  have hx := oneP_eff h0
  have hl := oneP_eff hk
  rw [hl]
  refine live_zero (a := a.toNat) ?_
  show (oneP m ⟨1, a, 0, ls, li⟩).live.testBit a.toNat = true
  rw [hx]
  exact with_self _ _
/-- A link that has come, and goes. -/
theorem back_link {m : Pol} {a b : Int} (hp : PolOk m) (h0 : oneE m ⟨3, a, b, 0, 0⟩ = 0) :
    oneE (oneP m ⟨3, a, b, 0, 0⟩) ⟨4, a, b, 0, 0⟩ = 0 ∧ polC (oneP (oneP m ⟨3, a, b, 0, 0⟩) ⟨4, a, b, 0, 0⟩) = polC m ∧ actsB (oneP m ⟨3, a, b, 0, 0⟩) a b 65535 0 = true := by
  obtain ⟨hg, he⟩ := oneE_cg h0
  obtain ⟨h1, h2, h3, -, h5⟩ := cg_small hg
  obtain ⟨a, rfl⟩ := Int.eq_ofNat_of_zero_le h1
  obtain ⟨b, rfl⟩ := Int.eq_ofNat_of_zero_le h3
  have hb := h5 rfl
  have hx : oneP m ⟨3, (a : Int), (b : Int), 0, 0⟩ = linkP m a b := oneP_eff h0
  have he2 : linkE m a b = 0 := he
  rw [hx]
  obtain ⟨e1, e2⟩ := link_back hp (by omega) (by omega) he2
  have hc4 : cgB ⟨4, (a : Int), (b : Int), 0, 0⟩ = true := cg_make (by decide) (by decide) (by omega) (by show (b : Int) ≤ mostN 4; unfold mostN; rw [if_pos (by omega)]; omega)
  have e : oneE (linkP m a b) ⟨4, (a : Int), (b : Int), 0, 0⟩ = 0 := by
    unfold oneE
    rw [if_pos hc4]
    exact e1
  refine ⟨e, ?_, link_acts hp (by omega) (by omega) he2⟩
  rw [oneP_eff e]
  exact e2
/-- A tag that is given, and given back. -/
theorem back_own {m : Pol} {a b : Int} (hf : fineP m = true) (h0 : oneE m ⟨5, a, b, 0, 0⟩ = 0) :
    0 ≤ a ∧ a < 16 ∧ oneE (oneP m ⟨5, a, b, 0, 0⟩) ⟨5, a, (m.owner a.toNat : Int), 0, 0⟩ = 0 ∧ polC (oneP (oneP m ⟨5, a, b, 0, 0⟩) ⟨5, a, (m.owner a.toNat : Int), 0, 0⟩) = polC m := by
  obtain ⟨hg, he⟩ := oneE_cg h0
  obtain ⟨h1, h2, h3, -, -⟩ := cg_small hg
  obtain ⟨a, rfl⟩ := Int.eq_ofNat_of_zero_le h1
  obtain ⟨b, rfl⟩ := Int.eq_ofNat_of_zero_le h3
  have hx : oneP m ⟨5, (a : Int), (b : Int), 0, 0⟩ = ownrP m a b := oneP_eff h0
  have he2 : ownE m a b = 0 := he
  obtain ⟨e0, e1, e2⟩ := own_back hf (by omega) he2
  rw [hx, Int.toNat_natCast]
  have hc5 : cgB ⟨5, (a : Int), (m.owner a : Int), 0, 0⟩ = true := cg_make (by decide) (by decide) (by omega) (by show (m.owner a : Int) ≤ 16; omega)
  have e : oneE (ownrP m a b) ⟨5, (a : Int), (m.owner a : Int), 0, 0⟩ = 0 := by
    unfold oneE
    rw [if_pos hc5]
    exact e1
  refine ⟨h1, h2, e, ?_⟩
  rw [oneP_eff e]
  exact e2
end Go.Proofs.YthpangacpihclaaDoor
