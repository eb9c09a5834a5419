/-
  Visits in plain terms: what a walk through a graph, role by role, may come to see, whatever its order.
-/
import Derived.Test.YtajilnoebhipbaaDoorGraM
namespace Go.Proofs.YtajilnoebhipbaaDoor

/-- From s, visits of the roles R come to s2: all that they reach within W was seen, or is now, and where something is new all that it acts for is there. -/
structure Vis (f : Nat → Nat) (W s : Nat) (R : Nat → Prop) (s2 : Nat) : Prop where
  sub : subT s s2
  inn : ∀ t, s2.testBit t = true → s.testBit t = true ∨ ∃ r, R r ∧ Rch f W r t
  closed : ∀ u v, s2.testBit u = true → s.testBit u = false → edgeB f W u v = true → s2.testBit v = true
  roots : ∀ r, R r → W.testBit r = true → s2.testBit r = true
theorem Vis.none {f : Nat → Nat} {W s : Nat} {R : Nat → Prop} (h : ∀ r, R r → W.testBit r = true → s.testBit r = true) : Vis f W s R s :=
  ⟨fun _ h => h, fun _ h => .inl h, (fun u v h1 h2 _ => by rw [h1] at h2; cases h2), h⟩
theorem Vis.trans {f : Nat → Nat} {W s s1 s2 : Nat} {R1 R2 : Nat → Prop} (h : Vis f W s R1 s1) (k : Vis f W s1 R2 s2) : Vis f W s (fun r => R1 r ∨ R2 r) s2 := by
  refine ⟨fun t ht => k.sub t (h.sub t ht), fun t ht => ?_, fun u v hu hn he => ?_, fun r hr hw => ?_⟩
  · rcases k.inn t ht with h1 | ⟨r, h1, h2⟩
    · rcases h.inn t h1 with h3 | ⟨r, h3, h4⟩
      · exact .inl h3
      · exact .inr ⟨r, .inl h3, h4⟩
    · exact .inr ⟨r, .inr h1, h2⟩
  · cases h1 : s1.testBit u with
    | true => exact k.sub v (h.closed u v h1 hn he)
    | false => exact k.closed u v hu h1 he
  · rcases hr with hr | hr
    · exact k.sub r (h.roots r hr hw)
    · exact k.roots r hr hw
theorem Vis.roots_iff {f : Nat → Nat} {W s s2 : Nat} {R R' : Nat → Prop} (h : Vis f W s R s2) (hr : ∀ r, R r ↔ R' r) : Vis f W s R' s2 :=
  ⟨h.sub, fun t ht => (h.inn t ht).imp_right fun ⟨r, h1, h2⟩ => ⟨r, (hr r).1 h1, h2⟩, h.closed, fun r h1 h2 => h.roots r ((hr r).2 h1) h2⟩
/-- A role is visited: it is seen, and then all for which it acts at once are visited. -/
theorem Vis.enter {f : Nat → Nat} {W s s2 r : Nat} (hr : W.testBit r = true) (h : Vis f W (withN s r) (fun k => (f r).testBit k = true) s2) : Vis f W s (fun k => k = r) s2 := by
  have hin : s2.testBit r = true := h.sub r (by rw [withN_bit]; simp)
  refine ⟨fun t ht => h.sub t (by rw [withN_bit, ht]; rfl), fun t ht => ?_, fun u v hu hn he => ?_, fun k hk _ => by rw [hk]; exact hin⟩
  · rcases h.inn t ht with h1 | ⟨k, h1, h2⟩
    · rw [withN_bit] at h1
      cases h3 : s.testBit t with
      | true => exact .inl rfl
      | false =>
        rw [h3, Bool.false_or] at h1
        have : r = t := by simpa using h1
        exact .inr ⟨r, rfl, this ▸ .refl hr⟩
    · exact .inr ⟨r, rfl, .ahead (b := k) (by unfold edgeB; rw [hr, h2.both.1, h1]; rfl) h2⟩
  · by_cases e : r = u
    · subst e
      exact h.roots v (edge_both he).2.2 (edge_both he).2.1
    · exact h.closed u v hu (by rw [withN_bit, hn, show decide (r = u) = false by simpa using e]; rfl) he
/-- One after another, up to k. -/
theorem Vis.snoc {f : Nat → Nat} {W s s1 s2 k : Nat} {p : Nat → Bool} (h : Vis f W s (fun r => r < k ∧ p r = true) s1) (h2 : if p k = true then Vis f W s1 (fun r => r = k) s2 else s2 = s1) : Vis f W s (fun r => r < k + 1 ∧ p r = true) s2 := by
  by_cases hp : p k = true
  · rw [if_pos hp] at h2
    refine (h.trans h2).roots_iff fun r => ⟨?_, ?_⟩
    · rintro (⟨h3, h4⟩ | rfl)
      · exact ⟨by omega, h4⟩
      · exact ⟨by omega, hp⟩
    · rintro ⟨h3, h4⟩
      by_cases e : r = k
      · exact .inr e
      · exact .inl ⟨by omega, h4⟩
  · rw [if_neg hp] at h2
    subst h2
    refine h.roots_iff fun r => ⟨fun ⟨h3, h4⟩ => ⟨by omega, h4⟩, fun ⟨h3, h4⟩ => ⟨?_, h4⟩⟩
    by_cases e : r = k
    · subst e; exact absurd h4 hp
    · omega
theorem Vis.zero {f : Nat → Nat} {W s : Nat} {p : Nat → Bool} : Vis f W s (fun r => r < 0 ∧ p r = true) s := .none fun r h => absurd h.1 (by omega)
/-- All sixteen. -/
theorem Vis.all {f : Nat → Nat} {W s s2 m : Nat} (hm : m < 65536) (h : Vis f W s (fun r => r < 16 ∧ m.testBit r = true) s2) : Vis f W s (fun r => m.testBit r = true) s2 :=
  h.roots_iff fun r => ⟨fun h => h.2, fun h => by
    refine ⟨?_, h⟩
    rcases Nat.lt_or_ge r 16 with h1 | h1
    · exact h1
    · rw [Nat.testBit_lt_two_pow (Nat.lt_of_lt_of_le hm (Nat.pow_le_pow_right (n := 2) (by omega) h1))] at h
      cases h⟩
/-- How many are left. -/
def leftB (s : Nat) : Nat := 16 - cntB s 16
theorem leftB_with {s r : Nat} (hr : r < 16) (hs : s.testBit r = false) : leftB (withN s r) < leftB s := by
  have h1 := cntB_lt (a := s) (b := withN s r) (n := 16) (t := r) (fun t h => by rw [withN_bit, h]; rfl) hr (by rw [withN_bit]; simp) hs
  have h2 := cntB_le (withN s r) 16
  unfold leftB; omega
theorem leftB_sub {s s2 : Nat} (h : subT s s2) : leftB s2 ≤ leftB s := by
  have := cntB_mono h 16
  unfold leftB; omega
/-- All that was seen, from nothing, is what the roles act for. -/
theorem vis_down {f : Nat → Nat} {s W s2 : Nat} (hW : W < 65536) (h : Vis f W 0 (fun r => s.testBit r = true) s2) : s2 = downN f s W := by
  apply Nat.eq_of_testBit_eq
  intro t
  rw [Bool.eq_iff_iff, downN_bit hW]
  constructor
  · intro ht
    rcases h.inn t ht with h1 | h1
    · rw [Nat.zero_testBit] at h1; cases h1
    · exact h1
  · rintro ⟨a, ha, hr⟩
    induction hr with
    | refl h1 => exact h.roots _ ha h1
    | step _ h2 ih => exact h.closed _ _ ih (Nat.zero_testBit _) h2
end Go.Proofs.YtajilnoebhipbaaDoor
