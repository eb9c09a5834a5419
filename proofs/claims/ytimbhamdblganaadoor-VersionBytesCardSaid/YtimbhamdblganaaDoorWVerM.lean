/-
  Stores of policies by epoch, in plain terms.
-/
import Derived.Test.YtimbhamdblganaaDoorWPolT
import Derived.Test.YtimbhamdblganaaDoorWPolU
/-! VerM -/
namespace Go.Proofs.YtimbhamdblganaaDoor

/-- How many policies are kept in an epoch. -/
def keptN (e : Int) : Nat := if e < 0 ∨ 255 < e then 0 else if 6 < e then 8 else e.toNat + 1
theorem keptN_nat {e : Nat} (h : e ≤ 255) : keptN (e : Int) = min (e + 1) 8 := by
  unfold keptN
  rw [if_neg (by omega)]
  split <;> omega
theorem keptN_pos {e : Nat} (h : e ≤ 255) : 1 ≤ keptN (e : Int) ∧ keptN (e : Int) ≤ 8 ∧ keptN (e : Int) ≤ e + 1 := by
  rw [keptN_nat h]; omega
/-- A store: the epoch, and the kept policies, the oldest first. -/
structure Sto where
  ep : Nat
  l : List Pol
structure StoOk (s : Sto) : Prop where
  ep : s.ep ≤ 255
  len : s.l.length = keptN s.ep
  ok : ∀ p ∈ s.l, PolOk p
def atE (s : Sto) (e : Int) : Int := if e < 0 ∨ (s.ep : Int) < e then 8 else if e + 8 ≤ (s.ep : Int) then 6 else 0
def atP (s : Sto) (e : Int) : Pol := if atE s e = 0 then s.l.getD (s.l.length - 1 - (s.ep - e.toNat)) zeroP else zeroP
def nowP (s : Sto) : Pol := s.l.getD (s.l.length - 1) zeroP
def comE (s : Sto) : Int := if s.ep = 255 then 15 else 0
def comS (s : Sto) (p : Pol) : Sto := if s.ep = 255 then s else ⟨s.ep + 1, (if s.l.length = 8 then s.l.drop 1 else s.l) ++ [p]⟩
theorem comS_ok {s : Sto} {p : Pol} (h : StoOk s) (hp : PolOk p) : StoOk (comS s p) := by
  unfold comS
  split
  · exact h
  rename_i he
  have h1 := h.ep
  have hl := h.len
  have hk := keptN_nat h1
  refine ⟨by show s.ep + 1 ≤ 255; omega, ?_, fun q hq => ?_⟩
  · show (_ ++ [p]).length = keptN ((s.ep + 1 : Nat) : Int)
    rw [keptN_nat (by omega), List.length_append]
    split
    · rw [List.length_drop]; simp; omega
    · simp; omega
  · rcases List.mem_append.1 hq with hq | hq
    · split at hq
      · exact h.ok q (List.mem_of_mem_drop hq)
      · exact h.ok q hq
    · rw [List.mem_singleton.1 hq]; exact hp
theorem sto_one {p : Pol} (hp : PolOk p) : StoOk ⟨0, [p]⟩ := ⟨Nat.zero_le _, rfl, fun q hq => by rw [List.mem_singleton.1 hq]; exact hp⟩
theorem sto_pos {s : Sto} (h : StoOk s) : 1 ≤ s.l.length ∧ s.l.length ≤ 8 ∧ s.l.length ≤ s.ep + 1 := by rw [h.len]; exact keptN_pos h.ep
/-! The whole history. -/
end Go.Proofs.YtimbhamdblganaaDoor
