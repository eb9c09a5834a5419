/-
  Stores of policies by epoch, in plain terms.
-/
import Derived.Test.YtimbhamdblganaaWPolT
import Derived.Test.YtimbhamdblganaaWPolU
/-! VerM -/
namespace Go.Proofs.Ytimbhamdblganaa

/-- How many policies are kept in an epoch. -/
def keptN (e : Int) : Nat := if e < 0 ∨ 255 < e then 0 else if 6 < e then 8 else e.toNat + 1
theorem keptN_nat {e : Nat} (h : e ≤ 255) : keptN (e : Int) = min (e + 1) 8 := by
  unfold keptN
  rw [if_neg (by omega)]
  split <;> omega
theorem keptN_pos {e : Nat} (h : e ≤ 255) : 1 ≤ keptN (e : Int) ∧ keptN (e : Int) ≤ 8 ∧ keptN (e : Int) ≤ e + 1 := by
  rw [keptN_nat h]; omega
/-- A policy that tells a number. -/
def numP (n : Nat) : Pol := ⟨1, fun _ => 0, fun r => if r = 0 then n % 65536 else 0, fun _ => 0, fun t => if t = n % 16 then 16 else 0, 65535⟩
theorem numP_ok (n : Nat) : PolOk (numP n) := by
  refine ⟨by show (1 : Nat) < 65536; decide, by show (65535 : Nat) < 65536; decide, fun _ _ => by show (0 : Nat) < 65536; decide, fun r _ => ?_, fun _ _ => by show (0 : Nat) < 65536; decide, fun t _ => ?_⟩
  · show (if r = 0 then n % 65536 else 0) < 65536
    split <;> omega
  · show (if t = n % 16 then 16 else 0) < 256
    split <;> omega
/-- A store: the epoch, and the kept policies, the oldest first. -/
structure Sto where
  ep : Nat
  l : List Pol
structure StoOk (s : Sto) : Prop where
  ep : s.ep ≤ 255
  len : s.l.length = keptN s.ep
  ok : ∀ p ∈ s.l, PolOk p
def atE (s : Sto) (e : Int) : Int := if e < 0 ∨ (s.ep : Int) < e then 8 else if e + 8 ≤ (s.ep : Int) then 6 else 0
def atP (s : Sto) (e : Int) : Pol := if atE s e = 0 then s.l.getD (s.l.length - 1 - (s.ep - e.toNat)) zeroP else zeroP
def nowP (s : Sto) : Pol := s.l.getD (s.l.length - 1) zeroP
def comE (s : Sto) : Int := if s.ep = 255 then 15 else 0
def comS (s : Sto) (p : Pol) : Sto := if s.ep = 255 then s else ⟨s.ep + 1, (if s.l.length = 8 then s.l.drop 1 else s.l) ++ [p]⟩
theorem comS_ok {s : Sto} {p : Pol} (h : StoOk s) (hp : PolOk p) : StoOk (comS s p) := by
  unfold comS
  split
  · exact h
  rename_i he
  have h1 := h.ep
  have hl := h.len
  have hk := keptN_nat h1
  refine ⟨by show s.ep + 1 ≤ 255; omega, ?_, fun q hq => ?_⟩
  · show (_ ++ [p]).length = keptN ((s.ep + 1 : Nat) : Int)
    rw [keptN_nat (by omega), List.length_append]
    split
    · rw [List.length_drop]; simp; omega
    · simp; omega
  · rcases List.mem_append.1 hq with hq | hq
    · split at hq
      · exact h.ok q (List.mem_of_mem_drop hq)
      · exact h.ok q hq
    · rw [List.mem_singleton.1 hq]; exact hp
theorem sto_one {p : Pol} (hp : PolOk p) : StoOk ⟨0, [p]⟩ := ⟨Nat.zero_le _, rfl, fun q hq => by rw [List.mem_singleton.1 hq]; exact hp⟩
theorem sto_pos {s : Sto} (h : StoOk s) : 1 ≤ s.l.length ∧ s.l.length ≤ 8 ∧ s.l.length ≤ s.ep + 1 := by rw [h.len]; exact keptN_pos h.ep
theorem getD_ok {l : List Pol} (h : ∀ p ∈ l, PolOk p) (hz : PolOk zeroP) (i : Nat) : PolOk (l.getD i zeroP) := by
  rw [List.getD_eq_getElem?_getD]
  cases e : l[i]? with
  | none => exact hz
  | some p => exact h p (List.mem_of_getElem? e)

/-! The whole history. -/
def lastK (all : List Pol) (ep : Nat) : List Pol := all.drop (all.length - keptN ep)
theorem lastK_length {all : List Pol} {ep : Nat} (h : keptN ep ≤ all.length) : (lastK all ep).length = keptN ep := by
  unfold lastK; rw [List.length_drop]; omega
theorem lastK_all {all : List Pol} {ep : Nat} (h : all.length = keptN ep) : lastK all ep = all := by
  unfold lastK; rw [h, Nat.sub_self, List.drop_zero]
theorem lastK_com {all : List Pol} {ep : Nat} (p : Pol) (he : ep < 255) (h : all.length = ep + 1) : comS ⟨ep, lastK all ep⟩ p = ⟨ep + 1, lastK (all ++ [p]) (ep + 1)⟩ := by
  have hk := keptN_nat (e := ep) (by omega)
  have hk2 := keptN_nat (e := ep + 1) (by omega)
  have hl : (lastK all ep).length = keptN ep := lastK_length (by rw [hk]; omega)
  unfold comS
  rw [if_neg (by show ¬ ep = 255; omega)]
  show Sto.mk (ep + 1) ((if (lastK all ep).length = 8 then (lastK all ep).drop 1 else lastK all ep) ++ [p]) = _
  congr 1
  rw [hl, hk]
  by_cases h7 : 7 ≤ ep
  · rw [if_pos (by omega)]
    unfold lastK
    rw [hk, hk2, List.length_append, List.length_singleton, List.drop_append_of_le_length (by omega), List.drop_drop]
    congr 2; omega
  · rw [if_neg (by omega)]
    unfold lastK
    rw [hk, hk2, List.length_append, List.length_singleton, show all.length - min (ep + 1) 8 = 0 by omega, show all.length + 1 - min (ep + 1 + 1) 8 = 0 by omega]
    rfl
theorem lastK_get {all : List Pol} {ep i : Nat} (h : keptN ep ≤ all.length) (hi : i < keptN ep) : (lastK all ep).getD ((lastK all ep).length - 1 - i) zeroP = all.getD (all.length - 1 - i) zeroP := by
  rw [lastK_length h]
  unfold lastK
  rw [List.getD_eq_getElem?_getD, List.getD_eq_getElem?_getD, List.getElem?_drop]
  congr 2; omega
/-- What is told for an epoch, by the history. -/
theorem atP_hist {all : List Pol} {ep : Nat} {e : Int} (hep : ep ≤ 255) (h : keptN ep ≤ all.length) : atP ⟨ep, lastK all ep⟩ e = if atE ⟨ep, lastK all ep⟩ e = 0 then all.getD (all.length - 1 - (ep - e.toNat)) zeroP else zeroP := by
  unfold atP
  split
  · rename_i h0
    have hk := keptN_nat hep
    refine lastK_get h ?_
    unfold atE at h0
    split at h0
    · cases h0
    split at h0
    · cases h0
    rename_i h1 h2
    show ep - e.toNat < _
    rw [hk]
    simp only at h1 h2
    omega
  · rfl
end Go.Proofs.Ytimbhamdblganaa
