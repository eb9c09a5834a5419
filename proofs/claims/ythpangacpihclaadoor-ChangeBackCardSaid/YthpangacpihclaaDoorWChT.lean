/-
  How an update is read, in plain terms.
-/
import Derived.Test.YthpangacpihclaaDoorWChM
import Derived.Test.YthpangacpihclaaDoorW2
import Derived.Test.YthpangacpihclaaDoorW3
/-! ChT -/
namespace Go.Proofs.YthpangacpihclaaDoor

def rdB (s : WSt) : Nat := (dNum s 1 255).1.toNat
def rdBs (s : WSt) : WSt := (dNum s 1 255).2
def rdWd (s : WSt) : Nat := (dNum s 2 65535).1.toNat
def rdWs (s : WSt) : WSt := (dNum s 2 65535).2
/-- One change, and what is left behind it. -/
def rdCg (s : WSt) : Cg := ⟨rdB s, rdB (rdBs s), rdB (rdBs (rdBs s)), rdWd (rdBs (rdBs (rdBs s))), rdWd (rdWs (rdBs (rdBs (rdBs s))))⟩
def rdCs (s : WSt) : WSt := rdWs (rdWs (rdBs (rdBs (rdBs s))))
def rdOne (s : WSt) : WSt := if (rdCs s).2 = 0 ∧ cgB (rdCg s) = false then ([], 3) else rdCs s
/-- Some changes, behind those that were read. -/
def rdMany : Nat → List Cg → WSt → List Cg × WSt
  | 0, l, s => (l, s)
  | n + 1, l, s => if s.2 = 0 then rdMany n (l ++ [rdCg s]) (rdOne s) else (l, s)
def rdHead (s : WSt) : WSt := if (rdBs s).2 = 0 ∧ (rdB s < 1 ∨ 6 < rdB s) then ([], 5) else rdBs s
def rdAll (s : WSt) : List Cg × WSt := rdMany (rdB s) [] (rdHead s)
/-- The answer, and what the Reader tells behind it. -/
def rdQ (s : WSt) : List Cg := if (rdAll s).2.2 = 0 then (rdAll s).1 else []
def rdQs (s : WSt) : WSt := (rdAll s).2

theorem rdCg_is (s : WSt) : rdCg s = ⟨(rdB s : Nat), (rdB (rdBs s) : Nat), (rdB (rdBs (rdBs s)) : Nat), rdWd (rdBs (rdBs (rdBs s))), rdWd (rdWs (rdBs (rdBs (rdBs s))))⟩ := rfl
theorem rdCs_is (s : WSt) : rdCs s = rdWs (rdWs (rdBs (rdBs (rdBs s)))) := rfl
theorem rdOne_is (s : WSt) : rdOne s = if (rdCs s).2 = 0 ∧ cgB (rdCg s) = false then ([], 3) else rdCs s := rfl
theorem rdMany_err (n : Nat) (l : List Cg) {s : WSt} (h : s.2 ≠ 0) : rdMany n l s = (l, s) := by
  cases n with
  | zero => rfl
  | succ n => exact if_neg h
theorem rdMany_step {n : Nat} {l : List Cg} {s : WSt} (h : s.2 = 0) : rdMany (n + 1) l s = rdMany n (l ++ [rdCg s]) (rdOne s) := if_pos h
theorem rdB_lt (s : WSt) : rdB s ≤ 255 := Int.toNat_le.2 (by
  unfold dNum; split
  · split
    · show (0 : Int) ≤ 255; omega
    · show ((valB _ : Nat) : Int) ≤ 255; omega
  · show (0 : Int) ≤ 255; omega)
theorem rdWd_lt (s : WSt) : rdWd s < 65536 := Nat.lt_succ_of_le (Int.toNat_le.2 (by
  unfold dNum; split
  · split
    · show (0 : Int) ≤ 65535; omega
    · show ((valB _ : Nat) : Int) ≤ 65535; omega
  · show (0 : Int) ≤ 65535; omega))
theorem cg_nats {k a b : Nat} (hk : k ≤ 255) (ha : a ≤ 255) (hb : b ≤ 255) {x y : Nat} (hx : x < 65536) (hy : y < 65536) : CgOk ⟨(k : Int), (a : Int), (b : Int), x, y⟩ :=
  ⟨⟨by show _ ≤ (k : Int); omega, by show (k : Int) ≤ _; omega⟩, ⟨by show _ ≤ (a : Int); omega, by show (a : Int) ≤ _; omega⟩, ⟨by show _ ≤ (b : Int); omega, by show (b : Int) ≤ _; omega⟩, hx, hy⟩
theorem rdCg_ok (s : WSt) : CgOk (rdCg s) := cg_nats (rdB_lt s) (rdB_lt (rdBs s)) (rdB_lt (rdBs (rdBs s))) (rdWd_lt (rdBs (rdBs (rdBs s)))) (rdWd_lt (rdWs (rdBs (rdBs (rdBs s)))))
theorem dNum_fewer (s : WSt) (size most : Int) : (dNum s size most).2.1.length ≤ s.1.length := by
  have ht : (takeS s size.toNat).1.length ≤ s.1.length := by
    unfold takeS; split
    · exact fail_le s 4
    · show (s.1.drop _).length ≤ _; rw [List.length_drop]; omega
  unfold dNum; split
  · split
    · exact Nat.le_trans (fail_le _ _) ht
    · exact ht
  · exact fail_le s 8
theorem rdBs_fewer (s : WSt) : (rdBs s).1.length ≤ s.1.length := dNum_fewer s 1 255
theorem rdWs_fewer (s : WSt) : (rdWs s).1.length ≤ s.1.length := dNum_fewer s 2 65535
theorem rdCs_short (s : WSt) : (rdCs s).1.length ≤ s.1.length := by
  have h1 := rdBs_fewer s
  have h2 := rdBs_fewer (rdBs s)
  have h3 := rdBs_fewer (rdBs (rdBs s))
  have h4 := rdWs_fewer (rdBs (rdBs (rdBs s)))
  have h5 := rdWs_fewer (rdWs (rdBs (rdBs (rdBs s))))
  unfold rdCs
  omega
theorem rdOne_short (s : WSt) : (rdOne s).1.length ≤ s.1.length := by
  unfold rdOne; split
  · exact Nat.zero_le _
  · exact rdCs_short s
theorem fit_rdBs {s : WSt} (h : Fit s) : Fit (rdBs s) := fit_dNum h 1 255
theorem fit_rdWs {s : WSt} (h : Fit s) : Fit (rdWs s) := fit_dNum h 2 65535
theorem fit_rdCs {s : WSt} (h : Fit s) : Fit (rdCs s) := by
  have h1 := fit_rdBs (fit_rdBs (fit_rdBs h))
  exact fit_rdWs (fit_rdWs h1)
theorem fit_rdOne {s : WSt} (h : Fit s) : Fit (rdOne s) := by
  unfold rdOne; split
  · exact fun _ => rfl
  · exact fit_rdCs h
theorem rdMany_len : ∀ (n : Nat) (l : List Cg) (s : WSt), (rdMany n l s).1.length ≤ l.length + n
  | 0, _, _ => Nat.le_refl _
  | n + 1, l, s => by
    by_cases e : s.2 = 0
    · rw [rdMany_step e]
      have h := rdMany_len n (l ++ [rdCg s]) (rdOne s)
      simp at h; omega
    · rw [rdMany_err _ _ e]; show l.length ≤ _; omega
theorem rdMany_ok : ∀ (n : Nat) (l : List Cg) (s : WSt), (∀ c ∈ l, CgOk c) → ∀ c ∈ (rdMany n l s).1, CgOk c
  | 0, _, _, h => h
  | n + 1, l, s, h => by
    by_cases e : s.2 = 0
    · rw [rdMany_step e]
      exact rdMany_ok n _ _ (fun c hc => by
        rcases List.mem_append.1 hc with h1 | h1
        · exact h c h1
        · rw [List.mem_singleton.1 h1]; exact rdCg_ok s)
    · rw [rdMany_err _ _ e]; exact h
theorem rdQ_ok (s : WSt) : ∀ c ∈ rdQ s, CgOk c := by
  unfold rdQ; split
  · exact rdMany_ok _ _ _ (fun c hc => by cases hc)
  · exact fun c hc => by cases hc
theorem rdQ_len (s : WSt) : (rdQ s).length ≤ 6 := by
  unfold rdQ; split
  · rename_i h
    unfold rdAll at h ⊢
    by_cases e : (rdHead s).2 = 0
    · have h6 : rdB s ≤ 6 := by
        unfold rdHead at e; split at e
        · cases e
        · rename_i h2
          exact Decidable.byContradiction fun h3 => h2 ⟨e, .inr (by omega)⟩
      have := rdMany_len (rdB s) [] (rdHead s)
      simp at this; omega
    · rw [rdMany_err _ _ e] at h
      exact absurd h e
  · exact Nat.zero_le _
/-- The document's single bytes. -/
theorem byte_dNum {s : WSt} (h : Fit s) : byteV s = rdB s ∧ byteS s = rdBs s := by
  obtain ⟨l, e⟩ := s
  have hz : sizedB (1 : Int) = true := by decide
  have h1 : (1 : Int).toNat = 1 := rfl
  unfold rdB rdBs dNum byteV byteS
  rw [if_pos hz]
  by_cases he : e = 0
  · subst he
    cases l with
    | nil =>
      have e1 : tookS (([] : List UInt8), (0 : Int)) (1 : Int).toNat = [] := rfl
      have e2 : takeS (([] : List UInt8), (0 : Int)) (1 : Int).toNat = ([], 4) := rfl
      rw [e1, e2]
      exact ⟨rfl, rfl⟩
    | cons c r =>
      have hc := c.toNat_lt
      have e1 : tookS (c :: r, (0 : Int)) (1 : Int).toNat = [c] := by
        unfold tookS; rw [if_neg (by simp)]; rfl
      have e2 : takeS (c :: r, (0 : Int)) (1 : Int).toNat = (r, 0) := by
        unfold takeS; rw [if_neg (by simp)]; rfl
      have e3 : valB [c] = c.toNat := by simp [valB]
      have h3 : ¬ ((255 : Int) < ((c.toNat : Nat) : Int)) := by omega
      rw [e1, e2, e3, if_neg h3, if_pos rfl, if_pos rfl]
      exact ⟨rfl, rfl⟩
  · have hl : l = [] := h he
    subst hl
    have e1 : tookS (([] : List UInt8), e) (1 : Int).toNat = [] := rfl
    have e2 : takeS (([] : List UInt8), e) (1 : Int).toNat = ([], e) := by
      unfold takeS; rw [if_pos (by simp)]; unfold failS; rw [if_neg (fun x => he x.1)]
    rw [e1, e2, if_neg he, if_neg he]
    exact ⟨rfl, rfl⟩
end Go.Proofs.YthpangacpihclaaDoor
