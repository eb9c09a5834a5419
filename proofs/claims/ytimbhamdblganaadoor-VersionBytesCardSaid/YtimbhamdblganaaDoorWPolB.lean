/-
  Policies' bytes in plain terms: what is written is read; what is read is written as the same bytes.
-/
import Derived.Test.YtimbhamdblganaaDoorWPolZ
import Derived.Test.YtimbhamdblganaaDoorWPolW
import Derived.Test.YtimbhamdblganaaDoorWPolN
/-! PolB -/
namespace Go.Proofs.YtimbhamdblganaaDoor

theorem be_valB : ∀ (n : Nat) (l : List UInt8), l.length = n → be (valB l) n = l := by
  intro n
  induction n with
  | zero => intro l h; rw [List.eq_nil_of_length_eq_zero h]; rfl
  | succ n ih =>
    intro l h
    have hne : l ≠ [] := by intro e; rw [e] at h; cases h
    have e := List.dropLast_concat_getLast hne
    have hd : l.dropLast.length = n := by rw [List.length_dropLast]; omega
    generalize l.dropLast = d at *
    generalize l.getLast hne = c at *
    rw [← e, valB_snoc]
    show be ((256 * valB d + c.toNat) / 256) n ++ [UInt8.ofNat (256 * valB d + c.toNat)] = d ++ [c]
    have h := c.toNat_lt
    rw [show (256 * valB d + c.toNat) / 256 = valB d by omega, ih d hd]
    have e : UInt8.ofNat (256 * valB d + c.toNat) = c := by
      apply UInt8.toNat_inj.1
      rw [UInt8.toNat_ofNat']; omega
    rw [e]
/-- A number that was written is read. -/
theorem dNum_be {n z most : Nat} (h1 : 1 ≤ z) (h4 : z ≤ 4) (hn : n < 256 ^ z) (hm : n ≤ most) (r : List UInt8) : dNum (be n z ++ r, 0) (z : Int) (most : Int) = ((n : Int), (r, 0)) := by
  have hz : sizedB (z : Int) = true := by unfold sizedB; simp; omega
  rw [dNum_long hz (by rw [List.length_append, be_length]; omega), List.take_left' (be_length n z), List.drop_left' (be_length n z), valB_be n z hn, if_neg (by omega)]
/-- What is read without an error is the number that is written so. -/
theorem dNum_zero {s : WSt} {z most : Nat} (h1 : 1 ≤ z) (h4 : z ≤ 4) (h : (dNum s (z : Int) (most : Int)).2.2 = 0) : s.2 = 0 ∧ s.1 = be (dNum s (z : Int) (most : Int)).1.toNat z ++ (dNum s (z : Int) (most : Int)).2.1 := by
  have hz : sizedB (z : Int) = true := by unfold sizedB; simp; omega
  obtain ⟨l, e⟩ := s
  by_cases he : e = 0
  · subst he
    refine ⟨rfl, ?_⟩
    by_cases hl : l.length < z
    · rw [dNum_short hz hl] at h; cases h
    · rw [dNum_long hz (by omega)] at h ⊢
      split at h
      · cases h
      · rename_i hm
        rw [if_neg hm]
        simp only [Int.toNat_natCast]
        have ht : (l.take z).length = z := by rw [List.length_take]; omega
        rw [be_valB z _ ht, List.take_append_drop]
  · exfalso
    have hf : ∀ (t : WSt) (c : Int), t.2 ≠ 0 → (failS t c).2 ≠ 0 := fun t c ht => by unfold failS; rw [if_neg (fun k => ht k.1)]; exact ht
    have ht : (takeS (l, e) z).2 ≠ 0 := by
      unfold takeS; split
      · exact hf _ _ he
      · exact he
    unfold dNum at h
    rw [if_pos hz, Int.toNat_natCast] at h
    split at h
    · exact hf _ _ ht h
    · exact ht h

theorem dNum_be2 {n : Nat} (hn : n < 65536) (r : List UInt8) : dNum (be n 2 ++ r, 0) 2 65535 = ((n : Int), (r, 0)) := dNum_be (z := 2) (most := 65535) (by decide) (by decide) hn (by omega) r
theorem dNum_be1 {n : Nat} (hn : n ≤ 16) (r : List UInt8) : dNum (be n 1 ++ r, 0) 1 16 = ((n : Int), (r, 0)) := dNum_be (z := 1) (most := 16) (by decide) (by decide) (by omega) hn r

/-! Written, then read. -/
def qR (p : Pol) (k : Nat) : Pol := ⟨p.live, uptoN p.s (fun _ => 0) k, uptoN p.i (fun _ => 0) k, uptoN p.acts (fun _ => 0) k, fun _ => 0, 0⟩
def qT (p : Pol) (t : Nat) : Pol := { qR p 16 with owner := uptoN p.owner (fun _ => 0) t, active := p.active }
theorem uptoN_null {f : Nat → Nat} {k : Nat} (h : f k = 0) : uptoN f (fun _ => 0) (k + 1) = uptoN f (fun _ => 0) k := by
  rw [← uptoN_step]
  funext r; unfold upd
  by_cases e : r = k
  · subst e; rw [if_pos rfl, uptoN_at]; exact h
  · rw [if_neg e]
theorem role_nil {p : Pol} {k : Nat} (h : roleB p k = true) (hl : p.live.testBit k = false) : p.s k = 0 ∧ p.i k = 0 ∧ p.acts k = 0 := by
  unfold roleB nilB at h
  rw [hl] at h
  simp at h
  exact ⟨h.1.1.1, h.1.1.2, h.1.2⟩
theorem wr_rdR {p : Pol} (hp : PolOk p) (hf : ∀ k, k < 16 → roleB p k = true) (k : Nat) (hk : k ≤ 16) : ∀ rest, rdR (bytR p k ++ rest, 0) k = (qR p k, (rest, 0)) := by
  induction k with
  | zero =>
    intro rest
    show rdLive (be p.live 2 ++ rest, 0) = _
    unfold rdLive
    rw [dNum_be2 hp.live]
    unfold qR
    rw [uptoN_zero, uptoN_zero, uptoN_zero]
    rfl
  | succ k ih =>
    intro rest
    show rdRole (rdR (bytR p k ++ roleL p k ++ rest, 0) k) k = _
    rw [List.append_assoc, ih (by omega)]
    unfold rdRole
    rw [show (qR p k).live = p.live from rfl]
    cases hl : p.live.testBit k with
    | false =>
      obtain ⟨e1, e2, e3⟩ := role_nil (hf k (by omega)) hl
      rw [if_neg (by simp)]
      unfold roleL
      rw [if_neg (by rw [hl]; simp), List.nil_append]
      unfold qR
      rw [uptoN_null e1, uptoN_null e2, uptoN_null e3]
    | true =>
      have hk16 : k < 16 := by omega
      rw [if_pos rfl]
      unfold roleL
      rw [if_pos hl]
      unfold rdS
      simp only
      rw [List.append_assoc, List.append_assoc, dNum_be2 (hp.s k hk16)]
      unfold rdI
      simp only
      rw [dNum_be2 (hp.i k hk16)]
      unfold rdG
      simp only
      rw [dNum_be2 (hp.acts k hk16)]
      simp only [Int.toNat_natCast]
      unfold Pol.putS Pol.putI Pol.putA qR
      simp only [uptoN_step]
theorem wr_rdT {p : Pol} (hp : PolOk p) (hf : fineP p = true) (t : Nat) (ht : t ≤ 16) : ∀ rest, rdT (bytO p t ++ rest, 0) t = (qT p t, (rest, 0)) := by
  obtain ⟨h1, h2⟩ := fine_iff.1 hf
  induction t with
  | zero =>
    intro rest
    show rdA (rdR (bytR p 16 ++ be p.active 2 ++ rest, 0) 16) = _
    rw [List.append_assoc, wr_rdR hp h1 16 (Nat.le_refl _)]
    unfold rdA
    simp only
    rw [dNum_be2 hp.active]
    unfold qT
    rw [uptoN_zero]
    rfl
  | succ t ih =>
    intro rest
    show rdO (rdT (bytO p t ++ [UInt8.ofNat (p.owner t)] ++ rest, 0) t) t = _
    rw [List.append_assoc, ih (by omega)]
    have ho : p.owner t ≤ 16 := by
      have := h2 t (by omega)
      unfold ownerB at this
      rw [Bool.and_eq_true] at this
      simpa using this.1
    have e : [UInt8.ofNat (p.owner t)] = be (p.owner t) 1 := rfl
    rw [e]
    unfold rdO
    simp only
    rw [dNum_be1 ho]
    simp only [Int.toNat_natCast]
    unfold Pol.putO qT
    simp only [uptoN_step]
theorem polC_congr {p q : Pol} (h0 : p.live = q.live) (h1 : ∀ r, r < 16 → p.s r = q.s r ∧ p.i r = q.i r ∧ p.acts r = q.acts r) (h2 : ∀ t, t < 16 → p.owner t = q.owner t) (h3 : p.active = q.active) : polC p = polC q := by
  unfold polC
  congr 1
  apply List.map_congr_left
  intro k hk
  have hk := List.mem_range.1 hk
  unfold polAt
  split
  · rw [h0]
  · split
    · split
      · rw [(h1 (k / 2) (by omega)).1]
      · rw [(h1 (k / 2 - 1) (by omega)).2.1]
    · split
      · rw [(h1 (k - 33) (by omega)).2.2]
      · split
        · rw [h2 (k - 49) (by omega)]
        · rw [h3]
theorem qT_role (p : Pol) {r : Nat} (hr : r < 16) : (qT p 16).s r = p.s r ∧ (qT p 16).i r = p.i r ∧ (qT p 16).acts r = p.acts r :=
  ⟨uptoN_in (f := p.s) (g := fun _ => 0) hr, uptoN_in (f := p.i) (g := fun _ => 0) hr, uptoN_in (f := p.acts) (g := fun _ => 0) hr⟩
theorem qT_own (p : Pol) {t : Nat} (ht : t < 16) : (qT p 16).owner t = p.owner t := uptoN_in (f := p.owner) (g := fun _ => 0) ht
theorem qT_cells (p : Pol) : polC (qT p 16) = polC p :=
  polC_congr rfl (fun _ hr => qT_role p hr) (fun _ ht => qT_own p ht) rfl
theorem fine_congr {p q : Pol} (h0 : p.live = q.live) (h1 : ∀ r, r < 16 → p.s r = q.s r ∧ p.i r = q.i r ∧ p.acts r = q.acts r) (h2 : ∀ t, t < 16 → p.owner t = q.owner t) (h3 : p.active = q.active) (h : fineP p = true) : fineP q = true := by
  obtain ⟨k1, k2⟩ := fine_iff.1 h
  refine fine_yes (fun r hr => ?_) fun t ht => ?_
  · have := k1 r hr
    unfold roleB nilB at *
    rw [← h0, ← h3, ← (h1 r hr).1, ← (h1 r hr).2.1, ← (h1 r hr).2.2]; exact this
  · have := k2 t ht
    unfold ownerB at *
    rw [← h0, ← h3, ← h2 t ht]; exact this
theorem rd_wr {p : Pol} (hp : PolOk p) (hf : fineP p = true) (rest : List UInt8) : polC (rdPo (bytesP p ++ rest, 0)) = polC p ∧ rdE (bytesP p ++ rest, 0) = (rest, 0) := by
  have h := wr_rdT hp hf 16 (Nat.le_refl _) rest
  have hq : fineP (qT p 16) = true := fine_congr (p := p) rfl (fun _ hr => ⟨(qT_role p hr).1.symm, (qT_role p hr).2.1.symm, (qT_role p hr).2.2.symm⟩) (fun _ ht => (qT_own p ht).symm) rfl hf
  have hE : rdE (bytesP p ++ rest, 0) = (rest, 0) := by
    unfold rdE bytesP; rw [h, if_neg (by rw [hq]; simp)]
  refine ⟨?_, hE⟩
  unfold rdPo
  rw [hE, if_pos rfl]
  unfold bytesP
  rw [h]
  exact qT_cells p

/-! Read, then written. -/
theorem rdS_snd (x : RdSt) (k : Nat) : (rdS x k).2 = (dNum x.2 2 65535).2 := rfl
theorem rdI_snd (x : RdSt) (k : Nat) : (rdI x k).2 = (dNum x.2 2 65535).2 := rfl
theorem rdG_snd (x : RdSt) (k : Nat) : (rdG x k).2 = (dNum x.2 2 65535).2 := rfl
theorem dNum_zero2 {s : WSt} (h : (dNum s 2 65535).2.2 = 0) : s.2 = 0 ∧ s.1 = be (dNum s 2 65535).1.toNat 2 ++ (dNum s 2 65535).2.1 := dNum_zero (s := s) (z := 2) (most := 65535) (by decide) (by decide) h
theorem dNum_zero1 {s : WSt} (h : (dNum s 1 16).2.2 = 0) : s.2 = 0 ∧ s.1 = be (dNum s 1 16).1.toNat 1 ++ (dNum s 1 16).2.1 := dNum_zero (s := s) (z := 1) (most := 16) (by decide) (by decide) h
theorem bytR_congr {p q : Pol} (k : Nat) (h0 : p.live = q.live) (h : ∀ r, r < k → p.s r = q.s r ∧ p.i r = q.i r ∧ p.acts r = q.acts r) : bytR p k = bytR q k := by
  induction k with
  | zero => show be p.live 2 = be q.live 2; rw [h0]
  | succ k ih =>
    show bytR p k ++ roleL p k = bytR q k ++ roleL q k
    rw [ih (fun r hr => h r (by omega))]
    unfold roleL
    obtain ⟨e1, e2, e3⟩ := h k (by omega)
    rw [h0, e1, e2, e3]
theorem bytO_congr {p q : Pol} (t : Nat) (h0 : bytR p 16 = bytR q 16) (h1 : p.active = q.active) (h : ∀ r, r < t → p.owner r = q.owner r) : bytO p t = bytO q t := by
  induction t with
  | zero => show bytR p 16 ++ _ = bytR q 16 ++ _; rw [h0, h1]
  | succ t ih =>
    show bytO p t ++ _ = bytO q t ++ _
    rw [ih (fun r hr => h r (by omega)), h t (by omega)]
theorem rdR_wr (b : List UInt8) (k : Nat) (h : (rdR (b, 0) k).2.2 = 0) : b = bytR (rdR (b, 0) k).1 k ++ (rdR (b, 0) k).2.1 := by
  induction k with
  | zero => exact (dNum_zero (s := (b, 0)) (z := 2) (most := 65535) (by decide) (by decide) h).2
  | succ k ih =>
    have hx : rdR (b, 0) (k + 1) = rdRole (rdR (b, 0) k) k := rfl
    rw [hx] at h ⊢
    generalize rdR (b, 0) k = x at *
    cases hl : x.1.live.testBit k with
    | false =>
      have e : rdRole x k = x := by unfold rdRole; rw [if_neg (by rw [hl]; simp)]
      rw [e] at h ⊢
      show b = bytR x.1 k ++ roleL x.1 k ++ x.2.1
      unfold roleL
      rw [if_neg (by rw [hl]; simp), List.append_nil]
      exact ih h
    | true =>
      have e : rdRole x k = rdG (rdI (rdS x k) k) k := by unfold rdRole; rw [if_pos hl]
      rw [e] at h ⊢
      rw [rdG_snd] at h
      have h3 := dNum_zero2 h
      have h31 := h3.1
      rw [rdI_snd] at h31
      have h2 := dNum_zero2 h31
      have h21 := h2.1
      rw [rdS_snd] at h21
      have h1 := dNum_zero2 h21
      have hb := ih h1.1
      have ec : bytR (rdG (rdI (rdS x k) k) k).1 k = bytR x.1 k := bytR_congr k rfl (fun r hr => by
        have hne : r ≠ k := by omega
        exact ⟨upd_other (j := r) x.1.s _ hne, upd_other (j := r) x.1.i _ hne, upd_other (j := r) x.1.acts _ hne⟩)
      have es : (rdG (rdI (rdS x k) k) k).1.s k = (dNum x.2 2 65535).1.toNat := upd_same x.1.s k _
      have ei : (rdG (rdI (rdS x k) k) k).1.i k = (dNum (rdS x k).2 2 65535).1.toNat := upd_same x.1.i k _
      have ea : (rdG (rdI (rdS x k) k) k).1.acts k = (dNum (rdI (rdS x k) k).2 2 65535).1.toNat := upd_same x.1.acts k _
      have el : (rdG (rdI (rdS x k) k) k).1.live.testBit k = true := hl
      have ez : (rdG (rdI (rdS x k) k) k).2.1 = (dNum (rdI (rdS x k) k).2 2 65535).2.1 := by rw [rdG_snd]
      have e1 : (rdS x k).2.1 = (dNum x.2 2 65535).2.1 := by rw [rdS_snd]
      have e2 : (rdI (rdS x k) k).2.1 = (dNum (rdS x k).2 2 65535).2.1 := by rw [rdI_snd]
      have h12 := h1.2
      have h22 := h2.2
      have h32 := h3.2
      clear h h1 h2 h3 ih h31 h21
      rw [e1] at h22
      rw [e2] at h32
      unfold bytR
      rw [ec]
      unfold roleL
      rw [if_pos el, es, ei, ea, ez]
      generalize rdG (rdI (rdS x k) k) k = G at *
      generalize dNum (rdI (rdS x k) k).2 2 65535 = D3 at *
      generalize dNum (rdS x k).2 2 65535 = D2 at *
      generalize dNum x.2 2 65535 = D1 at *
      rw [hb, h12, h22, h32]
      simp only [List.append_assoc]
theorem rdT_wr (b : List UInt8) (t : Nat) (h : (rdT (b, 0) t).2.2 = 0) : b = bytO (rdT (b, 0) t).1 t ++ (rdT (b, 0) t).2.1 := by
  induction t with
  | zero =>
    have h1 := dNum_zero2 (s := (rdR (b, 0) 16).2) h
    have hb := rdR_wr b 16 h1.1
    have h12 := h1.2
    have e0 : rdT (b, 0) 0 = rdA (rdR (b, 0) 16) := rfl
    rw [e0]
    generalize rdR (b, 0) 16 = x at *
    have ec : bytR (rdA x).1 16 = bytR x.1 16 := bytR_congr 16 rfl (fun r _ => ⟨rfl, rfl, rfl⟩)
    have ea : (rdA x).1.active = (dNum x.2 2 65535).1.toNat := rfl
    have ez : (rdA x).2.1 = (dNum x.2 2 65535).2.1 := rfl
    unfold bytO
    rw [ec, ea, ez]
    clear ec ea ez h1 h e0
    generalize dNum x.2 2 65535 = D at *
    rw [hb, h12, List.append_assoc]
  | succ t ih =>
    have hx : rdT (b, 0) (t + 1) = rdO (rdT (b, 0) t) t := rfl
    rw [hx] at h ⊢
    generalize rdT (b, 0) t = x at *
    have h1 := dNum_zero1 (s := x.2) h
    have hb := ih h1.1
    have h12 := h1.2
    have ec : bytO (rdO x t).1 t = bytO x.1 t := bytO_congr t (bytR_congr 16 rfl (fun r _ => ⟨rfl, rfl, rfl⟩)) rfl (fun r hr => by
      have hne : r ≠ t := by omega
      exact upd_other (j := r) x.1.owner _ hne)
    have eo : (rdO x t).1.owner t = (dNum x.2 1 16).1.toNat := upd_same x.1.owner t _
    have ez : (rdO x t).2.1 = (dNum x.2 1 16).2.1 := rfl
    have e1 : [UInt8.ofNat (dNum x.2 1 16).1.toNat] = be (dNum x.2 1 16).1.toNat 1 := rfl
    unfold bytO
    rw [ec, eo, ez, e1]
    clear ec eo ez e1 h1 h ih
    generalize dNum x.2 1 16 = D at *
    rw [hb, h12, List.append_assoc]
theorem wr_rd (b : List UInt8) (h : (rdE (b, 0)).2 = 0) : fineP (rdPo (b, 0)) = true ∧ b = bytesP (rdPo (b, 0)) ++ (rdE (b, 0)).1 := by
  have hP : rdPo (b, 0) = (rdT (b, 0) 16).1 := by unfold rdPo; rw [if_pos h]
  unfold rdE at h
  split at h
  · cases h
  · rename_i hc
    have hE : rdE (b, 0) = (rdT (b, 0) 16).2 := by unfold rdE; rw [if_neg hc]
    rw [hP, hE]
    refine ⟨?_, rdT_wr b 16 h⟩
    cases hf : fineP (rdT (b, 0) 16).1 with
    | true => rfl
    | false => exact absurd ⟨h, hf⟩ hc
end Go.Proofs.YtimbhamdblganaaDoor
