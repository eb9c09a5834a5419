/-
  Parts, numbers or texts: written one behind the other, and read again.
-/
import Derived.Test.YtbmcajhknohhdaaWirM
namespace Go.Proofs.Ytbmcajhknohhdaa

structure PartM where
  t : Bool
  n : Int
  size : Int
  most : Int
  s : ByteArray
def PartM.bytes (p : PartM) : List UInt8 := p.s.data.toList
/-- Is anything too long? -/
def longB (l : List PartM) : Bool := l.any fun p => decide (300 < p.s.size)
def farB (l : List PartM) : Bool := longB l || decide (40 < l.length)
theorem longB_snoc (l : List PartM) (p : PartM) : longB (l ++ [p]) = (longB l || decide (300 < p.s.size)) := by simp [longB]
theorem longB_take {l : List PartM} {k : Nat} (h : k < l.length) : longB (l.take (k + 1)) = (longB (l.take k) || decide (300 < l[k].s.size)) := by
  rw [List.take_succ_eq_append_getElem h, longB_snoc]
theorem longB_at {l : List PartM} (h : longB l = false) (k : Nat) (hk : k < l.length) : l[k].s.size ≤ 300 := by
  have := List.any_eq_false.1 h l[k] (List.getElem_mem hk)
  simpa using this
theorem farB_not {l : List PartM} (h : farB l = false) : l.length ≤ 40 ∧ longB l = false := by
  unfold farB at h
  simp at h
  exact ⟨h.2, h.1⟩
theorem longB_mono {l : List PartM} {k : Nat} (h : longB (l.take k) = true) : longB l = true := by
  unfold longB at *
  rw [List.any_eq_true] at *
  obtain ⟨p, hp, hq⟩ := h
  exact ⟨p, List.mem_of_mem_take hp, hq⟩

def wPart (s : WSt) (p : PartM) : WSt := if p.t then wText s p.bytes else wNum s p.n p.size
def rPart (s : WSt) (p : PartM) : WSt := if p.t then rText s p.bytes else rNum s p.n p.size
def wAll (l : List PartM) : WSt := l.foldl wPart ([], 0)
def rAll (l : List PartM) : WSt := l.foldl rPart ([], 0)
theorem wAll_take {l : List PartM} {k : Nat} (h : k < l.length) : wAll (l.take (k + 1)) = wPart (wAll (l.take k)) l[k] := by
  unfold wAll; rw [List.take_succ_eq_append_getElem h, List.foldl_append]; rfl
theorem rAll_take {l : List PartM} {k : Nat} (h : k < l.length) : rAll (l.take (k + 1)) = rPart (rAll (l.take k)) l[k] := by
  unfold rAll; rw [List.take_succ_eq_append_getElem h, List.foldl_append]; rfl
theorem wPart_le (s : WSt) (p : PartM) : (wPart s p).1.length ≤ s.1.length + 256 := by
  unfold wPart; split
  · exact wText_le _ _
  · exact wNum_le _ _ _
theorem rPart_le (s : WSt) (p : PartM) : (rPart s p).1.length ≤ s.1.length + 256 := by
  unfold rPart; split
  · exact rText_le _ _
  · exact rNum_le _ _ _
theorem wPart_t {s : WSt} {p : PartM} (h : p.t = true) : wPart s p = wText s p.bytes := by unfold wPart; rw [if_pos h]
theorem wPart_f {s : WSt} {p : PartM} (h : p.t = false) : wPart s p = wNum s p.n p.size := by unfold wPart; rw [if_neg (by rw [h]; decide)]
theorem rPart_t {s : WSt} {p : PartM} (h : p.t = true) : rPart s p = rText s p.bytes := by unfold rPart; rw [if_pos h]
theorem rPart_f {s : WSt} {p : PartM} (h : p.t = false) : rPart s p = rNum s p.n p.size := by unfold rPart; rw [if_neg (by rw [h]; decide)]
theorem same_part {s r : WSt} (h : Same s r) (p : PartM) : Same (wPart s p) (rPart r p) := by
  cases ht : p.t
  · rw [wPart_f ht, rPart_f ht]; exact h.num _ _
  · rw [wPart_t ht, rPart_t ht]; exact h.text _

theorem foldl_le (f : WSt → PartM → WSt) (hf : ∀ s p, (f s p).1.length ≤ s.1.length + 256) (l : List PartM) : ∀ s : WSt, (l.foldl f s).1.length ≤ s.1.length + 256 * l.length := by
  induction l with
  | nil => intro s; simp
  | cons p l ih => intro s; have h1 := ih (f s p); have h2 := hf s p; simp only [List.foldl_cons, List.length_cons]; omega
theorem wAll_le {l : List PartM} (h : l.length ≤ 40) (k : Nat) : (wAll (l.take k)).1.length ≤ 10240 := by
  have := foldl_le wPart wPart_le (l.take k) ([], 0)
  have h2 : (l.take k).length ≤ l.length := List.length_take_le' _ _
  unfold wAll; simp only [List.length_nil] at this; omega
theorem rAll_le {l : List PartM} (h : l.length ≤ 40) (k : Nat) : (rAll (l.take k)).1.length ≤ 10240 := by
  have := foldl_le rPart rPart_le (l.take k) ([], 0)
  have h2 : (l.take k).length ≤ l.length := List.length_take_le' _ _
  unfold rAll; simp only [List.length_nil] at this; omega

def okP (p : PartM) : Bool := if p.t then decide (p.bytes.length ≤ 255) else okN p.n p.size
def encP (p : PartM) : List UInt8 := if p.t then UInt8.ofNat p.bytes.length :: p.bytes else be p.n.toNat p.size.toNat
theorem addS_zero {s : WSt} {l : List UInt8} (h : (addS s l).2 = 0) : s.2 = 0 ∧ addS s l = (s.1 ++ l, 0) := by
  unfold addS at *
  by_cases e : s.2 = 0
  · rw [if_pos e]; exact ⟨e, by rw [e]⟩
  · rw [if_neg e] at h; exact absurd h e
theorem failS_zero {s : WSt} {c : Int} (hc : c ≠ 0) (h : (failS s c).2 = 0) : False := by
  unfold failS at h
  by_cases e : s.2 = 0
  · rw [if_pos ⟨e, hc⟩] at h; exact hc h
  · rw [if_neg (fun x => e x.1)] at h; exact e h
theorem wPart_zero {s : WSt} {p : PartM} (h : (wPart s p).2 = 0) : s.2 = 0 ∧ okP p = true ∧ wPart s p = (s.1 ++ encP p, 0) := by
  cases ht : p.t
  · rw [wPart_f ht] at h ⊢
    unfold okP encP
    rw [ht]
    unfold wNum at *
    cases ho : okN p.n p.size
    · rw [ho] at h; exact (failS_zero (by decide) h).elim
    · rw [ho] at h
      obtain ⟨h1, h2⟩ := addS_zero h
      exact ⟨h1, rfl, h2⟩
  · rw [wPart_t ht] at h ⊢
    unfold okP encP
    rw [ht]
    unfold wText at *
    by_cases ho : 255 < p.bytes.length
    · rw [if_pos ho] at h; exact (failS_zero (by decide) h).elim
    · rw [if_neg ho] at h ⊢
      obtain ⟨h1, h2⟩ := addS_zero h
      exact ⟨h1, by simp; omega, h2⟩
theorem foldl_zero (l : List PartM) : ∀ s : WSt, (l.foldl wPart s).2 = 0 → s.2 = 0 ∧ (∀ p ∈ l, okP p = true) ∧ l.foldl wPart s = (s.1 ++ l.flatMap encP, 0) := by
  induction l with
  | nil =>
    intro s h
    refine ⟨h, (fun _ h => by cases h), ?_⟩
    show s = (s.1 ++ [], 0)
    rw [List.append_nil]
    exact Prod.ext rfl h
  | cons p l ih =>
    intro s h
    obtain ⟨h1, h2, h3⟩ := ih (wPart s p) h
    obtain ⟨h4, h5, h6⟩ := wPart_zero h1
    refine ⟨h4, fun q hq => ?_, ?_⟩
    · rcases List.mem_cons.1 hq with rfl | hq
      · exact h5
      · exact h2 q hq
    · rw [List.foldl_cons, h3, h6]; simp
theorem wAll_zero {l : List PartM} (h : (wAll l).2 = 0) : (∀ p ∈ l, okP p = true) ∧ wAll l = (l.flatMap encP, 0) := by
  obtain ⟨-, h2, h3⟩ := foldl_zero l ([], 0) h
  exact ⟨h2, by unfold wAll; rw [h3]; simp⟩
theorem fit_part {s : WSt} (h : Fit s) (p : PartM) : Fit (wPart s p) := by
  unfold wPart wText wNum
  split
  · split
    · exact fit_fail h _
    · exact fit_add h _
  · split
    · exact fit_add h _
    · exact fit_fail h _
theorem fit_foldl (l : List PartM) : ∀ s : WSt, Fit s → Fit (l.foldl wPart s) := by
  induction l with
  | nil => intro s h; exact h
  | cons p l ih => intro s h; exact ih _ (fit_part h p)
theorem fit_all (l : List PartM) : Fit (wAll l) := fit_foldl l _ (fun h => absurd rfl h)

/-- What was written is read. -/
theorem took_app (a r : List UInt8) (n : Nat) (h : a.length = n) : tookS (a ++ r, 0) n = a ∧ takeS (a ++ r, 0) n = (r, 0) := by
  unfold tookS takeS
  rw [if_neg (by simp; omega), if_neg (by simp; omega)]
  exact ⟨by simp [← h], by simp [← h]⟩
theorem read_num {n size : Int} (h : okN n size = true) (r : List UInt8) : dNum (be n.toNat size.toNat ++ r, 0) size 4294967296 = (n, (r, 0)) := by
  obtain ⟨h1, h2, h3, h4⟩ := okN_iff.1 h
  have hs : sizedB size = true := by unfold sizedB; simp [h1, h2]
  obtain ⟨e1, e2⟩ := took_app (be n.toNat size.toNat) r size.toNat (be_length _ _)
  obtain ⟨k, rfl⟩ := Int.eq_ofNat_of_zero_le h3
  have hk : k < 256 ^ size.toNat := by
    have : ((256 ^ size.toNat : Nat) : Int) = (256 : Int) ^ size.toNat := by simp
    omega
  unfold dNum
  rw [hs, if_pos rfl, e1, e2]
  simp only [Int.toNat_natCast]
  rw [valB_be k _ hk]
  have h5 : (256 : Nat) ^ size.toNat ≤ 256 ^ 4 := Nat.pow_le_pow_right (by decide) (by omega)
  rw [if_neg (by have : (256 : Nat) ^ 4 = 4294967296 := by decide
                 omega)]
theorem read_text {t : List UInt8} (h : t.length ≤ 255) (r : List UInt8) : dText ((UInt8.ofNat t.length :: t) ++ r, 0) 255 = (t, (r, 0)) := by
  have h1 : dNum ((UInt8.ofNat t.length :: t) ++ r, 0) 1 255 = (((t.length : Nat) : Int), (t ++ r, 0)) := by
    obtain ⟨e1, e2⟩ := took_app [UInt8.ofNat t.length] (t ++ r) 1 rfl
    unfold dNum
    rw [show sizedB 1 = true from rfl, if_pos rfl]
    show (if (255 : Int) < (valB (tookS ([UInt8.ofNat t.length] ++ (t ++ r), 0) 1) : Int) then ((0 : Int), failS (takeS ([UInt8.ofNat t.length] ++ (t ++ r), 0) 1) 8) else (((valB (tookS ([UInt8.ofNat t.length] ++ (t ++ r), 0) 1) : Nat) : Int), takeS ([UInt8.ofNat t.length] ++ (t ++ r), 0) 1)) = _
    have hv : valB (tookS ([UInt8.ofNat t.length] ++ (t ++ r), 0) 1) = t.length := by
      rw [e1]; simp [valB]; omega
    rw [hv, if_neg (by omega), e2]
  obtain ⟨e1, e2⟩ := took_app t r t.length rfl
  unfold dText
  rw [h1]
  simp only [Int.toNat_natCast]
  rw [if_neg (by omega), e1, e2]
theorem rest_drop {l : List PartM} {k : Nat} (h : k < l.length) : (l.drop k).flatMap encP = encP l[k] ++ (l.drop (k + 1)).flatMap encP := by
  rw [List.drop_eq_getElem_cons h, List.flatMap_cons]
theorem drop_len (l : List PartM) (k : Nat) : ((l.drop k).flatMap encP).length ≤ (l.flatMap encP).length := by
  have h : l.flatMap encP = (l.take k).flatMap encP ++ (l.drop k).flatMap encP := by rw [← List.flatMap_append, List.take_append_drop]
  rw [h, List.length_append]; omega
/-- What is known behind no call, one, two. -/
def turnSt {α : Type} (a b c : α) : Nat → α
  | 0 => a
  | 1 => b
  | _ => c
end Go.Proofs.Ytbmcajhknohhdaa
