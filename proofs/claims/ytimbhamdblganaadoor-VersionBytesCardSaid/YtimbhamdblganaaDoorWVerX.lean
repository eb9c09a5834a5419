/-
  Stores: what is read has the bytes from which it was read; what is written is read. What is asked of Bytes and Read.
-/
import Derived.Test.YtimbhamdblganaaDoorWVerB
import Derived.Test.YtimbhamdblganaaDoorWVerD
import Derived.Test.YtimbhamdblganaaDoorWPolB
import Derived.Test.YtimbhamdblganaaDoorWPolC
import Derived.Test.YtimbhamdblganaaDoorW1
/-! VerX -/
namespace Go.Proofs.YtimbhamdblganaaDoor
open Go.RowKit

theorem dNum_stick {s : WSt} {z most : Nat} (h1 : 1 ≤ z) (h4 : z ≤ 4) (h : s.2 ≠ 0) : (dNum s (z : Int) (most : Int)).2.2 ≠ 0 := fun e => h (dNum_zero h1 h4 e).1
theorem dNum_stick2 {s : WSt} (h : s.2 ≠ 0) : (dNum s 2 65535).2.2 ≠ 0 := dNum_stick (z := 2) (most := 65535) (by decide) (by decide) h
theorem dNum_stick1 {s : WSt} (h : s.2 ≠ 0) : (dNum s 1 16).2.2 ≠ 0 := dNum_stick (z := 1) (most := 16) (by decide) (by decide) h
theorem rdR_stick {s : WSt} (h : s.2 ≠ 0) : ∀ k, (rdR s k).2.2 ≠ 0
  | 0 => dNum_stick2 h
  | k + 1 => by
    show (rdRole (rdR s k) k).2.2 ≠ 0
    unfold rdRole
    split
    · rw [rdG_snd]
      refine dNum_stick2 ?_
      rw [rdI_snd]
      refine dNum_stick2 ?_
      rw [rdS_snd]
      exact dNum_stick2 (rdR_stick h k)
    · exact rdR_stick h k
theorem rdT_stick {s : WSt} (h : s.2 ≠ 0) : ∀ t, (rdT s t).2.2 ≠ 0
  | 0 => dNum_stick2 (rdR_stick h 16)
  | t + 1 => by
    exact dNum_stick1 (rdT_stick h t)
theorem rdE_zero {s : WSt} (h : (rdE s).2 = 0) : s.2 = 0 := by
  by_cases h0 : s.2 = 0
  · exact h0
  · exfalso
    have h1 := rdT_stick h0 16
    unfold rdE at h
    rw [if_neg (fun e => h1 e.1)] at h
    exact h1 h
/-- What was read of so many has their bytes. -/
theorem vrMany_wr : ∀ (n : Nat) (acc : List Pol) (s : WSt), (vrMany n acc s).2.2 = 0 → s.2 = 0 ∧ ∃ m, (vrMany n acc s).1 = acc ++ m ∧ m.length = n ∧ (∀ p ∈ m, fineP p = true) ∧ s.1 = m.flatMap bytesP ++ (vrMany n acc s).2.1
  | 0, acc, s, h => ⟨h, [], (List.append_nil acc).symm, ⟨rfl, (fun _ h => by cases h), rfl⟩⟩
  | n + 1, acc, s, h => by
    obtain ⟨h1, m, h2, h3, h4, h5⟩ := vrMany_wr n (acc ++ [rdPo s]) (rdE s) h
    have h0 := rdE_zero h1
    obtain ⟨b, e⟩ := s
    obtain rfl : e = 0 := h0
    obtain ⟨hf, hb⟩ := wr_rd b h1
    refine ⟨rfl, rdPo (b, 0) :: m, ?_, congrArg (· + 1) h3, fun p hp => ?_, ?_⟩
    · show (vrMany n (acc ++ [rdPo (b, 0)]) (rdE (b, 0))).1 = _
      rw [h2, List.append_assoc, List.singleton_append]
    · rcases List.mem_cons.1 hp with e | hp
      · rw [e]; exact hf
      · exact h4 p hp
    · show b = _ ++ (vrMany n (acc ++ [rdPo (b, 0)]) (rdE (b, 0))).2.1
      rw [List.flatMap_cons, List.append_assoc, ← h5]
      exact hb
theorem vr_wr {L : List UInt8} (h : (vrAll (L, 0)).2.2 = 0) : L = bytesVe (vrE (L, 0)) (vrL (L, 0)) ++ (vrAll (L, 0)).2.1 ∧ vrE (L, 0) ≤ 255 ∧ (vrL (L, 0)).length = keptN (vrE (L, 0)) ∧ ∀ p ∈ vrL (L, 0), fineP p = true := by
  have e1 : vrE (L, 0) = byteV (L, 0) := if_pos h
  have e2 : vrL (L, 0) = (vrAll (L, 0)).1 := if_pos h
  obtain ⟨h1, m, h2, h3, h4, h5⟩ := vrMany_wr (keptN (byteV (L, 0) : Nat)) [] (byteS (L, 0)) h
  have h6 : (vrAll (L, 0)).1 = m := h2
  cases L with
  | nil => cases h1
  | cons c r =>
    have hv : byteV (c :: r, 0) = c.toNat := rfl
    have hs : byteS (c :: r, 0) = (r, 0) := rfl
    rw [hs] at h5
    have h5 : r = m.flatMap bytesP ++ (vrAll (c :: r, 0)).2.1 := h5
    rw [e1, e2, h6, hv]
    rw [hv] at h3
    refine ⟨?_, by have := UInt8.toNat_lt c; omega, h3, h4⟩
    unfold bytesVe bytesVK
    rw [List.take_length, UInt8.ofNat_toNat, List.cons_append, ← h5]
theorem vrMany_rd : ∀ (l acc : List Pol) (r : List UInt8), (∀ p ∈ l, PolOk p ∧ fineP p = true) → (vrMany l.length acc (l.flatMap bytesP ++ r, 0)).2 = (r, 0) ∧ (vrMany l.length acc (l.flatMap bytesP ++ r, 0)).1.map polC = acc.map polC ++ l.map polC
  | [], acc, r, _ => by simp [vrMany]
  | p :: l, acc, r, h => by
    obtain ⟨h1, h2⟩ := h p (by simp)
    obtain ⟨r1, r2⟩ := rd_wr h1 h2 (l.flatMap bytesP ++ r)
    have e : (p :: l).flatMap bytesP ++ r = bytesP p ++ (l.flatMap bytesP ++ r) := by simp
    have ih := vrMany_rd l (acc ++ [rdPo (bytesP p ++ (l.flatMap bytesP ++ r), 0)]) r (fun q hq => h q (by simp [hq]))
    rw [e, List.length_cons]
    show (vrMany l.length (acc ++ [rdPo (bytesP p ++ (l.flatMap bytesP ++ r), 0)]) (rdE (bytesP p ++ (l.flatMap bytesP ++ r), 0))).2 = _ ∧ (vrMany l.length (acc ++ [rdPo (bytesP p ++ (l.flatMap bytesP ++ r), 0)]) (rdE (bytesP p ++ (l.flatMap bytesP ++ r), 0))).1.map polC = _
    rw [r2]
    refine ⟨ih.1, ?_⟩
    rw [ih.2]
    simp [r1]
theorem wr_vr {e : Nat} {l : List Pol} (he : e ≤ 255) (hl : l.length = keptN (e : Int)) (hp : ∀ p ∈ l, PolOk p ∧ fineP p = true) (r : List UInt8) : vrE (bytesVe e l ++ r, 0) = e ∧ (vrL (bytesVe e l ++ r, 0)).map polC = l.map polC ∧ (vrAll (bytesVe e l ++ r, 0)).2 = (r, 0) := by
  have e0 : bytesVe e l ++ r = UInt8.ofNat e :: (l.flatMap bytesP ++ r) := by
    unfold bytesVe bytesVK
    rw [List.take_length]
    rfl
  have hv : byteV (bytesVe e l ++ r, 0) = e := by
    rw [e0]
    show (UInt8.ofNat e).toNat = e
    simp; omega
  have hs : byteS (bytesVe e l ++ r, 0) = (l.flatMap bytesP ++ r, 0) := by rw [e0]; rfl
  have ha : vrAll (bytesVe e l ++ r, 0) = vrMany l.length [] (l.flatMap bytesP ++ r, 0) := by
    unfold vrAll
    rw [hv, hs, hl]
  obtain ⟨h1, h2⟩ := vrMany_rd l [] r hp
  rw [← ha] at h1 h2
  have hz : (vrAll (bytesVe e l ++ r, 0)).2.2 = 0 := by rw [h1]
  unfold vrE vrL
  rw [if_pos hz, if_pos hz, hv]
  exact ⟨rfl, by rw [h2]; rfl, h1⟩
/-- Slices with the same cells. -/
theorem pols_cells {w : World} {v : Value} {l m : List Pol} (h : PolsAt w v m) (e : m.map polC = l.map polC) (hl : ∀ p ∈ l, PolOk p) : PolsAt w v l := by
  have hn : m.length = l.length := by have := congrArg List.length e; simpa using this
  obtain ⟨p, cap, rfl, h2, h3⟩ := h
  refine ⟨p, cap, by rw [hn], by rw [← hn]; exact h2, fun hne => ?_⟩
  obtain ⟨b, off, h5, h6, h7⟩ := h3 (fun e => hne (by subst e; simpa using hn.symm))
  refine ⟨b, off, h5, h6, fun i hi => ⟨hl _ (List.getElem_mem hi), ?_⟩⟩
  have h8 := (h7 i (by omega)).2
  have h9 : polC (m[i]'(by omega)) = polC l[i] := by
    have := congrArg (fun x => x[i]?) e
    simp only [List.getElem?_map] at this
    rw [List.getElem?_eq_getElem (by omega), List.getElem?_eq_getElem hi] at this
    exact Option.some.inj this
  rwa [h9] at h8
/-- Policies in memory that was made since. -/
structure NewPl (B : Nat) (w : World) (v : Value) (l : List Pol) : Prop where
  at_ : PolsAt w v l
  new : ∀ a n c, v = .slice (some a) n c → B ≤ a.block
theorem NewPl.chg {S : Nat → Prop} {B : Nat} {w w' : World} {v : Value} {l : List Pol} (h : NewPl B w v l) (hc : Chg S w w') (hS : ∀ k, S k → k < B) : NewPl B w' v l :=
  ⟨h.at_.chg hc (fun a n c e hs => by have := h.new a n c e; have := hS _ hs; omega), h.new⟩
def VeBytesC : Prop := ∀ (e : Nat) (v : Value) (l : List Pol) (w : World), PolsAt w v l → e ≤ 255 → l.length ≤ 8 → (∀ p ∈ l, fineP p = true) → Calls Tryd.prog 12 #[.int .i64 (e : Int), v] w fun x w' => ∃ u, x = .returned u ∧ w'.ownsRow w.heap.size 5 1 u (bytesVe e l).length (bvs (bytesVe e l)) ∧ Below w.heap.size w w'
def VeReadC : Prop := ∀ (b : Nat) (t : TypeId) (g : Nat) (s : WSt) (w : World), TabOk w → RAt w b t g s → g ≠ b → g < w.heap.size → s.1.length ≤ 1000000 → Fit s → Calls Tryd.prog 6 #[.pointer (some ⟨b, 0, none⟩)] w fun x w' => ∃ u, x = .returned (.tuple #[.int .i64 (vrE s : Nat), u]) ∧ NewPl w.heap.size w' u (vrL s) ∧ RTo w b t g (vrAll s).2 w'
end Go.Proofs.YtimbhamdblganaaDoor
