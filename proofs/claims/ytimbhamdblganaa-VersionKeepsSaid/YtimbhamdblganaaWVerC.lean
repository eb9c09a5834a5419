/-
  What is asked of the program's stores: contracts, whatever a store's memory looks like.
-/
import Derived.Test.YtimbhamdblganaaWVerM
import Derived.Test.YtimbhamdblganaaWSlc
/-! VerC -/
namespace Go.Proofs.Ytimbhamdblganaa
open Go.RowKit

/-- A slice of sets, of any length. -/
def U16sV (w : World) (v : Value) (l : List Nat) : Prop :=
  ∃ p cap, v = .slice p l.length cap ∧ l.length ≤ 9223372036854775807 ∧ (l ≠ [] → ∃ b off, p = some ⟨b, off, none⟩ ∧ b < w.heap.size ∧ ∀ i, (h : i < l.length) → w.cell? ⟨b, off + i, none⟩ = some (.int .u16 l[i]))
/-- A slice of policies. -/
abbrev PolsAt (w : World) (v : Value) (l : List Pol) : Prop := SlAt polC 66 PolOk w v l
abbrev storeV (b : Nat) : Value := .pointer (some ⟨b, 0, none⟩)
/-- What the memory of a store is: at block b the store S, whose memory is F. -/
structure VerRel where
  At : World → Nat → Sto → (Nat → Prop) → Prop
  lt : ∀ {w b S F}, At w b S F → F b ∧ ∀ k, F k → k < w.heap.size
  kept : ∀ {w w' b S F} {T : Nat → Prop}, At w b S F → Chg T w w' → (∀ k, F k → ¬ T k) → At w' b S F
theorem VerRel.below {K : VerRel} {w w' : World} {b : Nat} {S : Sto} {F : Nat → Prop} (h : K.At w b S F) (hB : Below w.heap.size w w') : K.At w' b S F :=
  K.kept h (Chg.ofBelow (S := fun _ => False) hB) fun _ _ h => h
def VeNewC (K : VerRel) : Prop := ∀ (p : Pol) (w : World), PolOk p → Calls Try.prog 8 #[.agg (polC p)] w fun e w' => ∃ b F, e = .returned (storeV b) ∧ K.At w' b ⟨0, [p]⟩ F ∧ (∀ k, F k → w.heap.size ≤ k) ∧ Below w.heap.size w w'
def VeCommitC (K : VerRel) : Prop := ∀ {w b S F} (p : Pol), K.At w b S F → StoOk S → PolOk p → Calls Try.prog 11 #[storeV b, .agg (polC p)] w fun e w' => ∃ F', e = .returned (.int .i64 (comE S)) ∧ K.At w' b (comS S p) F' ∧ (∀ k, F' k → F k ∨ w.heap.size ≤ k) ∧ Chg F w w'
def VeAtC (K : VerRel) : Prop := ∀ {w b S F} (e : Int), K.At w b S F → StoOk S → -9223372036854775808 ≤ e → e ≤ 9223372036854775807 → Calls Try.prog 13 #[storeV b, .int .i64 e] w fun x w' => x = .returned (.tuple #[.agg (polC (atP S e)), .int .i64 (atE S e)]) ∧ Below w.heap.size w w'
def VeEpochC (K : VerRel) : Prop := ∀ {w b S F}, K.At w b S F → StoOk S → Calls Try.prog 12 #[storeV b] w fun e w' => e = .returned (.int .i64 (S.ep : Int)) ∧ Below w.heap.size w w'
def VeNowC (K : VerRel) : Prop := ∀ {w b S F}, K.At w b S F → StoOk S → Calls Try.prog 18 #[storeV b] w fun e w' => e = .returned (.agg (polC (nowP S))) ∧ Below w.heap.size w w'
def VeKeptC (K : VerRel) : Prop := ∀ {w b S F}, K.At w b S F → StoOk S → Calls Try.prog 16 #[storeV b] w fun e w' => ∃ u, e = .returned u ∧ w'.ownsRow w.heap.size 34 66 u S.l.length (flatC polC S.l) ∧ Below w.heap.size w w'
def VeCountC : Prop := ∀ (e : Int) (w : World), -9223372036854775808 ≤ e → e ≤ 9223372036854775807 → Calls Try.prog 21 #[.int .i64 e] w fun x w' => x = .returned (.int .i64 (keptN e : Nat)) ∧ w = w'
def VeOfC (K : VerRel) : Prop := ∀ (e : Int) (v : Value) (l : List Pol) (w : World), PolsAt w v l → keptN e ≠ 0 → l.length = keptN e → Calls Try.prog 19 #[.int .i64 e, v] w fun x w' => ∃ b F, x = .returned (.tuple #[storeV b, .int .i64 0]) ∧ K.At w' b ⟨e.toNat, l⟩ F ∧ (∀ k, F k → w.heap.size ≤ k) ∧ Below w.heap.size w w'
def VeOfNoC : Prop := ∀ (e : Int) (v : Value) (l : List Pol) (w : World), PolsAt w v l → -9223372036854775808 ≤ e → e ≤ 9223372036854775807 → keptN e = 0 ∨ l.length ≠ keptN e → Calls Try.prog 19 #[.int .i64 e, v] w fun x w' => x = .returned (.tuple #[.pointer none, .int .i64 (if keptN e = 0 then 8 else 3)]) ∧ Below w.heap.size w w'
def VeAliveC : Prop := ∀ (w : World), Calls Try.prog 7 #[] w fun e w' => e = .returned (.bool true) ∧ Below w.heap.size w w'
/-- A nil store, or one that nobody made (its cells: z). -/
def NobVe (z : Array Value) (w : World) (v : Value) : Prop := v = .pointer none ∨ ∃ b, v = storeV b ∧ Blk w b z 58
theorem NobVe.below {z : Array Value} {w w' : World} {v : Value} (h : NobVe z w v) (hB : Below w.heap.size w w') : NobVe z w' v := by
  rcases h with h | ⟨b, h1, h2⟩
  · exact .inl h
  · exact .inr ⟨b, h1, h2.below hB h2.lt⟩
def VeNobAtC (z : Array Value) : Prop := ∀ (v : Value) (e : Int) (w : World), NobVe z w v → Calls Try.prog 13 #[v, .int .i64 e] w fun x w' => x = .returned (.tuple #[.agg (polC zeroP), .int .i64 2]) ∧ Below w.heap.size w w'
def VeNobCommitC (z : Array Value) : Prop := ∀ (v : Value) (p : Pol) (w : World), PolOk p → NobVe z w v → Calls Try.prog 11 #[v, .agg (polC p)] w fun x w' => x = .returned (.int .i64 2) ∧ Below w.heap.size w w'
def VeNobEpochC (z : Array Value) : Prop := ∀ (v : Value) (w : World), NobVe z w v → Calls Try.prog 12 #[v] w fun x w' => x = .returned (.int .i64 0) ∧ Below w.heap.size w w'
def VeNobNowC (z : Array Value) : Prop := ∀ (v : Value) (w : World), NobVe z w v → Calls Try.prog 18 #[v] w fun x w' => x = .returned (.agg (polC zeroP)) ∧ Below w.heap.size w w'
def VeNobKeptC (z : Array Value) : Prop := ∀ (v : Value) (w : World), NobVe z w v → Calls Try.prog 16 #[v] w fun x w' => x = .returned (.slice none 0 0) ∧ Below w.heap.size w w'

/-- In V: a store that was made since w; what was there in w has not changed. -/
structure VeW (K : VerRel) (w : World) (b : Nat) (S : Sto) (V : World) : Prop where
  below : Below w.heap.size w V
  ok : StoOk S
  ex : ∃ F, K.At V b S F ∧ ∀ k, F k → w.heap.size ≤ k
section
variable {K : VerRel} {w : World} {b : Nat} {S : Sto} {V V' : World}
theorem VeW.step (h : VeW K w b S V) (hB : Below V.heap.size V V') : VeW K w b S V' := by
  obtain ⟨F, h1, h2⟩ := h.ex
  exact ⟨h.below.trans (hB.mono h.below.size), h.ok, F, VerRel.below h1 hB, h2⟩
theorem VeW.made (c : VeNewC K) {p : Pol} (hp : PolOk p) (hB : Below w.heap.size w V) : Calls Try.prog 8 #[.agg (polC p)] V fun e w' => ∃ b, e = .returned (storeV b) ∧ VeW K w b ⟨0, [p]⟩ w' :=
  (c p V hp).mono fun _ _ ⟨b, F, he, hA, hF, hB2⟩ => ⟨b, he, hB.trans (hB2.mono hB.size), sto_one hp, F, hA, fun k hk => Nat.le_trans hB.size (hF k hk)⟩
theorem VeW.commit (c : VeCommitC K) (h : VeW K w b S V) {p : Pol} (hp : PolOk p) : Calls Try.prog 11 #[storeV b, .agg (polC p)] V fun e w' => e = .returned (.int .i64 (comE S)) ∧ VeW K w b (comS S p) w' := by
  obtain ⟨F, h1, h2⟩ := h.ex
  refine (c p h1 h.ok hp).mono fun _ _ ⟨F', he, hA, hs, hc⟩ => ⟨he, h.below.trans (hc.below h.below.size h2), comS_ok h.ok hp, F', hA, fun k hk => (hs k hk).elim (h2 k) (fun x => Nat.le_trans h.below.size x)⟩
theorem VeW.at_ (c : VeAtC K) (h : VeW K w b S V) (e : Int) (h1 : -9223372036854775808 ≤ e) (h2 : e ≤ 9223372036854775807) : Calls Try.prog 13 #[storeV b, .int .i64 e] V fun x w' => x = .returned (.tuple #[.agg (polC (atP S e)), .int .i64 (atE S e)]) ∧ VeW K w b S w' := by
  obtain ⟨F, h3, -⟩ := h.ex
  exact (c e h3 h.ok h1 h2).mono fun x w' ⟨he, hB⟩ => ⟨he, h.step hB⟩
theorem VeW.epoch (c : VeEpochC K) (h : VeW K w b S V) : Calls Try.prog 12 #[storeV b] V fun x w' => x = .returned (.int .i64 (S.ep : Int)) ∧ VeW K w b S w' := by
  obtain ⟨F, h3, -⟩ := h.ex
  exact (c h3 h.ok).mono fun x w' ⟨he, hB⟩ => ⟨he, h.step hB⟩
theorem VeW.keptL (c : VeKeptC K) (h : VeW K w b S V) : Calls Try.prog 16 #[storeV b] V fun x w' => ∃ u, x = .returned u ∧ w'.ownsRow V.heap.size 34 66 u S.l.length (flatC polC S.l) ∧ Below V.heap.size V w' := by
  obtain ⟨F, h3, -⟩ := h.ex
  exact c h3 h.ok
/-- What lies apart from the store, and was made since, is changed. -/
theorem VeW.chg {T : Nat → Prop} (h : VeW K w b S V) {V2 : World} (hB : Below V.heap.size V V2) (hc : Chg T V2 V') (hT : ∀ k, T k → V.heap.size ≤ k) : VeW K w b S V' := by
  obtain ⟨F, h1, h2⟩ := h.ex
  have hlt := (K.lt h1).2
  have h3 := h.below.trans (hB.mono h.below.size)
  exact ⟨h3.trans (hc.below h3.size fun k hk => Nat.le_trans h.below.size (hT k hk)), h.ok, F, K.kept (VerRel.below h1 hB) hc (fun k hk ht => by have := hlt k hk; have := hT k ht; omega), h2⟩
end
end Go.Proofs.Ytimbhamdblganaa
