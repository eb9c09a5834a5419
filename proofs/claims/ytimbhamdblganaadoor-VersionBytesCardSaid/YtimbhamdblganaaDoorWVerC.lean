/-
  What is asked of the program's stores: contracts, whatever a store's memory looks like.
-/
import Derived.Test.YtimbhamdblganaaDoorWVerM
import Derived.Test.YtimbhamdblganaaDoorW1
/-! VerC -/
namespace Go.Proofs.YtimbhamdblganaaDoor
open Go.RowKit

/-- A slice of policies. -/
abbrev PolsAt (w : World) (v : Value) (l : List Pol) : Prop := SlAt polC 66 PolOk w v l
abbrev storeV (b : Nat) : Value := .pointer (some ⟨b, 0, none⟩)
/-- What the memory of a store is: at block b the store S, whose memory is F. -/
structure VerRel where
  At : World → Nat → Sto → (Nat → Prop) → Prop
  lt : ∀ {w b S F}, At w b S F → F b ∧ ∀ k, F k → k < w.heap.size
  kept : ∀ {w w' b S F} {T : Nat → Prop}, At w b S F → Chg T w w' → (∀ k, F k → ¬ T k) → At w' b S F
theorem VerRel.below {K : VerRel} {w w' : World} {b : Nat} {S : Sto} {F : Nat → Prop} (h : K.At w b S F) (hB : Below w.heap.size w w') : K.At w' b S F :=
  K.kept h (Chg.ofBelow (S := fun _ => False) hB) fun _ _ h => h
def VeNewC (K : VerRel) : Prop := ∀ (p : Pol) (w : World), PolOk p → Calls Tryd.prog 17 #[.agg (polC p)] w fun e w' => ∃ b F, e = .returned (storeV b) ∧ K.At w' b ⟨0, [p]⟩ F ∧ (∀ k, F k → w.heap.size ≤ k) ∧ Below w.heap.size w w'
def VeCommitC (K : VerRel) : Prop := ∀ {w b S F} (p : Pol), K.At w b S F → StoOk S → PolOk p → Calls Tryd.prog 18 #[storeV b, .agg (polC p)] w fun e w' => ∃ F', e = .returned (.int .i64 (comE S)) ∧ K.At w' b (comS S p) F' ∧ (∀ k, F' k → F k ∨ w.heap.size ≤ k) ∧ Chg F w w'
def VeAtC (K : VerRel) : Prop := ∀ {w b S F} (e : Int), K.At w b S F → StoOk S → -9223372036854775808 ≤ e → e ≤ 9223372036854775807 → Calls Tryd.prog 19 #[storeV b, .int .i64 e] w fun x w' => x = .returned (.tuple #[.agg (polC (atP S e)), .int .i64 (atE S e)]) ∧ Below w.heap.size w w'
def VeEpochC (K : VerRel) : Prop := ∀ {w b S F}, K.At w b S F → StoOk S → Calls Tryd.prog 22 #[storeV b] w fun e w' => e = .returned (.int .i64 (S.ep : Int)) ∧ Below w.heap.size w w'
def VeNowC (K : VerRel) : Prop := ∀ {w b S F}, K.At w b S F → StoOk S → Calls Tryd.prog 23 #[storeV b] w fun e w' => e = .returned (.agg (polC (nowP S))) ∧ Below w.heap.size w w'
def VeKeptC (K : VerRel) : Prop := ∀ {w b S F}, K.At w b S F → StoOk S → Calls Tryd.prog 21 #[storeV b] w fun e w' => ∃ u, e = .returned u ∧ w'.ownsRow w.heap.size 46 66 u S.l.length (flatC polC S.l) ∧ Below w.heap.size w w'
def VeCountC : Prop := ∀ (e : Int) (w : World), -9223372036854775808 ≤ e → e ≤ 9223372036854775807 → Calls Tryd.prog 24 #[.int .i64 e] w fun x w' => x = .returned (.int .i64 (keptN e : Nat)) ∧ w = w'
def VeOfC (K : VerRel) : Prop := ∀ (e : Int) (v : Value) (l : List Pol) (w : World), PolsAt w v l → keptN e ≠ 0 → l.length = keptN e → Calls Tryd.prog 20 #[.int .i64 e, v] w fun x w' => ∃ b F, x = .returned (.tuple #[storeV b, .int .i64 0]) ∧ K.At w' b ⟨e.toNat, l⟩ F ∧ (∀ k, F k → w.heap.size ≤ k) ∧ Below w.heap.size w w'
def VeOfNoC : Prop := ∀ (e : Int) (v : Value) (l : List Pol) (w : World), PolsAt w v l → -9223372036854775808 ≤ e → e ≤ 9223372036854775807 → keptN e = 0 ∨ l.length ≠ keptN e → Calls Tryd.prog 20 #[.int .i64 e, v] w fun x w' => x = .returned (.tuple #[.pointer none, .int .i64 (if keptN e = 0 then 8 else 3)]) ∧ Below w.heap.size w w'
def VeAliveC : Prop := ∀ (w : World), Calls Tryd.prog 4 #[] w fun e w' => e = .returned (.bool true) ∧ Below w.heap.size w w'
/-- A nil store, or one that nobody made (its cells: z). -/
def NobVe (z : Array Value) (w : World) (v : Value) : Prop := v = .pointer none ∨ ∃ b, v = storeV b ∧ Blk w b z 78
theorem NobVe.below {z : Array Value} {w w' : World} {v : Value} (h : NobVe z w v) (hB : Below w.heap.size w w') : NobVe z w' v := by
  rcases h with h | ⟨b, h1, h2⟩
  · exact .inl h
  · exact .inr ⟨b, h1, h2.below hB h2.lt⟩
def VeNobCommitC (z : Array Value) : Prop := ∀ (v : Value) (p : Pol) (w : World), PolOk p → NobVe z w v → Calls Tryd.prog 18 #[v, .agg (polC p)] w fun x w' => x = .returned (.int .i64 2) ∧ Below w.heap.size w w'
def VeNobEpochC (z : Array Value) : Prop := ∀ (v : Value) (w : World), NobVe z w v → Calls Tryd.prog 22 #[v] w fun x w' => x = .returned (.int .i64 0) ∧ Below w.heap.size w w'
/-- In V: a store that was made since w; what was there in w has not changed. -/
structure VeW (K : VerRel) (w : World) (b : Nat) (S : Sto) (V : World) : Prop where
  below : Below w.heap.size w V
  ok : StoOk S
  ex : ∃ F, K.At V b S F ∧ ∀ k, F k → w.heap.size ≤ k
section
variable {K : VerRel} {w : World} {b : Nat} {S : Sto} {V V' : World}
theorem VeW.step (h : VeW K w b S V) (hB : Below V.heap.size V V') : VeW K w b S V' := by
  obtain ⟨F, h1, h2⟩ := h.ex
  exact ⟨h.below.trans (hB.mono h.below.size), h.ok, F, VerRel.below h1 hB, h2⟩
theorem VeW.made (c : VeNewC K) {p : Pol} (hp : PolOk p) (hB : Below w.heap.size w V) : Calls Tryd.prog 17 #[.agg (polC p)] V fun e w' => ∃ b, e = .returned (storeV b) ∧ VeW K w b ⟨0, [p]⟩ w' :=
  (c p V hp).mono fun _ _ ⟨b, F, he, hA, hF, hB2⟩ => ⟨b, he, hB.trans (hB2.mono hB.size), sto_one hp, F, hA, fun k hk => Nat.le_trans hB.size (hF k hk)⟩
theorem VeW.commit (c : VeCommitC K) (h : VeW K w b S V) {p : Pol} (hp : PolOk p) : Calls Tryd.prog 18 #[storeV b, .agg (polC p)] V fun e w' => e = .returned (.int .i64 (comE S)) ∧ VeW K w b (comS S p) w' := by
  obtain ⟨F, h1, h2⟩ := h.ex
  refine (c p h1 h.ok hp).mono fun _ _ ⟨F', he, hA, hs, hc⟩ => ⟨he, h.below.trans (hc.below h.below.size h2), comS_ok h.ok hp, F', hA, fun k hk => (hs k hk).elim (h2 k) (fun x => Nat.le_trans h.below.size x)⟩
theorem VeW.keptL (c : VeKeptC K) (h : VeW K w b S V) : Calls Tryd.prog 21 #[storeV b] V fun x w' => ∃ u, x = .returned u ∧ w'.ownsRow V.heap.size 46 66 u S.l.length (flatC polC S.l) ∧ Below V.heap.size V w' := by
  obtain ⟨F, h3, -⟩ := h.ex
  exact c h3 h.ok
end
end Go.Proofs.YtimbhamdblganaaDoor
